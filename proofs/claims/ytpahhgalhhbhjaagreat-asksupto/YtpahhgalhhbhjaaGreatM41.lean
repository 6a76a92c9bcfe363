import Derived.Test.YtpahhgalhhbhjaaGreatM40
import Derived.Test.YtpahhgalhhbhjaaGreatProg
import Derived.Conc.MuLone
import Derived.KernelRfl
import Derived.Defers
/- The program: Ask, of what may be a message. -/
namespace Go.Proofs.YtpahhgalhhbhjaaGreat
open Go.RowKit Go.Trawl

theorem told_put {w W w1 : World} {sb : Nat} {vr v v0 v1 v2 : Value} {st : RSt} {l : List UInt8} (hb : Below w.heap.size w W) (h : SAt W sb vr st) (hn : NewB W w1 v l) (hz : w.heap.size < W.heap.size) (hsl : sb < w.heap.size) (hvl : ∀ k, vr.ownBlock = some k → k < w.heap.size) :
    Told w (put3 w1 w.heap.size v0 v1 v2) sb vr st v l := by
  have hG := put3_grown w1 w.heap.size v0 v1 v2
  exact ⟨(h.below hn.below).grown hG (by omega) (fun e => by have := hvl _ e; omega), own_grown hn.own hG (fun e => by have := hn.new _ e; omega), fun k hk => by have := hn.new k hk; omega,
    grownBy_trans' (grown_below (hb.trans (hn.below.mono (by omega)))) hG (.inr ⟨_, rfl, Nat.le_refl _⟩)⟩
theorem told_put2 {w W w1 : World} {sb : Nat} {vr v v0 v1 v2 : Value} {st : RSt} {l : List UInt8} (hb : Below w.heap.size w W) (hn : Told W w1 sb vr st v l) (hz : w.heap.size < W.heap.size) (hsl : sb < w.heap.size) (hvl : ∀ k, vr.ownBlock = some k → k < w.heap.size) :
    Told w (put3 w1 w.heap.size v0 v1 v2) sb vr st v l := by
  have hG := put3_grown w1 w.heap.size v0 v1 v2
  exact ⟨hn.at_.grown hG (by omega) (fun e => by have := hvl _ e; omega), own_grown hn.own hG (fun e => by have := hn.new _ e; omega), fun k hk => by have := hn.new k hk; omega,
    grownBy_trans' (grownBy_trans (grown_below hb) hn.grown) hG (.inr ⟨_, rfl, Nat.le_refl _⟩)⟩

set_option maxRecDepth 10000 in
set_option maxHeartbeats 4000000 in
theorem sAsk_long (w : World) (sb b c : Nat) (vr : Value) (st : RSt) (s : ByteArray) (h : SAt w sb vr st) (hok : StOk st) (hbz : st.busy = false) (hs : ¬ s.size < 12) (hsm : s.size ≤ 2097152) (hsc : s.size ≤ c) (hbl : b < w.heap.size) (hby : Bytes w b s) :
    Calls Tryz.prog 37 #[.pointer (some ⟨sb, 0, none⟩), .slice (some ⟨b, 0, none⟩) s.size c] w (Tells w sb vr (askS st s)) := by
  have hcs := ask_cases st s hok hbz hs
  have hb1 := (Below.refl w.heap.size w).alloc (Nat.le_refl _) (.cells #[Value.int IntKind.i64 0, Value.int IntKind.u32 0, Value.slice none 0 0] 61)
  have HS1 := hide (h.below hb1)
  have HX1 := hide (heap_new w (.cells #[Value.int IntKind.i64 0, Value.int IntKind.u32 0, Value.slice none 0 0] 61))
  have HY1 := hide (hby.below hbl hb1)
  have HB1 := hide hb1
  have hc := box_cells HS1.out.box
  have hsl : sb < w.heap.size := heap_lt h.box
  have hvl := h.lt
  have HOK := hide hok
  clear h hb1 hby hok
  simp only [stCells, hbz] at hc
  unfold Tells
  generalize hp : askS st s = p at hcs ⊢
  have HCS := hide hcs
  clear hcs hp
  go_enter Tryz.func37, Tryz.ntmps37
  go_wp2_with fail
  generalize w.alloc (.cells #[Value.int IntKind.i64 0, Value.int IntKind.u32 0, Value.slice none 0 0] 61) = W1 at HS1 HX1 HY1 HB1 hc ⊢
  clear hc
  have hz1 : w.heap.size < W1.heap.size := heap_lt HX1.out
  refine (wUnpack2 W1 b c s hsm hsc (by omega) HY1.out).mono ?_
  rintro e w2 ⟨aq, cq, aa, ca, au, cu, ax, cx, rfl, H2⟩
  have HB2 := hide (HB1.out.trans (H2.out.1.mono HB1.out.size))
  have HS2 := hide (HS1.out.below H2.out.1)
  have HX2 := hide ((H2.out.1.block _ hz1).trans HX1.out)
  have HY2 := hide (HY1.out.below (by omega) H2.out.1)
  have HQ2 := hide H2.out.2.1
  have HLQ := hide H2.out.2.2
  have hz2 := H2.out.1.size
  clear H2 HB1 HS1 HX1 HY1
  generalize unM s = m at HCS HQ2 HLQ ⊢
  generalize unE s = er at HCS ⊢
  have hb3 := (Below.refl w2.heap.size w2).alloc (Nat.le_refl _) (.cells (msgCells m (.slice aq m.qs.length cq) (.slice aa m.an.length ca) (.slice au m.au.length cu) (.slice ax m.ex.length cx)) 32)
  have HB3 := hide (HB2.out.trans (hb3.mono HB2.out.size))
  have HS3 := hide (HS2.out.below hb3)
  have HX3 := hide ((hb3.block _ (by omega)).trans HX2.out)
  have HY3 := hide (HY2.out.below (by omega) hb3)
  have HQ3 := hide (HQ2.out.below hb3)
  have HM3 := hide (heap_new w2 (.cells (msgCells m (.slice aq m.qs.length cq) (.slice aa m.an.length ca) (.slice au m.au.length cu) (.slice ax m.ex.length cx)) 32))
  clear hb3 HB2 HS2 HX2 HY2 HQ2
  simp only [msgCells] at HB3 HS3 HX3 HY3 HQ3 HM3 ⊢
  go_wp2_with fail
  generalize w2.alloc _ = W3 at HB3 HS3 HX3 HY3 HQ3 HM3 ⊢
  generalize hM : w2.heap.size = M at HM3 hz2 ⊢
  have hc0 := HY3.out 0 (by omega)
  have hc1 := HY3.out 1 (by omega)
  have hcm := box_cells HM3.out
  have hfm := frozen_of_block HM3.out
  have l0 := at8_lt s 0
  have l1 := at8_lt s 1
  have hMb : ¬ M = b := by omega
  have hMb' : ¬ b = M := by omega
  have V1 : Hid (bits BinOp.or IntKind.u16 (((at8 s 0 : Nat) : Int) * 256) (IntKind.u16.wrap ((at8 s 1 : Nat) : Int)) = (n2 s 0 : Int)) := by
    show _ = _
    rw [show IntKind.u16.wrap ((at8 s 1 : Nat) : Int) = ((at8 s 1 : Nat) : Int) by rw [IntKind.wrap_u16]; omega]
    exact or256 l0 l1
  have V2 : Hid (bits BinOp.or IntKind.u16 (IntKind.u16.wrap (IntKind.u16.wrap ((at8 s 0 : Nat) : Int) * 256)) ((at8 s 1 : Nat) : Int) = (n2 s 0 : Int)) := by
    show _ = _
    rw [show IntKind.u16.wrap (IntKind.u16.wrap ((at8 s 0 : Nat) : Int) * 256) = ((at8 s 0 : Nat) : Int) * 256 by rw [IntKind.wrap_u16, IntKind.wrap_u16]; omega]
    exact or256 l0 l1
  have V3 : Hid (bits BinOp.or IntKind.u16 (IntKind.u16.wrap (IntKind.u16.wrap ((at8 s 0 : Nat) : Int) * 256)) (IntKind.u16.wrap ((at8 s 1 : Nat) : Int)) = (n2 s 0 : Int)) := by
    show _ = _
    rw [show IntKind.u16.wrap ((at8 s 1 : Nat) : Int) = ((at8 s 1 : Nat) : Int) by rw [IntKind.wrap_u16]; omega]
    exact V2.out
  have hn2 := n2_lt s 0
  have HN2 := hide hn2
  have hq0 : (0 : Int) < (s.size : Int) := by omega
  have hq1 : (1 : Int) < (s.size : Int) := by omega
  have hq2 : 0 < s.size := by omega
  have hq3 : 1 < s.size := by omega
  clear hn2
  go_region_held3 (fun w' => w'.cell? ⟨b, 0, none⟩ = some (.int .u8 (at8 s 0)) ∧ w'.cell? ⟨b, 1, none⟩ = some (.int .u8 (at8 s 1))) (go_keep) (fail)
  all_goals
    first | rw [V1.out] | rw [V2.out] | rw [V3.out]
    clear V1 V2 V3 hc0 hc1 hcm hfm l0 l1
    have hx4 := heap_setCell_eq (j := 0) HM3.out (.int .u16 (n2 s 0))
    have hG4 : W3.grownBy (W3.setCell ⟨M, 0, none⟩ (.int .u16 (n2 s 0))).drew (some M) := grownBy_trans (grownBy_setCell W3 M 0 _) (grownBy_drew _ _)
    have HM4 : Hid ((W3.setCell ⟨M, 0, none⟩ (.int .u16 (n2 s 0))).drew.heap[M]? = some (.cells (msgCells { m with id := n2 s 0 } (.slice aq m.qs.length cq) (.slice aa m.an.length ca) (.slice au m.au.length cu) (.slice ax m.ex.length cx)) 32)) := hx4
    have HG4 := hide hG4
    clear hx4 hG4
    generalize (W3.setCell ⟨M, 0, none⟩ (.int .u16 (n2 s 0))).drew = W4 at HM4 HG4 ⊢
    have HB4 : Hid (Below w.heap.size w W4) := below_of_grown HB3.out (by omega) HG4.out
    have HS4 := hide (HS3.out.grown HG4.out (by omega) (fun e => by have := hvl _ e; omega))
    have HX4 := hide ((HG4.out.block _ (heap_lt HX3.out) (by simp; omega)).trans HX3.out)
    have HQ4 : Hid (Lies W4 3 (.slice aq m.qs.length cq) (m.qs.map Qn.cells)) := HQ3.out.keep HG4.out.size (fun k hk hlt => HG4.out.block k hlt (by have := HLQ.out k hk; simp; omega))
    clear HM3 HG4 HB3 HS3 HX3 HQ3 HY3
    have hcm := box_cells HM4.out
    simp only [msgCells] at hcm
    rcases HCS.out with ⟨hbad, rfl⟩ | ⟨rfl, hrp, hln, rfl⟩ | ⟨q, rfl, hrp, hqs, hnq, hcc⟩
    · have HW : Hid (WfM (asReply (refM (n2 s 0) 1 []))) := { ref_wf (i := n2 s 0) (k := 1) (qs := []) (by omega) (by have := HN2.out; omega) (by decide) (by decide) (by simp) (by simp) with }
      have goes : Code.wp = Code.wp := rfl
      clear goes
      rcases hbad with rfl | ⟨rfl, hrp⟩
      · go_wp2_with fail
        refine (refusal_new (n2 s 0) 1 [] none 0 W4 HW.out (liesNil _ _)).mono ?_
        rintro e w5 ⟨a5, c5, rfl, H5⟩
        have HX5 := hide ((H5.out.below.block _ (heap_lt HX4.out)).trans HX4.out)
        clear hcm
        have hcz := box_cells HX5.out
        have hfz := frozen_of_block HX5.out
        unfold stepX
        generalize hps : packL (asReply (refM (n2 s 0) 1 [])) = ps at H5 ⊢
        go_wp2_with fail
        clear hcz hfz
        refine bodyPost_ret (results_cell_row2 rfl _ _ w.heap.size _ _ _ _ rfl (put3_box (.int .i64 2) (.int .u32 0) (.slice a5 ps.length c5) HX5.out) undXs rfl (by kernel_rfl)) rfl ?_
        exact ⟨2, 0, a5, ps, c5, rfl, rfl, told_put HB4.out HS4.out H5.out (heap_lt HX4.out) hsl hvl⟩
      · rw [hrp] at hcm
        go_wp2_with fail
        refine (refusal_new (n2 s 0) 1 [] none 0 W4 HW.out (liesNil _ _)).mono ?_
        rintro e w5 ⟨a5, c5, rfl, H5⟩
        have HX5 := hide ((H5.out.below.block _ (heap_lt HX4.out)).trans HX4.out)
        clear hcm
        have hcz := box_cells HX5.out
        have hfz := frozen_of_block HX5.out
        unfold stepX
        generalize hps : packL (asReply (refM (n2 s 0) 1 [])) = ps at H5 ⊢
        go_wp2_with fail
        clear hcz hfz
        refine bodyPost_ret (results_cell_row2 rfl _ _ w.heap.size _ _ _ _ rfl (put3_box (.int .i64 2) (.int .u32 0) (.slice a5 ps.length c5) HX5.out) undXs rfl (by kernel_rfl)) rfl ?_
        exact ⟨2, 0, a5, ps, c5, rfl, rfl, told_put HB4.out HS4.out H5.out (heap_lt HX4.out) hsl hvl⟩
    · have HW : Hid (WfM (asReply (refM (n2 s 0) 4 []))) := { ref_wf (i := n2 s 0) (k := 4) (qs := []) (by omega) (by have := HN2.out; omega) (by decide) (by decide) (by simp) (by simp) with }
      rw [hrp] at hcm
      go_wp2_with fail
      refine (refusal_new (n2 s 0) 4 [] none 0 W4 HW.out (liesNil _ _)).mono ?_
      rintro e w5 ⟨a5, c5, rfl, H5⟩
      have HX5 := hide ((H5.out.below.block _ (heap_lt HX4.out)).trans HX4.out)
      clear hcm
      have hcz := box_cells HX5.out
      have hfz := frozen_of_block HX5.out
      unfold stepX
      generalize hps : packL (asReply (refM (n2 s 0) 4 [])) = ps at H5 ⊢
      go_wp2_with fail
      clear hcz hfz
      refine bodyPost_ret (results_cell_row2 rfl _ _ w.heap.size _ _ _ _ rfl (put3_box (.int .i64 2) (.int .u32 0) (.slice a5 ps.length c5) HX5.out) undXs rfl (by kernel_rfl)) rfl ?_
      exact ⟨2, 0, a5, ps, c5, rfl, rfl, told_put HB4.out HS4.out H5.out (heap_lt HX4.out) hsl hvl⟩
    · rw [hqs] at hcm HQ4
      simp only [List.length_singleton] at hcm HQ4
      rw [hrp] at hcm
      obtain ⟨bq, offq, rfl, d0, d1, d2⟩ := q_one HQ4.out
      rcases hcc with ⟨hcc, rfl⟩ | ⟨hop, hcl, rfl⟩
      · have HW : Hid (WfM (asReply (refM (n2 s 0) 4 [q]))) := { ref_wf (i := n2 s 0) (k := 4) (qs := [q]) (by omega) (by have := HN2.out; omega) (by decide) (by decide) (by simp) (fun x hx => by simp at hx; subst hx; exact named_wf hnq) with }
        rcases hcc with hop | ⟨hop, hcl⟩
        · go_wp2_with fail
          refine (refusal_new (n2 s 0) 4 [q] (some ⟨bq, offq, none⟩) cq W4 HW.out HQ4.out).mono ?_
          rintro e w5 ⟨a5, c5, rfl, H5⟩
          have HX5 := hide ((H5.out.below.block _ (heap_lt HX4.out)).trans HX4.out)
          clear hcm d0 d1 d2
          have hcz := box_cells HX5.out
          have hfz := frozen_of_block HX5.out
          unfold stepX
          generalize hps : packL (asReply (refM (n2 s 0) 4 [q])) = ps at H5 ⊢
          go_wp2_with fail
          clear hcz hfz
          refine bodyPost_ret (results_cell_row2 rfl _ _ w.heap.size _ _ _ _ rfl (put3_box (.int .i64 2) (.int .u32 0) (.slice a5 ps.length c5) HX5.out) undXs rfl (by kernel_rfl)) rfl ?_
          exact ⟨2, 0, a5, ps, c5, rfl, rfl, told_put HB4.out HS4.out H5.out (heap_lt HX4.out) hsl hvl⟩
        · rw [hop] at hcm
          go_wp2_with fail
          refine (refusal_new (n2 s 0) 4 [q] (some ⟨bq, offq, none⟩) cq W4 HW.out HQ4.out).mono ?_
          rintro e w5 ⟨a5, c5, rfl, H5⟩
          have HX5 := hide ((H5.out.below.block _ (heap_lt HX4.out)).trans HX4.out)
          clear hcm d0 d1 d2
          have hcz := box_cells HX5.out
          have hfz := frozen_of_block HX5.out
          unfold stepX
          generalize hps : packL (asReply (refM (n2 s 0) 4 [q])) = ps at H5 ⊢
          go_wp2_with fail
          clear hcz hfz
          refine bodyPost_ret (results_cell_row2 rfl _ _ w.heap.size _ _ _ _ rfl (put3_box (.int .i64 2) (.int .u32 0) (.slice a5 ps.length c5) HX5.out) undXs rfl (by kernel_rfl)) rfl ?_
          exact ⟨2, 0, a5, ps, c5, rfl, rfl, told_put HB4.out HS4.out H5.out (heap_lt HX4.out) hsl hvl⟩
      · rw [hop] at hcm
        rw [hcl] at d2
        obtain ⟨x, rs, hrs⟩ : ∃ x rs, st.roots = x :: rs := by
          have := HOK.out.r0
          cases hr : st.roots with
          | nil => rw [hr] at this; simp at this
          | cons x rs => exact ⟨x, rs, rfl⟩
        have HW : Hid (WfM (firstM st q)) := by
          have h2 : 0 ≤ nextId st.id ∧ nextId st.id ≤ 65535 := by unfold nextId; omega
          refine ⟨h2.1, h2.2, by simp [firstM, askM], by simp [firstM, askM], by simp [firstM, askM], by simp [firstM, askM], by simp [firstM, askM], by simp [firstM, askM], by simp [firstM, askM], by simp [firstM, askM], fun y hy => ?_, by simp [firstM, askM, recs]⟩
          simp [firstM, askM] at hy
          subst hy
          have hw := named_wf hnq
          exact ⟨hw.name, hw.k0, hw.k1, by simp, by simp⟩
        have HRS := hide hrs
        have HCL := hide hcl
        clear hrs hcl
        go_wp2_with fail
        rw [← HCL.out]
        refine (begin_new W4 sb vr st q x rs HS4.out HOK.out.id0 HOK.out.id1 HRS.out HW.out).mono ?_
        rintro e w5 ⟨a5, c5, rfl, H5⟩
        have HX5 := hide ((H5.out.grown.block _ (heap_lt HX4.out) (by simp; omega)).trans HX4.out)
        clear hcm d0 d1 d2
        have hcz := box_cells HX5.out
        have hfz := frozen_of_block HX5.out
        unfold stepX
        generalize hps : packL (firstM st q) = ps at H5 ⊢
        go_wp2_with fail
        clear hcz hfz
        refine bodyPost_ret (results_cell_row2 rfl _ _ w.heap.size _ _ _ _ rfl (put3_box (.int .i64 1) (.int .u32 x) (.slice a5 ps.length c5) HX5.out) undXs rfl (by kernel_rfl)) rfl ?_
        have T := told_put2 (v0 := .int .i64 1) (v1 := .int .u32 x) (v2 := .slice a5 ps.length c5) HB4.out H5.out (heap_lt HX4.out) hsl hvl
        exact ⟨1, x, a5, ps, c5, rfl, by rw [HRS.out]; rfl, ⟨T.at_.box, T.at_.roots, T.at_.ne, T.at_.lt⟩, T.own, T.new, T.grown⟩
end Go.Proofs.YtpahhgalhhbhjaaGreat

/- The lock: under which numbers this program holds its functions and types. -/
namespace Go.Proofs.YtpahhgalhhbhjaaGreat
abbrev muLink : Go.Conc.Locks.MuLink := { lock := 35, unlock := 36, ilock := 57, iunlock := 58, lockSlow := 86, unlockSlow := 89, disable := 82, enable := 84, acquire := 85, relMerge := 87, cas32 := 83, add32 := 88, tMutex := 96, tIMutex := 94, tPMutex := 125, tPIMutex := 151, tPI32 := 153, tUP := 155, tNoCopy := 92, tU32 := 33 }
theorem muLib : Go.Conc.Locks.MuLib Tryz.prog muLink :=
  ⟨Tryz.func35, Tryz.func36, Tryz.func57, Tryz.func58, Tryz.func82, Tryz.func84, Tryz.func85, Tryz.func87, Tryz.func83, Tryz.func88, Tryz.underlying94, Tryz.runUnderlying94, Tryz.sizeOf94, Tryz.isAgg94, Tryz.zeroValue94, Tryz.underlying96, Tryz.runUnderlying96, Tryz.sizeOf96, Tryz.isAgg96, Tryz.zeroValue96, Tryz.underlying125, Tryz.runUnderlying125, Tryz.sizeOf125, Tryz.isAgg125, Tryz.zeroValue125, Tryz.underlying151, Tryz.runUnderlying151, Tryz.sizeOf151, Tryz.isAgg151, Tryz.zeroValue151, Tryz.underlying153, Tryz.runUnderlying153, Tryz.sizeOf153, Tryz.isAgg153, Tryz.zeroValue153, Tryz.underlying155, Tryz.runUnderlying155, Tryz.sizeOf155, Tryz.isAgg155, Tryz.zeroValue155, Tryz.underlying92, Tryz.runUnderlying92, Tryz.sizeOf92, Tryz.isAgg92, Tryz.zeroValue92, Tryz.underlying21, Tryz.runUnderlying21, Tryz.sizeOf21, Tryz.isAgg21, Tryz.zeroValue21, (by kernel_rfl)⟩
end Go.Proofs.YtpahhgalhhbhjaaGreat

/- The program: a resolver behind its lock. -/
namespace Go.Proofs.YtpahhgalhhbhjaaGreat
open Go.RowKit Go.Trawl Go.MuLone
attribute [local go_sem] buildX0 buildX1

theorem sAsk_any (w : World) (sb b c : Nat) (vr : Value) (st : RSt) (s : ByteArray) (h : SAt w sb vr st) (hok : StOk st) (hsm : s.size ≤ 2097152) (hsc : s.size ≤ c) (hbl : b < w.heap.size) (hby : Bytes w b s) :
    Calls Tryz.prog 37 #[.pointer (some ⟨sb, 0, none⟩), .slice (some ⟨b, 0, none⟩) s.size c] w (Tells w sb vr (askS st s)) := by
  cases hb : st.busy with
  | true => exact sAsk_busy w sb b c vr st s h hb
  | false =>
    by_cases hs : s.size < 12
    · exact sAsk_short w sb b c vr st s h hb hs
    · exact sAsk_long w sb b c vr st s h hok hb hs hsm hsc hbl hby

/-- A resolver of the program, as the document's stands. -/
structure PAt (w : World) (xb sb : Nat) (vr : Value) (st : RSt) : Prop where
  box : ∃ z, w.heap[xb]? = some (.cells #[.int .i32 0, z, .pointer (some ⟨sb, 0, none⟩)] 99)
  at_ : SAt w sb vr st
  nx : ∀ k, vr.ownBlock = some k → k ≠ xb
def pOwns (xb sb : Nat) (vr : Value) (k : Nat) : Prop := k = xb ∨ k = sb ∨ vr.ownBlock = some k
theorem PAt.ne {w : World} {xb sb : Nat} {vr : Value} {st : RSt} (h : PAt w xb sb vr st) : xb ≠ sb := by
  obtain ⟨z, hz⟩ := h.box
  exact type_ne hz h.at_.box (by decide)
theorem PAt.lt {w : World} {xb sb : Nat} {vr : Value} {st : RSt} (h : PAt w xb sb vr st) : ∀ k, pOwns xb sb vr k → k < w.heap.size := by
  obtain ⟨z, hz⟩ := h.box
  rintro k (rfl | rfl | hk)
  · exact heap_lt hz
  · exact heap_lt h.at_.box
  · exact h.at_.lt k hk
theorem PAt.keep {w w' : World} {xb sb : Nat} {vr : Value} {st : RSt} (h : PAt w xb sb vr st) (hs : w.heap.size ≤ w'.heap.size) (hk : ∀ k, pOwns xb sb vr k → w'.heap[k]? = w.heap[k]?) : PAt w' xb sb vr st := by
  obtain ⟨z, hz⟩ := h.box
  exact ⟨⟨z, (hk xb (.inl rfl)).trans hz⟩, ⟨(hk sb (.inr (.inl rfl))).trans h.at_.box, h.at_.roots.keep hs (fun b hb _ => hk b (.inr (.inr hb))), h.at_.ne, fun k hk' => Nat.lt_of_lt_of_le (h.at_.lt k hk') hs⟩, h.nx⟩

/-- What comes out of a call of a resolver. -/
structure Spoke (w w' : World) (xb sb : Nat) (vr : Value) (st : RSt) (v : Value) (l : List UInt8) : Prop where
  at_ : PAt w' xb sb vr st
  own : w'.ownsRow 0 5 1 v l.length (bytesV l)
  new : ∀ k, v.ownBlock = some k → w.heap.size ≤ k
  fr : Fr w w' (pOwns xb sb vr) (pOwns xb sb vr)
def Speaks (w : World) (xb sb : Nat) (vr : Value) (p : RSt × Value × Int) (e : Ending) (w' : World) : Prop :=
  ∃ (k t : Int) (a : Option Addr) (l : List UInt8) (c : Nat), e = .returned (.tuple #[stepX k t (.slice a l.length c), .int .i64 p.2.2]) ∧ Hid (p.2.1 = stepV k t (str l) ∧ Spoke w w' xb sb vr p.1 (.slice a l.length c) l)

set_option maxRecDepth 10000 in
set_option maxHeartbeats 4000000 in
theorem pAsk_any (w : World) (xb sb b c : Nat) (vr : Value) (st : RSt) (s : ByteArray) (h : PAt w xb sb vr st) (hok : StOk st) (hsm : s.size ≤ 2097152) (hsc : s.size ≤ c) (hbl : b < w.heap.size) (hby : Bytes w b s) (hbx : b ≠ xb) :
    Calls Tryz.prog 19 #[.pointer (some ⟨xb, 0, none⟩), .slice (some ⟨b, 0, none⟩) s.size c] w (Speaks w xb sb vr (askS st s)) := by
  obtain ⟨z, hz⟩ := h.box
  have hxs := h.ne
  have hxl : xb < w.heap.size := heap_lt hz
  have hb1 := (Below.refl w.heap.size w).alloc (Nat.le_refl _) (.cells #[Value.int IntKind.i64 0, Value.int IntKind.u32 0, Value.slice none 0 0] 61)
  have HZ1 := hide ((hb1.block xb hxl).trans hz)
  have HS1 := hide (h.at_.below hb1)
  have HX1 := hide (heap_new w (.cells #[Value.int IntKind.i64 0, Value.int IntKind.u32 0, Value.slice none 0 0] 61))
  have HY1 := hide (hby.below hbl hb1)
  have HB1 := hide hb1
  have HNX := hide h.nx
  have HLT := hide h.lt
  have HOK := hide hok
  have hc := box_cells HZ1.out
  have hf := frozen_of_block HZ1.out
  clear h hb1 hby hok hz
  unfold Speaks
  go_enter_defers Tryz.func19, Tryz.ntmps19
  go_wp2_with fail
  refine (lock_free muLib ⟨xb, 0, none⟩ _ (hc 0) (hf 0)).mono ?_
  rintro e w1 ⟨rfl, rfl⟩
  generalize w.alloc (.cells #[Value.int IntKind.i64 0, Value.int IntKind.u32 0, Value.slice none 0 0] 61) = W1 at HZ1 HS1 HX1 HY1 HB1 hc hf ⊢
  have hz1 : w.heap.size < W1.heap.size := heap_lt HX1.out
  have hG2 := grownBy_setCell W1 xb 0 (.int .i32 1)
  have HG2 := hide hG2
  have HZ2 : Hid ((W1.setCell ⟨xb, 0, none⟩ (.int .i32 1)).heap[xb]? = some (.cells #[.int .i32 1, z, .pointer (some ⟨sb, 0, none⟩)] 99)) := heap_setCell_eq (j := 0) HZ1.out (.int .i32 1)
  have HS2 := hide (HS1.out.grown hG2 hxs (fun e => HNX.out _ e rfl))
  have HX2 := hide ((hG2.block _ hz1 (by simp; omega)).trans HX1.out)
  have HY2 := hide (HY1.out.grown (by omega) hG2 hbx)
  clear hG2 hc hf HZ1 HS1 HX1 HY1
  generalize W1.setCell ⟨xb, 0, none⟩ (.int .i32 1) = W2 at HG2 HZ2 HS2 HX2 HY2 ⊢
  have hz2 : w.heap.size < W2.heap.size := heap_lt HX2.out
  have hc := box_cells HZ2.out
  go_wp2_with fail
  refine (sAsk_any W2 sb b c vr st s HS2.out HOK.out hsm hsc (by omega) HY2.out).mono ?_
  rintro e w3 ⟨k, t, a, l, c', rfl, H3⟩
  have hG3 := H3.out.2.grown
  have HZ3 := hide ((hG3.block xb (heap_lt HZ2.out) (by simpa using hxs)).trans HZ2.out)
  have hsl := HLT.out sb (.inr (.inl rfl))
  have HX3 := hide ((hG3.block _ hz2 (by simp; omega)).trans HX2.out)
  clear hG3 hc
  have hcz := box_cells HX3.out
  have hfz := frozen_of_block HX3.out
  unfold stepX
  go_wp2_with fail
  clear hcz hfz
  refine leaves_cons (f := 36) (args := #[.pointer (some ⟨xb, 0, none⟩)]) (by simp) (by simp [go_sem]) ?_
  have hG4 := put3_grown w3 w.heap.size (.int .i64 k) (.int .u32 t) (.slice a l.length c')
  have hx4 := put3_box (.int .i64 k) (.int .u32 t) (.slice a l.length c') HX3.out
  have hz4 := (hG4.block xb (heap_lt HZ3.out) (by simp; omega)).trans HZ3.out
  refine (unlock_deferred muLib ⟨xb, 0, none⟩ .returning _ (box_cells hz4 0) (frozen_of_block hz4 0)).mono ?_
  rintro e u' w5 ⟨rfl, rfl, rfl⟩
  have hG5 := grownBy_setCell (put3 w3 w.heap.size (.int .i64 k) (.int .u32 t) (.slice a l.length c')) xb 0 (.int .i32 0)
  have hx5 := (hG5.block w.heap.size (heap_lt hx4) (by simp; omega)).trans hx4
  have T := H3.out.2
  have hs5 := (T.at_.grown hG4 (by omega) (fun e => by have := HLT.out _ (.inr (.inr e)); omega)).grown hG5 hxs (fun e => HNX.out _ e rfl)
  have ho5 := own_grown (own_grown T.own hG4 (fun e => by have := T.new _ e; omega)) hG5 (fun e => by have := T.new _ e; omega)
  refine ⟨_, results_cell_row2 rfl _ _ w.heap.size _ _ _ _ rfl hx5 undXs rfl (by kernel_rfl), k, t, a, l, c', rfl, H3.out.1, ⟨⟨⟨z, by rw [heap_setCell_eq hz4]; rfl⟩, hs5, HNX.out⟩, ho5, fun k hk => by have := T.new k hk; omega, ?_⟩⟩
  refine ⟨hG5.os.trans (hG4.os.trans (T.grown.os.trans (HG2.out.os.trans HB1.out.os))), hG5.tape.trans (hG4.tape.trans (T.grown.tape.trans (HG2.out.tape.trans HB1.out.tape))), hG5.output.trans (hG4.output.trans (T.grown.output.trans (HG2.out.output.trans HB1.out.output))),
    Nat.le_trans HB1.out.size (Nat.le_trans HG2.out.size (Nat.le_trans T.grown.size (Nat.le_trans hG4.size hG5.size))), fun k hk hno => ?_, fun k hk => .inl hk⟩
  have n1 : k ≠ xb := fun e => hno (.inl e)
  have n2 : k ≠ sb := fun e => hno (.inr (.inl e))
  have s1 := HB1.out.size
  have s2 := HG2.out.size
  have s3 := T.grown.size
  have s4 := hG4.size
  rw [hG5.block k (by omega) (by simpa using n1), hG4.block k (by omega) (by simp; omega), T.grown.block k (by omega) (by simpa using n2), HG2.out.block k (by omega) (by simpa using n1)]
  exact HB1.out.block k hk
end Go.Proofs.YtpahhgalhhbhjaaGreat
