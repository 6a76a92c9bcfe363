import Derived.Test.YtafoepfhepdcoaaGreatM22
import Derived.Test.YtafoepfhepdcoaaGreatProg
import Derived.Conc.MuLone
import Derived.KernelRfl
import Derived.Defers
set_option maxRecDepth 100000
set_option maxHeartbeats 8000000
namespace Go.Proofs.YtafoepfhepdcoaaGreat
open Go.RowKit Go.Trawl
attribute [local go_sem] neqN
theorem goes_ok : ∀ {n : Nat} {s : QSt} {p : QSt × QOut}, QOk s → s.ph ≠ .idle → goes n s = some p → QOk p.1
 | 0, _, _, _, _, h => by cases h
 | n + 1, s, p, hk, hp, h => by
  unfold goes at h
  by_cases h0 : (stepQ s).2.1 = 0
  ·rw [if_pos h0] at h
   exact goes_ok (stepQ_ok hk hp) (stepQ_busy hp h0) h
  ·rw [if_neg h0] at h
   rw [← Option.some.inj h]
   exact stepQ_ok hk hp
theorem told_put {w W w1 : World} {sb : Nat} {s : QSt} {V : QV} {cs : List QC} {v v0 v1 v2 : Value} {st : RSt} {l : List UInt8} (hlt : ∀ k, V.owns cs sb k → k < w.heap.size) (hb : Below w.heap.size w W) (h : QAt W sb s V cs) (hok : QOk s) (hs : Sim s st) (hn : NewB W w1 v l) (hz : w.heap.size < W.heap.size) :
  Told w (put3 w1 w.heap.size v0 v1 v2) sb (V.owns cs sb) st v l := by
 have hG := put3_grown w1 w.heap.size v0 v1 v2
 exact ⟨⟨s, V, cs, (h.below hn.below).aside hG (fun e => by have := hlt _ e; omega), hok, hs, (Fr.of_below (hb.trans (hn.below.mono (by omega))) _).write hG (Nat.le_refl _), fun k e e2 => by have := hlt _ e2; have := hn.new k e; omega⟩, own_grown hn.own hG (fun e => by have := hn.new _ e; omega), fun k hk => by have := hn.new k hk; omega⟩
theorem sAsk_long (w : World) (sb b c : Nat) (qs : QSt) (V : QV) (cs : List QC) (st : RSt) (s : ByteArray) (h : QAt w sb qs V cs) (hqk : QOk qs) (hsim : Sim qs st) (hok : StOk st) (hbz : st.busy = false) (hs : ¬ s.size < 12) (hsm : s.size ≤ 2097152) (hsc : s.size ≤ c) (hbl : b < w.heap.size) (hby : Bytes w b s) :
  Calls Tryz.prog 35 #[.pointer (some ⟨sb, 0, none⟩), .slice (some ⟨b, 0, none⟩) s.size c] w (Tells w sb (V.owns cs sb) (askS st s)) := by
 have hcs := ask_cases st s hok hbz hs
 have hb1 := (Below.refl w.heap.size w).alloc (Nat.le_refl _) (.cells #[.int .i64 0, .int .u32 0, .slice none 0 0] 59)
 have HS1 := hide (h.below hb1)
 have HX1 := hide (heap_new w (.cells #[.int .i64 0, .int .u32 0, .slice none 0 0] 59))
 have HY1 := hide (hby.below hbl hb1)
 have HB1 := hide hb1
 have hc := box_cells HS1.out.box
 have hsl : sb < w.heap.size := heap_lt h.box
 have HLT := hide h.lt
 have HOK := hide hok
 have HQK := hide hqk
 have HSIM := hide hsim
 simp only [qCells, (hsim.idle hbz).1, nextV] at hc
 clear h hb1 hby hok hqk hsim
 unfold Tells
 generalize hp : askS st s = p at hcs ⊢
 have HCS := hide hcs
 clear hcs hp
 go_enter Tryz.func35, Tryz.ntmps35
 go_wp2_with fail
 generalize w.alloc (.cells #[.int .i64 0, .int .u32 0, .slice none 0 0] 59) = W1 at HS1 HX1 HY1 HB1 hc ⊢
 clear hc
 have hz1 : w.heap.size < W1.heap.size := heap_lt HX1.out
 refine (wUnpack2 W1 b c s hsm hsc (by omega) HY1.out).mono ?_
 rintro e w2 ⟨aq, cq, aa, ca, au, cu, ax, cx, rfl, H2⟩
 have HB2 := hide (HB1.out.trans (H2.out.1.mono HB1.out.size))
 have HS2 := hide (HS1.out.below H2.out.1)
 have HX2 := hide ((H2.out.1.block _ hz1).trans HX1.out)
 have HY2 := hide (HY1.out.below (by omega) H2.out.1)
 have HQ2 := hide H2.out.2.1.q
 have HLQ := hide (fun k (hk : (Value.slice aq (unM s).qs.length cq).ownBlock = some k) => H2.out.2.2 k (.inl hk))
 have hz2 := H2.out.1.size
 clear H2 HB1 HS1 HX1 HY1
 generalize unM s = m at HCS HQ2 HLQ ⊢
 generalize unE s = er at HCS ⊢
 have hb3 := (Below.refl w2.heap.size w2).alloc (Nat.le_refl _) (.cells (msgCells m (.slice aq m.qs.length cq) (.slice aa m.an.length ca) (.slice au m.au.length cu) (.slice ax m.ex.length cx)) 30)
 have HB3 := hide (HB2.out.trans (hb3.mono HB2.out.size))
 have HS3 := hide (HS2.out.below hb3)
 have HX3 := hide ((hb3.block _ (by omega)).trans HX2.out)
 have HY3 := hide (HY2.out.below (by omega) hb3)
 have HQ3 := hide (HQ2.out.below hb3)
 have HM3 := hide (heap_new w2 (.cells (msgCells m (.slice aq m.qs.length cq) (.slice aa m.an.length ca) (.slice au m.au.length cu) (.slice ax m.ex.length cx)) 30))
 clear hb3 HB2 HS2 HX2 HY2 HQ2
 simp only [msgCells] at HB3 HS3 HX3 HY3 HQ3 HM3 ⊢
 go_wp2_with fail
 generalize w2.alloc _ = W3 at HB3 HS3 HX3 HY3 HQ3 HM3 ⊢
 generalize hM : w2.heap.size = M at HM3 hz2 ⊢
 have hc0 := HY3.out 0 (by omega)
 have hc1 := HY3.out 1 (by omega)
 have hcm := box_cells HM3.out
 have hfm := frozen_of_block HM3.out
 have l0 := at8_lt s 0
 have l1 := at8_lt s 1
 have hMb : ¬ M = b := by omega
 have hMb' : ¬ b = M := by omega
 have V1 : Hid (bits BinOp.or IntKind.u16 (((at8 s 0 : Nat) : Int) * 256) (IntKind.u16.wrap ((at8 s 1 : Nat) : Int)) = (n2 s 0 : Int)) := by
  show _ = _
  rw [show IntKind.u16.wrap ((at8 s 1 : Nat) : Int) = ((at8 s 1 : Nat) : Int) by rw [IntKind.wrap_u16]; omega]
  exact or256 l0 l1
 have V2 : Hid (bits BinOp.or IntKind.u16 (IntKind.u16.wrap (IntKind.u16.wrap ((at8 s 0 : Nat) : Int) * 256)) ((at8 s 1 : Nat) : Int) = (n2 s 0 : Int)) := by
  show _ = _
  rw [show IntKind.u16.wrap (IntKind.u16.wrap ((at8 s 0 : Nat) : Int) * 256) = ((at8 s 0 : Nat) : Int) * 256 by rw [IntKind.wrap_u16, IntKind.wrap_u16]; omega]
  exact or256 l0 l1
 have V3 : Hid (bits BinOp.or IntKind.u16 (IntKind.u16.wrap (IntKind.u16.wrap ((at8 s 0 : Nat) : Int) * 256)) (IntKind.u16.wrap ((at8 s 1 : Nat) : Int)) = (n2 s 0 : Int)) := by
  show _ = _
  rw [show IntKind.u16.wrap ((at8 s 1 : Nat) : Int) = ((at8 s 1 : Nat) : Int) by rw [IntKind.wrap_u16]; omega]
  exact V2.out
 have hn2 := n2_lt s 0
 have HN2 := hide hn2
 have hq0 : (0 : Int) < (s.size : Int) := by omega
 have hq1 : (1 : Int) < (s.size : Int) := by omega
 have hq2 : 0 < s.size := by omega
 have hq3 : 1 < s.size := by omega
 clear hn2
 go_region_held3 (fun w' => w'.cell? ⟨b, 0, none⟩ = some (.int .u8 (at8 s 0)) ∧ w'.cell? ⟨b, 1, none⟩ = some (.int .u8 (at8 s 1))) (go_keep) (fail)
 all_goals
  first | rw [V1.out] | rw [V2.out] | rw [V3.out]
  clear V1 V2 V3 hc0 hc1 hcm hfm l0 l1
  have hx4 := heap_setCell_eq (j := 0) HM3.out (.int .u16 (n2 s 0))
  have hG4 : W3.grownBy (W3.setCell ⟨M, 0, none⟩ (.int .u16 (n2 s 0))).drew (some M) := grownBy_trans (grownBy_setCell W3 M 0 _) (grownBy_drew _ _)
  have HM4 : Hid ((W3.setCell ⟨M, 0, none⟩ (.int .u16 (n2 s 0))).drew.heap[M]? = some (.cells (msgCells { m with id := n2 s 0 } (.slice aq m.qs.length cq) (.slice aa m.an.length ca) (.slice au m.au.length cu) (.slice ax m.ex.length cx)) 30)) := hx4
  have HG4 := hide hG4
  clear hx4 hG4
  generalize (W3.setCell ⟨M, 0, none⟩ (.int .u16 (n2 s 0))).drew = W4 at HM4 HG4 ⊢
  have HB4 : Hid (Below w.heap.size w W4) := below_of_grown HB3.out (by omega) HG4.out
  have HS4 := hide (HS3.out.aside HG4.out (fun e => by have := HLT.out _ e; omega))
  have HX4 := hide ((HG4.out.block _ (heap_lt HX3.out) (by simp; omega)).trans HX3.out)
  have HQ4 : Hid (Lies W4 3 (.slice aq m.qs.length cq) (m.qs.map Qn.cells)) := HQ3.out.keep HG4.out.size (fun k hk hlt => HG4.out.block k hlt (by have := HLQ.out k hk; simp; omega))
  have HWZ : Hid (w2.heap.size < W4.heap.size) := by have := heap_lt HM4.out; show _ < _; omega
  clear HM3 HG4 HB3 HS3 HX3 HQ3 HY3
  have hcm := box_cells HM4.out
  simp only [msgCells] at hcm
  rcases HCS.out with ⟨hbad, rfl⟩ | ⟨rfl, hrp, hln, rfl⟩ | ⟨q, rfl, hrp, hqs, hnq, hcc⟩
  ·have HW : Hid (WfM (asReply (refM (n2 s 0) 1 []))) := { ref_wf (i := n2 s 0) (k := 1) (qs := []) (by omega) (by have := HN2.out; omega) (by decide) (by decide) (by simp) (by simp) with }
   have goes : Code.wp = Code.wp := rfl
   clear goes
   rcases hbad with rfl | ⟨rfl, hrp⟩
   ·go_wp2_with fail
    refine (refusal_new (n2 s 0) 1 [] none 0 W4 HW.out (liesNil _ _)).mono ?_
    rintro e w5 ⟨a5, c5, rfl, H5⟩
    have HX5 := hide ((H5.out.below.block _ (heap_lt HX4.out)).trans HX4.out)
    clear hcm
    have hcz := box_cells HX5.out
    have hfz := frozen_of_block HX5.out
    unfold stepX
    generalize hps : replyL (asReply (refM (n2 s 0) 1 [])) = ps at H5 ⊢
    go_wp2_with fail
    clear hcz hfz
    refine bodyPost_ret (results_cell_row2 rfl _ _ w.heap.size _ _ _ _ rfl (put3_box (.int .i64 2) (.int .u32 0) (.slice a5 ps.length c5) HX5.out) undXs rfl (by kernel_rfl)) rfl ?_
    exact ⟨2, 0, a5, ps, c5, rfl, by rw [← hps, reply_ref], told_put HLT.out HB4.out HS4.out HQK.out HSIM.out H5.out (heap_lt HX4.out)⟩
   ·rw [hrp] at hcm
    go_wp2_with fail
    refine (refusal_new (n2 s 0) 1 [] none 0 W4 HW.out (liesNil _ _)).mono ?_
    rintro e w5 ⟨a5, c5, rfl, H5⟩
    have HX5 := hide ((H5.out.below.block _ (heap_lt HX4.out)).trans HX4.out)
    clear hcm
    have hcz := box_cells HX5.out
    have hfz := frozen_of_block HX5.out
    unfold stepX
    generalize hps : replyL (asReply (refM (n2 s 0) 1 [])) = ps at H5 ⊢
    go_wp2_with fail
    clear hcz hfz
    refine bodyPost_ret (results_cell_row2 rfl _ _ w.heap.size _ _ _ _ rfl (put3_box (.int .i64 2) (.int .u32 0) (.slice a5 ps.length c5) HX5.out) undXs rfl (by kernel_rfl)) rfl ?_
    exact ⟨2, 0, a5, ps, c5, rfl, by rw [← hps, reply_ref], told_put HLT.out HB4.out HS4.out HQK.out HSIM.out H5.out (heap_lt HX4.out)⟩
  ·have HW : Hid (WfM (asReply (refM (n2 s 0) 4 []))) := { ref_wf (i := n2 s 0) (k := 4) (qs := []) (by omega) (by have := HN2.out; omega) (by decide) (by decide) (by simp) (by simp) with }
   rw [hrp] at hcm
   go_wp2_with fail
   refine (refusal_new (n2 s 0) 4 [] none 0 W4 HW.out (liesNil _ _)).mono ?_
   rintro e w5 ⟨a5, c5, rfl, H5⟩
   have HX5 := hide ((H5.out.below.block _ (heap_lt HX4.out)).trans HX4.out)
   clear hcm
   have hcz := box_cells HX5.out
   have hfz := frozen_of_block HX5.out
   unfold stepX
   generalize hps : replyL (asReply (refM (n2 s 0) 4 [])) = ps at H5 ⊢
   go_wp2_with fail
   clear hcz hfz
   refine bodyPost_ret (results_cell_row2 rfl _ _ w.heap.size _ _ _ _ rfl (put3_box (.int .i64 2) (.int .u32 0) (.slice a5 ps.length c5) HX5.out) undXs rfl (by kernel_rfl)) rfl ?_
   exact ⟨2, 0, a5, ps, c5, rfl, by rw [← hps, reply_ref], told_put HLT.out HB4.out HS4.out HQK.out HSIM.out H5.out (heap_lt HX4.out)⟩
  ·rw [hqs] at hcm HQ4
   simp only [List.length_singleton] at hcm HQ4
   rw [hrp] at hcm
   obtain ⟨bq, offq, rfl, d0, d1, d2⟩ := q_one HQ4.out
   rcases hcc with ⟨hcc, rfl⟩ | ⟨hop, hcl, hmid, rfl⟩
   ·have HW : Hid (WfM (asReply (refM (n2 s 0) 4 [q]))) := { ref_wf (i := n2 s 0) (k := 4) (qs := [q]) (by omega) (by have := HN2.out; omega) (by decide) (by decide) (by simp) (fun x hx => by simp at hx; subst hx; exact named_wf hnq) with }
    rcases hcc with hop | ⟨hop, hcl⟩
    ·go_wp2_with fail
     refine (refusal_new (n2 s 0) 4 [q] (some ⟨bq, offq, none⟩) cq W4 HW.out HQ4.out).mono ?_
     rintro e w5 ⟨a5, c5, rfl, H5⟩
     have HX5 := hide ((H5.out.below.block _ (heap_lt HX4.out)).trans HX4.out)
     clear hcm d0 d1 d2
     have hcz := box_cells HX5.out
     have hfz := frozen_of_block HX5.out
     unfold stepX
     generalize hps : replyL (asReply (refM (n2 s 0) 4 [q])) = ps at H5 ⊢
     go_wp2_with fail
     clear hcz hfz
     refine bodyPost_ret (results_cell_row2 rfl _ _ w.heap.size _ _ _ _ rfl (put3_box (.int .i64 2) (.int .u32 0) (.slice a5 ps.length c5) HX5.out) undXs rfl (by kernel_rfl)) rfl ?_
     exact ⟨2, 0, a5, ps, c5, rfl, by rw [← hps, reply_ref], told_put HLT.out HB4.out HS4.out HQK.out HSIM.out H5.out (heap_lt HX4.out)⟩
    ·rw [hop] at hcm
     go_wp2_with fail
     refine (refusal_new (n2 s 0) 4 [q] (some ⟨bq, offq, none⟩) cq W4 HW.out HQ4.out).mono ?_
     rintro e w5 ⟨a5, c5, rfl, H5⟩
     have HX5 := hide ((H5.out.below.block _ (heap_lt HX4.out)).trans HX4.out)
     clear hcm d0 d1 d2
     have hcz := box_cells HX5.out
     have hfz := frozen_of_block HX5.out
     unfold stepX
     generalize hps : replyL (asReply (refM (n2 s 0) 4 [q])) = ps at H5 ⊢
     go_wp2_with fail
     clear hcz hfz
     refine bodyPost_ret (results_cell_row2 rfl _ _ w.heap.size _ _ _ _ rfl (put3_box (.int .i64 2) (.int .u32 0) (.slice a5 ps.length c5) HX5.out) undXs rfl (by kernel_rfl)) rfl ?_
     exact ⟨2, 0, a5, ps, c5, rfl, by rw [← hps, reply_ref], told_put HLT.out HB4.out HS4.out HQK.out HSIM.out H5.out (heap_lt HX4.out)⟩
   ·rw [hop] at hcm
    rw [hcl] at d2
    have HCL := hide hcl
    have hb : beginSt st m q = beginSt st m q := rfl
    clear hb
    have hqk2 : QOk { qs with reply := replyM { m with id := n2 s 0, resp := false, op := 0 } q } := by
     have hk := HQK.out
     have h0 := hk.c0
     have hn := HN2.out
     have hi := HSIM.out.idle hbz
     refine { hk with reply := ⟨by show (0 : Int) ≤ (n2 s 0 : Nat); omega, by show ((n2 s 0 : Nat) : Int) ≤ 65535; omega, by simp [replyM], by simp [replyM], by simp [replyM], by simp [replyM], by simp [replyM], by simp [replyM], by simp [replyM], by simp [replyM], fun x hx => ?_, by simp [replyM, recs]⟩, au := rfl, ex := rfl, few := by simp [replyM], busy := fun e => absurd hi.1 e, an := fun _ => by simpa [replyM] using h0, srv := fun e => by rw [show ({ qs with reply := replyM { m with id := n2 s 0, resp := false, op := 0 } q } : QSt).ph = qs.ph from rfl, hi.1] at e; cases e }
     simp only [replyM, List.mem_singleton] at hx
     subst hx
     exact named_wf hnq
    have HQB : Hid (QOk (beginQ qs { m with id := n2 s 0, resp := false, op := 0 } q)) := startQ_ok hqk2 _ _ ⟨rfl, q, rfl, hnq⟩ (by have := HQK.out.c0; simpa [replyM] using this) hnq.1 hnq.2.1 hnq.2.2.1 rfl rfl (by simp) (by have := HQK.out.d0; simpa using this)
    have HRUN : Hid (Runs (beginQ qs { m with id := n2 s 0, resp := false, op := 0 } q) (askSt (beginSt st m q) [] (freshCh st q.name q.kind), askStep (beginSt st m q) (freshCh st q.name q.kind))) := by
     have hsm := HSIM.out
     have hst := HOK.out
     have hi := hsm.idle hbz
     have key := asks (s := beginQ qs { m with id := n2 s 0, resp := false, op := 0 } q) (st := beginSt st m q) (c := freshCh st q.name q.kind) (r := []) ⟨hsm.b, hsm.d, hsm.c, hsm.t, hsm.roots, hsm.id, hi.2.2.1, by show replyM _ q = replyOf _; unfold replyM replyOf beginSt; rw [hqs, hmid], ⟨⟨rfl, rfl, rfl, hsm.roots, rfl, fun _ => rfl⟩, trivial⟩, by simp⟩ rfl HQB.out rfl (by have := hst.t0; show ((0 : Nat) : Int) < st.t; omega) (fun e => by have := hst.r0; rw [show st.roots = [] from e] at this; simp at this) ⟨q, hqs, rfl⟩ (by have := hst.c0; show (((([] : List Rc)).length : Nat) : Int) ≤ st.c; simpa using this)
     rw [List.reverse_nil, first_sends hst] at key
     exact key
    clear hqk2
    have hx6 := HX4.out
    have HVQ : Hid (∀ k, (Value.slice (some ⟨bq, offq, none⟩) 1 cq).ownBlock = some k → k < W4.heap.size ∧ ¬ V.owns cs sb k) := fun k e => by
     have h1 := HLQ.out k (by rw [hqs]; exact e)
     have h2 := HB4.out.size
     exact ⟨by have := HWZ.out; omega, fun e2 => by have := HLT.out k e2; omega⟩
    go_wp2_with fail
    refine (q_begin W4 sb qs V cs { m with id := n2 s 0, resp := false, op := 0 } q (.slice (some ⟨bq, offq, none⟩) 1 cq) (.slice aa m.an.length ca) (.slice au m.au.length cu) (.slice ax m.ex.length cx) HS4.out HQ4.out HVQ.out).mono ?_
    rintro e w5 ⟨rfl, H5⟩
    clear hcm d0 d1 d2
    go_wp2_with fail
    obtain ⟨V5, cs5, h5, f5⟩ := H5.out
    obtain ⟨n, p, hg, hboth⟩ := HRUN.out
    have hz0 := heap_lt HX4.out
    have hno4 : ∀ k, V.owns cs sb k ∨ (Value.slice (some ⟨bq, offq, none⟩) 1 cq).ownBlock = some k → V.owns cs sb k ∨ w.heap.size < k := fun k e => by
     rcases e with e | e
     ·exact .inl e
     ·have h1 := HLQ.out k (by rw [hqs]; exact e)
      exact .inr (by omega)
    have hx5 := f5.stay HX4.out (fun e => by
     rcases hno4 _ e with e | e
     ·have := HLT.out _ e; omega
     ·omega)
    have hno5 : ¬ V5.owns cs5 sb w.heap.size := fun e => by
     rcases f5.new _ e with e | e
     ·rcases hno4 _ e with e | e
      ·have := HLT.out _ e; omega
      ·omega
     ·omega
    have HF5 := hide ((Fr.of_below HB4.out (V.owns cs sb)).after f5 (fun k e => by
     rcases hno4 k e with e | e
     ·exact .inl e
     ·exact .inr (by omega)))
    have HX5 := hide hx5
    have HNO5 := hide hno5
    have HPK := hide (goes_ok HQB.out (by simp [beginQ, startQ]) hg)
    have HBO := hide hboth
    clear hboth hx6
    refine (q_goOn w5 sb _ V5 cs5 n p h5 HQB.out (by simp [beginQ, startQ]) hg).mono ?_
    rintro e w6 ⟨a6, c6, rfl, H6⟩
    clear hg h5 f5 hx5 hno5 H5 hno4
    have hz5 := heap_lt HX5.out
    obtain ⟨V6, cs6, h6, f6, o6, n6⟩ := H6.out
    have HX6 := hide (f6.stay HX5.out HNO5.out)
    have hno6 : ¬ V6.owns cs6 sb w.heap.size := fun e => by
     rcases f6.new _ e with e | e
     ·exact HNO5.out e
     ·omega
    have HNO6 := hide hno6
    clear h6 f6 o6 n6 hno6
    have hcz := box_cells HX6.out
    have hfz := frozen_of_block HX6.out
    unfold stepX
    obtain ⟨s6, k6, t6, l6⟩ := p
    dsimp only at *
    go_wp2_with fail
    clear hcz hfz
    refine bodyPost_ret (results_cell_row2 rfl _ _ w.heap.size _ _ _ _ rfl (put3_box (.int .i64 k6) (.int .u32 t6) (.slice a6 l6.length c6) HX6.out) undXs rfl (by kernel_rfl)) rfl ?_
    obtain ⟨V6, cs6, h6, f6, o6, n6⟩ := H6.out
    have hno6 : ¬ V6.owns cs6 sb w.heap.size := fun e => by
     rcases f6.new _ e with e | e
     ·exact HNO5.out e
     ·omega
    have hG := put3_grown w6 w.heap.size (.int .i64 k6) (.int .u32 t6) (.slice a6 l6.length c6)
    refine ⟨k6, t6, a6, l6, c6, rfl, HBO.out.says, ⟨s6, V6, cs6, h6.aside hG hno6, HPK.out, HBO.out.sim, (HF5.out.trans f6).write hG (Nat.le_refl _), fun k e => (n6 k e).2⟩, own_grown o6 hG (fun e => ?_), fun k e => ?_⟩
    ·have := (n6 _ e).1; omega
    ·have := (n6 k e).1; omega
end Go.Proofs.YtafoepfhepdcoaaGreat
namespace Go.Proofs.YtafoepfhepdcoaaGreat
abbrev muLink : Go.Conc.Locks.MuLink := { lock := 33, unlock := 34, ilock := 74, iunlock := 75, lockSlow := 108, unlockSlow := 111, disable := 104, enable := 106, acquire := 107, relMerge := 109, cas32 := 105, add32 := 110, tMutex := 93, tIMutex := 91, tPMutex := 144, tPIMutex := 181, tPI32 := 183, tUP := 185, tNoCopy := 89, tU32 := 54 }
theorem muLib : Go.Conc.Locks.MuLib Tryz.prog muLink :=
 ⟨Tryz.func33, Tryz.func34, Tryz.func74, Tryz.func75, Tryz.func104, Tryz.func106, Tryz.func107, Tryz.func109, Tryz.func105, Tryz.func110, Tryz.underlying91, Tryz.runUnderlying91, Tryz.sizeOf91, Tryz.isAgg91, Tryz.zeroValue91, Tryz.underlying93, Tryz.runUnderlying93, Tryz.sizeOf93, Tryz.isAgg93, Tryz.zeroValue93, Tryz.underlying144, Tryz.runUnderlying144, Tryz.sizeOf144, Tryz.isAgg144, Tryz.zeroValue144, Tryz.underlying181, Tryz.runUnderlying181, Tryz.sizeOf181, Tryz.isAgg181, Tryz.zeroValue181, Tryz.underlying183, Tryz.runUnderlying183, Tryz.sizeOf183, Tryz.isAgg183, Tryz.zeroValue183, Tryz.underlying185, Tryz.runUnderlying185, Tryz.sizeOf185, Tryz.isAgg185, Tryz.zeroValue185, Tryz.underlying89, Tryz.runUnderlying89, Tryz.sizeOf89, Tryz.isAgg89, Tryz.zeroValue89, Tryz.underlying21, Tryz.runUnderlying21, Tryz.sizeOf21, Tryz.isAgg21, Tryz.zeroValue21, (by kernel_rfl)⟩
end Go.Proofs.YtafoepfhepdcoaaGreat
namespace Go.Proofs.YtafoepfhepdcoaaGreat
open Go.RowKit Go.Trawl Go.MuLone
attribute [local go_sem] buildX0 buildX1
theorem sAsk_any (w : World) (sb b c : Nat) (q : QSt) (V : QV) (cs : List QC) (st : RSt) (s : ByteArray) (h : QAt w sb q V cs) (hqk : QOk q) (hsim : Sim q st) (hok : StOk st) (hsm : s.size ≤ 2097152) (hsc : s.size ≤ c) (hbl : b < w.heap.size) (hby : Bytes w b s) :
  Calls Tryz.prog 35 #[.pointer (some ⟨sb, 0, none⟩), .slice (some ⟨b, 0, none⟩) s.size c] w (Tells w sb (V.owns cs sb) (askS st s)) := by
 cases hb : st.busy with
 | true => exact sAsk_busy w sb b c q V cs st s h hqk hsim hb
 | false =>
  by_cases hs : s.size < 12
  ·exact sAsk_short w sb b c q V cs st s h hqk hsim hb hs
  ·exact sAsk_long w sb b c q V cs st s h hqk hsim hok hb hs hsm hsc hbl hby
structure PV where
 V : QV
 cs : List QC
structure PAt (w : World) (xb sb : Nat) (vr : PV) (st : RSt) : Prop where
 box : ∃ z, w.heap[xb]? = some (.cells #[.int .i32 0, z, .pointer (some ⟨sb, 0, none⟩)] 96)
 at_ : ∃ s, QAt w sb s vr.V vr.cs ∧ QOk s ∧ Sim s st
 nx : ¬ vr.V.owns vr.cs sb xb
def pOwns (xb sb : Nat) (vr : PV) (k : Nat) : Prop := k = xb ∨ vr.V.owns vr.cs sb k
theorem PAt.lt {w : World} {xb sb : Nat} {vr : PV} {st : RSt} (h : PAt w xb sb vr st) : ∀ k, pOwns xb sb vr k → k < w.heap.size := by
 obtain ⟨z, hz⟩ := h.box
 obtain ⟨s, hs, _⟩ := h.at_
 rintro k (rfl | hk)
 ·exact heap_lt hz
 ·exact hs.lt k hk
theorem PAt.keep {w w' : World} {xb sb : Nat} {vr : PV} {st : RSt} (h : PAt w xb sb vr st) (hs : w.heap.size ≤ w'.heap.size) (hk : ∀ k, pOwns xb sb vr k → w'.heap[k]? = w.heap[k]?) : PAt w' xb sb vr st := by
 obtain ⟨z, hz⟩ := h.box
 obtain ⟨s, h1, h2, h3⟩ := h.at_
 exact ⟨⟨z, (hk xb (.inl rfl)).trans hz⟩, ⟨s, h1.at hs (fun k e => hk k (.inr e)), h2, h3⟩, h.nx⟩
structure Spoke (w w' : World) (xb sb : Nat) (vr vr' : PV) (st : RSt) (v : Value) (l : List UInt8) : Prop where
 at_ : PAt w' xb sb vr' st
 own : w'.ownsRow 0 5 1 v l.length (bytesV l)
 new : ∀ k, v.ownBlock = some k → w.heap.size ≤ k
 apart : ∀ k, v.ownBlock = some k → ¬ pOwns xb sb vr' k
 fr : Fr w w' (pOwns xb sb vr) (pOwns xb sb vr')
def Speaks (w : World) (xb sb : Nat) (vr : PV) (p : RSt × Value × Int) (e : Ending) (w' : World) : Prop :=
 ∃ (k t : Int) (a : Option Addr) (l : List UInt8) (c : Nat), e = .returned (.tuple #[stepX k t (.slice a l.length c), .int .i64 p.2.2]) ∧ Hid (p.2.1 = stepV k t (str l) ∧ ∃ vr', Spoke w w' xb sb vr vr' p.1 (.slice a l.length c) l)
theorem spoke_of {w W2 w3 w4 w5 : World} {xb sb : Nat} {vr : PV} {st : RSt} {v : Value} {l : List UInt8} {z : Value} (hlt : ∀ k, pOwns xb sb vr k → k < w.heap.size) (hnx : ¬ vr.V.owns vr.cs sb xb) (hz2 : w.heap.size < W2.heap.size)
  (f2 : Fr w W2 (pOwns xb sb vr) (pOwns xb sb vr)) (T : Told W2 w3 sb (vr.V.owns vr.cs sb) st v l) (g4 : w3.grownBy w4 (some w.heap.size)) (g5 : w4.grownBy w5 (some xb)) (hx5 : w5.heap[xb]? = some (.cells #[.int .i32 0, z, .pointer (some ⟨sb, 0, none⟩)] 96)) (hxl : xb < w.heap.size) :
  ∃ vr', Spoke w w5 xb sb vr vr' st v l := by
 obtain ⟨s, V, cs, h3, hok, hsim, f3, ap⟩ := T.at_
 have hn : ∀ k, V.owns cs sb k → vr.V.owns vr.cs sb k ∨ W2.heap.size ≤ k := f3.new
 have n1 : ¬ V.owns cs sb w.heap.size := fun e => by
  rcases hn _ e with e | e
  ·have := hlt _ (.inr e); omega
  ·omega
 have n2 : ¬ V.owns cs sb xb := fun e => by
  rcases hn _ e with e | e
  ·exact hnx e
  ·omega
 have h5 := (h3.aside g4 n1).aside g5 n2
 refine ⟨⟨V, cs⟩, ⟨⟨z, hx5⟩, ⟨s, h5, hok, hsim⟩, n2⟩, own_grown (own_grown T.own g4 (fun e => by have := T.new _ e; omega)) g5 (fun e => by have := T.new _ e; omega), fun k hk => by have := T.new k hk; omega, fun k hk e => ?_, ?_⟩
 ·rcases e with e | e
  ·have := T.new k hk; omega
  ·exact ap k hk e
 ·have f23 : Fr w w3 (pOwns xb sb vr) (V.owns cs sb) := f2.after f3 (fun i hi => .inl (.inr hi))
  have f4 := f23.write g4 (Nat.le_refl _)
  refine f4.turn g5 (.inl (.inl rfl)) (fun i hi => ?_)
  rcases hi with e | e
  ·exact .inl (.inl e)
  ·rcases hn i e with e | e
   ·exact .inl (.inr e)
   ·exact .inr (by omega)
theorem pAsk_any (w : World) (xb sb b c : Nat) (vr : PV) (st : RSt) (s : ByteArray) (h : PAt w xb sb vr st) (hok : StOk st) (hsm : s.size ≤ 2097152) (hsc : s.size ≤ c) (hbl : b < w.heap.size) (hby : Bytes w b s) (hbx : b ≠ xb) :
  Calls Tryz.prog 20 #[.pointer (some ⟨xb, 0, none⟩), .slice (some ⟨b, 0, none⟩) s.size c] w (Speaks w xb sb vr (askS st s)) := by
 obtain ⟨z, hz⟩ := h.box
 obtain ⟨q, hq, hqk, hsim⟩ := h.at_
 have hxl : xb < w.heap.size := heap_lt hz
 have hb1 := (Below.refl w.heap.size w).alloc (Nat.le_refl _) (.cells #[.int .i64 0, .int .u32 0, .slice none 0 0] 59)
 have HZ1 := hide ((hb1.block xb hxl).trans hz)
 have HS1 := hide (hq.below hb1)
 have HX1 := hide (heap_new w (.cells #[.int .i64 0, .int .u32 0, .slice none 0 0] 59))
 have HY1 := hide (hby.below hbl hb1)
 have HB1 := hide hb1
 have HNX := hide h.nx
 have HLT := hide h.lt
 have HOK := hide hok
 have HQK := hide hqk
 have HSIM := hide hsim
 have hc := box_cells HZ1.out
 have hf := frozen_of_block HZ1.out
 clear h hb1 hby hok hz hq hqk hsim
 unfold Speaks
 go_enter_defers Tryz.func20, Tryz.ntmps20
 go_wp2_with fail
 refine (lock_free muLib ⟨xb, 0, none⟩ _ (hc 0) (hf 0)).mono ?_
 rintro e w1 ⟨rfl, rfl⟩
 generalize w.alloc (.cells #[.int .i64 0, .int .u32 0, .slice none 0 0] 59) = W1 at HZ1 HS1 HX1 HY1 HB1 hc hf ⊢
 have hz1 : w.heap.size < W1.heap.size := heap_lt HX1.out
 have hG2 := grownBy_setCell W1 xb 0 (.int .i32 1)
 have HF2 : Hid (Fr w (W1.setCell ⟨xb, 0, none⟩ (.int .i32 1)) (pOwns xb sb vr) (pOwns xb sb vr)) := (Fr.of_below HB1.out (pOwns xb sb vr)).turn hG2 (.inl (.inl rfl)) (fun i hi => .inl hi)
 have HZ2 : Hid ((W1.setCell ⟨xb, 0, none⟩ (.int .i32 1)).heap[xb]? = some (.cells #[.int .i32 1, z, .pointer (some ⟨sb, 0, none⟩)] 96)) := heap_setCell_eq (j := 0) HZ1.out (.int .i32 1)
 have HS2 := hide (HS1.out.aside hG2 HNX.out)
 have HX2 := hide ((hG2.block _ hz1 (by simp; omega)).trans HX1.out)
 have HY2 := hide (HY1.out.grown (by omega) hG2 hbx)
 clear hG2 hc hf HZ1 HS1 HX1 HY1
 generalize W1.setCell ⟨xb, 0, none⟩ (.int .i32 1) = W2 at HF2 HZ2 HS2 HX2 HY2 ⊢
 have hz2 : w.heap.size < W2.heap.size := heap_lt HX2.out
 have hc := box_cells HZ2.out
 go_wp2_with fail
 refine (sAsk_any W2 sb b c q vr.V vr.cs st s HS2.out HQK.out HSIM.out HOK.out hsm hsc (by omega) HY2.out).mono ?_
 rintro e w3 ⟨k, t, a, l, c', rfl, H3⟩
 have hf3 : ∃ O', Fr W2 w3 (vr.V.owns vr.cs sb) O' := by
  obtain ⟨_, V3, cs3, _, _, _, f3, _⟩ := H3.out.2.at_
  exact ⟨_, f3⟩
 obtain ⟨O', hf3⟩ := hf3
 have HZ3 := hide (hf3.stay HZ2.out HNX.out)
 have HX3 := hide (hf3.stay HX2.out (fun e => by have := HLT.out _ (.inr e); omega))
 clear hf3 hc
 have hcz := box_cells HX3.out
 have hfz := frozen_of_block HX3.out
 unfold stepX
 go_wp2_with fail
 clear hcz hfz
 refine leaves_cons (f := 34) (args := #[.pointer (some ⟨xb, 0, none⟩)]) (by simp) (by simp [go_sem]) ?_
 have hG4 := put3_grown w3 w.heap.size (.int .i64 k) (.int .u32 t) (.slice a l.length c')
 have hx4 := put3_box (.int .i64 k) (.int .u32 t) (.slice a l.length c') HX3.out
 have hz4 := (hG4.block xb (heap_lt HZ3.out) (by simp; omega)).trans HZ3.out
 refine (unlock_deferred muLib ⟨xb, 0, none⟩ .returning _ (box_cells hz4 0) (frozen_of_block hz4 0)).mono ?_
 rintro e u' w5 ⟨rfl, rfl, rfl⟩
 have hG5 := grownBy_setCell (put3 w3 w.heap.size (.int .i64 k) (.int .u32 t) (.slice a l.length c')) xb 0 (.int .i32 0)
 have hx5 := (hG5.block w.heap.size (heap_lt hx4) (by simp; omega)).trans hx4
 have hz5 := heap_setCell_eq (j := 0) hz4 (.int .i32 0)
 exact ⟨_, results_cell_row2 rfl _ _ w.heap.size _ _ _ _ rfl hx5 undXs rfl (by kernel_rfl), k, t, a, l, c', rfl, H3.out.1, spoke_of HLT.out HNX.out hz2 HF2.out H3.out.2 hG4 hG5 hz5 hxl⟩
end Go.Proofs.YtafoepfhepdcoaaGreat
namespace Go.Proofs.YtafoepfhepdcoaaGreat
open Go.RowKit Go.Trawl Go.MuLone
attribute [local go_sem] buildX0 buildX1 eqlF eqlN
def lateS (st : RSt) : RSt × Value × Int :=
 if st.busy then match st.l.reverse with
  | c :: r => ((sendP st r.reverse c).1, (sendP st r.reverse c).2, 0)
  | [] => (st, stepV 0 0 ⟨#[]⟩, 0)
 else (st, stepV 0 0 ⟨#[]⟩, 3)
theorem sLate_idle (w : World) (sb : Nat) (q : QSt) (V : QV) (cs : List QC) (st : RSt) (h : QAt w sb q V cs) (hok : QOk q) (hsm : Sim q st) (hbz : st.busy = false) :
  Calls Tryz.prog 44 #[.pointer (some ⟨sb, 0, none⟩)] w (Tells w sb (V.owns cs sb) (lateS st)) := by
 have e : lateS st = (st, stepV 0 0 ⟨#[]⟩, 3) := by unfold lateS; rw [if_neg (by rw [hbz]; simp)]
 rw [e]
 have H := hide h
 have HK := hide hok
 have HS := hide hsm
 have hc := box_cells (h.below ((Below.refl w.heap.size w).alloc (Nat.le_refl _) (.cells #[.int .i64 0, .int .u32 0, .slice none 0 0] 59))).box
 simp only [qCells, (hsm.idle hbz).1, nextV] at hc
 clear h e hok hsm
 unfold Tells
 go_enter Tryz.func44, Tryz.ntmps44
 go_wp2_with fail
 refine bodyPost_ret (results_cell_row2 rfl _ _ w.heap.size _ _ _ _ rfl (heap_new w _) undXs rfl (by kernel_rfl)) rfl ?_
 exact ⟨0, 0, none, [], 0, rfl, rfl, told_nil H.out HK.out HS.out _⟩
theorem told_go {w W w6 : World} {sb : Nat} {V : QV} {cs : List QC} {p : QSt × QOut} {st : RSt} {o : Value} {a : Option Addr} {c : Nat} {O : Nat → Prop} {z : Array Value} (hf : Fr w W O (V.owns cs sb)) (hx : W.heap[w.heap.size]? = some (.cells z 59)) (hno : ¬ V.owns cs sb w.heap.size) (hpk : QOk p.1) (hb : Both p (st, o))
  (H : ∃ V' cs', QAt w6 sb p.1 V' cs' ∧ Fr W w6 (V.owns cs sb) (V'.owns cs' sb) ∧ w6.ownsRow 0 5 1 (.slice a p.2.2.2.length c) p.2.2.2.length (bytesV p.2.2.2) ∧ ∀ k, (Value.slice a p.2.2.2.length c).ownBlock = some k → W.heap.size ≤ k ∧ ¬ V'.owns cs' sb k) :
  w6.heap[w.heap.size]? = some (.cells z 59) ∧ ∀ v0 v1 v2, Told w (put3 w6 w.heap.size v0 v1 v2) sb O st (.slice a p.2.2.2.length c) p.2.2.2 := by
 obtain ⟨V6, cs6, h6, f6, o6, n6⟩ := H
 have hz := heap_lt hx
 have hno6 : ¬ V6.owns cs6 sb w.heap.size := fun e => by
  rcases f6.new _ e with e | e
  ·exact hno e
  ·omega
 refine ⟨f6.stay hx hno, fun v0 v1 v2 => ?_⟩
 have hG := put3_grown w6 w.heap.size v0 v1 v2
 refine ⟨⟨p.1, V6, cs6, h6.aside hG hno6, hpk, hb.sim, (hf.trans f6).write hG (Nat.le_refl _), fun k e => (n6 k e).2⟩, own_grown o6 hG (fun e => ?_), fun k e => ?_⟩
 ·have := (n6 _ e).1; omega
 ·have := (n6 k e).1; omega
theorem sLate_busy (w : World) (sb : Nat) (q : QSt) (V : QV) (cs : List QC) (st : RSt) (h : QAt w sb q V cs) (hok : QOk q) (hsm : Sim q st) (hbz : st.busy = true) :
  Calls Tryz.prog 44 #[.pointer (some ⟨sb, 0, none⟩)] w (Tells w sb (V.owns cs sb) (lateS st)) := by
 obtain ⟨hph, hcore⟩ := hsm.busy hbz
 obtain ⟨c, r, hl, hne, _⟩ := hsm.last hbz
 have e : lateS st = ((sendP st r.reverse c).1, (sendP st r.reverse c).2, 0) := by unfold lateS; rw [if_pos hbz, hl]
 rw [hl] at hcore
 obtain ⟨n, p, hg, hboth⟩ := sends hcore hph hok hbz hne (hsm.seen hbz) (hsm.kept hbz)
 rw [e]
 have hb1 := (Below.refl w.heap.size w).alloc (Nat.le_refl _) (.cells #[.int .i64 0, .int .u32 0, .slice none 0 0] 59)
 have h1 := h.below hb1
 have HT := hide (fun w6 a6 c6 => told_go (w6 := w6) (a := a6) (c := c6) (p := p) (o := (sendP st r.reverse c).2) (st := (sendP st r.reverse c).1) (Fr.of_below hb1 (V.owns cs sb)) (heap_new w _) (fun e => by have := h.lt _ e; omega) (goes_ok hok (by rw [hph]; simp) hg) hboth)
 have HS := hide hboth.says
 have HG := hide (q_goOn _ sb q V cs n p h1 hok (by rw [hph]; simp) hg)
 have hc := box_cells h1.box
 simp only [qCells, hph, nextV] at hc
 clear h e hok hsm hcore hboth hg h1 hb1
 unfold Tells
 go_enter Tryz.func44, Tryz.ntmps44
 go_wp2_with fail
 refine HG.out.mono ?_
 rintro e w6 ⟨a6, c6, rfl, H6⟩
 obtain ⟨hx6, ht6⟩ := HT.out w6 a6 c6 H6.out
 have HX6 := hide hx6
 have HT6 := hide ht6
 clear hc HT HG hx6 ht6 H6
 have hcz := box_cells HX6.out
 have hfz := frozen_of_block HX6.out
 unfold stepX
 obtain ⟨s6, k6, t6, l6⟩ := p
 dsimp only at *
 go_wp2_with fail
 clear hcz hfz
 refine bodyPost_ret (results_cell_row2 rfl _ _ w.heap.size _ _ _ _ rfl (put3_box (.int .i64 k6) (.int .u32 t6) (.slice a6 l6.length c6) HX6.out) undXs rfl (by kernel_rfl)) rfl ?_
 exact ⟨k6, t6, a6, l6, c6, rfl, HS.out, HT6.out _ _ _⟩
theorem sLate_any (w : World) (sb : Nat) (q : QSt) (V : QV) (cs : List QC) (st : RSt) (h : QAt w sb q V cs) (hok : QOk q) (hsm : Sim q st) :
  Calls Tryz.prog 44 #[.pointer (some ⟨sb, 0, none⟩)] w (Tells w sb (V.owns cs sb) (lateS st)) := by
 cases hb : st.busy with
 | true => exact sLate_busy w sb q V cs st h hok hsm hb
 | false => exact sLate_idle w sb q V cs st h hok hsm hb
theorem pLate_any (w : World) (xb sb : Nat) (vr : PV) (st : RSt) (h : PAt w xb sb vr st) :
  Calls Tryz.prog 24 #[.pointer (some ⟨xb, 0, none⟩)] w (Speaks w xb sb vr (lateS st)) := by
 obtain ⟨z, hz⟩ := h.box
 obtain ⟨q, hq, hqk, hsim⟩ := h.at_
 have hxl : xb < w.heap.size := heap_lt hz
 have hb1 := (Below.refl w.heap.size w).alloc (Nat.le_refl _) (.cells #[.int .i64 0, .int .u32 0, .slice none 0 0] 59)
 have HZ1 := hide ((hb1.block xb hxl).trans hz)
 have HS1 := hide (hq.below hb1)
 have HX1 := hide (heap_new w (.cells #[.int .i64 0, .int .u32 0, .slice none 0 0] 59))
 have HB1 := hide hb1
 have HNX := hide h.nx
 have HLT := hide h.lt
 have HQK := hide hqk
 have HSIM := hide hsim
 have hc := box_cells HZ1.out
 have hf := frozen_of_block HZ1.out
 clear h hb1 hz hq hqk hsim
 unfold Speaks
 go_enter_defers Tryz.func24, Tryz.ntmps24
 go_wp2_with fail
 refine (lock_free muLib ⟨xb, 0, none⟩ _ (hc 0) (hf 0)).mono ?_
 rintro e w1 ⟨rfl, rfl⟩
 generalize w.alloc (.cells #[.int .i64 0, .int .u32 0, .slice none 0 0] 59) = W1 at HZ1 HS1 HX1 HB1 hc hf ⊢
 have hz1 : w.heap.size < W1.heap.size := heap_lt HX1.out
 have hG2 := grownBy_setCell W1 xb 0 (.int .i32 1)
 have HF2 : Hid (Fr w (W1.setCell ⟨xb, 0, none⟩ (.int .i32 1)) (pOwns xb sb vr) (pOwns xb sb vr)) := (Fr.of_below HB1.out (pOwns xb sb vr)).turn hG2 (.inl (.inl rfl)) (fun i hi => .inl hi)
 have HZ2 : Hid ((W1.setCell ⟨xb, 0, none⟩ (.int .i32 1)).heap[xb]? = some (.cells #[.int .i32 1, z, .pointer (some ⟨sb, 0, none⟩)] 96)) := heap_setCell_eq (j := 0) HZ1.out (.int .i32 1)
 have HS2 := hide (HS1.out.aside hG2 HNX.out)
 have HX2 := hide ((hG2.block _ hz1 (by simp; omega)).trans HX1.out)
 clear hG2 hc hf HZ1 HS1 HX1
 generalize W1.setCell ⟨xb, 0, none⟩ (.int .i32 1) = W2 at HF2 HZ2 HS2 HX2 ⊢
 have hz2 : w.heap.size < W2.heap.size := heap_lt HX2.out
 have hc := box_cells HZ2.out
 go_wp2_with fail
 refine (sLate_any W2 sb q vr.V vr.cs st HS2.out HQK.out HSIM.out).mono ?_
 rintro e w3 ⟨k, t, a, l, c', rfl, H3⟩
 have hf3 : ∃ O', Fr W2 w3 (vr.V.owns vr.cs sb) O' := by
  obtain ⟨_, V3, cs3, _, _, _, f3, _⟩ := H3.out.2.at_
  exact ⟨_, f3⟩
 obtain ⟨O', hf3⟩ := hf3
 have HZ3 := hide (hf3.stay HZ2.out HNX.out)
 have HX3 := hide (hf3.stay HX2.out (fun e => by have := HLT.out _ (.inr e); omega))
 clear hf3 hc
 have hcz := box_cells HX3.out
 have hfz := frozen_of_block HX3.out
 unfold stepX
 go_wp2_with fail
 clear hcz hfz
 refine leaves_cons (f := 34) (args := #[.pointer (some ⟨xb, 0, none⟩)]) (by simp) (by simp [go_sem]) ?_
 have hG4 := put3_grown w3 w.heap.size (.int .i64 k) (.int .u32 t) (.slice a l.length c')
 have hx4 := put3_box (.int .i64 k) (.int .u32 t) (.slice a l.length c') HX3.out
 have hz4 := (hG4.block xb (heap_lt HZ3.out) (by simp; omega)).trans HZ3.out
 refine (unlock_deferred muLib ⟨xb, 0, none⟩ .returning _ (box_cells hz4 0) (frozen_of_block hz4 0)).mono ?_
 rintro e u' w5 ⟨rfl, rfl, rfl⟩
 have hG5 := grownBy_setCell (put3 w3 w.heap.size (.int .i64 k) (.int .u32 t) (.slice a l.length c')) xb 0 (.int .i32 0)
 have hx5 := (hG5.block w.heap.size (heap_lt hx4) (by simp; omega)).trans hx4
 have hz5 := heap_setCell_eq (j := 0) hz4 (.int .i32 0)
 exact ⟨_, results_cell_row2 rfl _ _ w.heap.size _ _ _ _ rfl hx5 undXs rfl (by kernel_rfl), k, t, a, l, c', rfl, H3.out.1, spoke_of HLT.out HNX.out hz2 HF2.out H3.out.2 hG4 hG5 hz5 hxl⟩
end Go.Proofs.YtafoepfhepdcoaaGreat
