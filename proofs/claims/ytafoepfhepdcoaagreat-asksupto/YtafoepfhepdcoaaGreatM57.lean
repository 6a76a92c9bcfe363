import Derived.Test.YtafoepfhepdcoaaGreatM56
import Derived.Test.YtafoepfhepdcoaaGreatM17
/- step and UpTo, of every New and Ask. -/
namespace Go.Proofs.YtafoepfhepdcoaaGreat
open Go.RowKit Go.Trawl
attribute [local go_sem] buildW

set_option maxRecDepth 10000 in
set_option maxHeartbeats 1000000 in
theorem step3 (w : World) (B ws : Nat) (U : Nat → Prop) (vps : Value) (hs : List Nat) (vh : Value) (ps : List Pl) (o : OpV) (hk : o.kind = 3) (hl : hs.length ≤ 99999900) (hg : Game B U w ws vps hs vh ps) (he : Even ps) (ho : OpAt w o) (h4 : ps.length ≤ 4) :
    Calls Tryz.prog 28 #[ptrV ws, .agg o.arr] w fun e w' => e = .returned (.bool true) ∧ Hid (Below B w w' ∧ ∃ U' vps' hs' vh' ps', Game B U' w' ws vps' hs' vh' ps' ∧ Even ps' ∧ ps'.length ≤ 4 ∧ hs'.length ≤ hs.length + 20) := by
  obtain ⟨kind, n, m, vq, va, vu, vx, s, frm, b, d, c, t, vr, rs⟩ := o
  dsimp only at hk
  subst hk
  have HST := hide hg
  have HE := hide he
  have HO := hide ho
  clear hg ho he
  unfold ptrV OpV.arr
  dsimp only
  go_enter Tryz.func28, Tryz.ntmps28
  go_wp2_with (refine wpList_load_cells _ rfl 79 _ rfl ⟨w.heap.size, 0, none⟩ rfl (OpV.arr ⟨3, n, m, vq, va, vu, vx, s, frm, b, d, c, t, vr, rs⟩) _ undO rfl oI (cells_new w (OpV.arr ⟨3, n, m, vq, va, vu, vx, s, frm, b, d, c, t, vr, rs⟩) 79) ?_)
  have hbl : Below w.heap.size w (w.alloc (.cells (OpV.arr ⟨3, n, m, vq, va, vu, vx, s, frm, b, d, c, t, vr, rs⟩) 79)) := (Below.refl _ _).alloc (Nat.le_refl _) _
  refine (free3 _ B ws U vps hs vh ps ⟨3, n, m, vq, va, vu, vx, s, frm, b, d, c, t, vr, rs⟩ rfl hl (HST.out.below hbl) HE.out (HO.out.below hbl) h4).mono ?_
  rintro e w2 ⟨rfl, H2⟩
  have HB2 := hide ((hbl.mono HST.out.st.sz).trans H2.out.1)
  have HX := hide H2.out.2
  clear H2 hbl
  go_wp2_with fail
  go_ret
  exact ⟨rfl, HB2.out, HX.out⟩

theorem Game.start (w : World) : Game w.heap.size (fun _ => False) (w.alloc (.cells #[.slice none 0 0, .slice none 0 0] 84)) w.heap.size (.slice none 0 0) [] (.slice none 0 0) [] := by
  have hz := alloc_size w (.cells #[.slice none 0 0, .slice none 0 0] 84)
  have hO : ∀ a k, Own w.heap.size (.slice none 0 0) (.slice none 0 0) (fun _ => False) [] a k → a = .law ∧ k = w.heap.size := by
    intro a k hk
    cases a with
    | law =>
      rcases hk with e | e | e | ⟨p, hp, _⟩ | e
      · exact ⟨rfl, e⟩
      · cases e
      · cases e
      · cases hp
      · exact e.elim
    | prog i => obtain ⟨p, hp, _⟩ := hk; simp at hp
    | ref i => obtain ⟨p, hp, _⟩ := hk; simp at hp
  exact ⟨St.start w, World.ownsRow_nil _ _ _ _, (fun p hp => by cases hp), (fun p hp => by cases hp), (fun p hp => by cases hp), fun a k hk => by rw [(hO a k hk).2]; exact Nat.le_refl _, fun a k hk => by rw [(hO a k hk).2, hz]; omega, fun a b k ha hb => by rw [(hO a k ha).1, (hO b k hb).1]⟩

set_option maxRecDepth 10000 in
set_option maxHeartbeats 4000000 in
theorem upTo34 (w : World) (v : Value) (os : List OpV) (hn : os.length ≤ 4000000) (hv : Lies w 21 v (os.map OpV.cells)) (hat : ∀ o ∈ os, OpAt w o) :
    Calls Tryz.prog 13 #[v, .int .i64 3, .int .i64 4] w fun e w' => e = .returned (.int .i64 (-1)) ∧ Below w.heap.size w w' := by
  have hv0 := hv
  obtain ⟨a, c, rfl, -⟩ := hv0
  rw [List.length_map] at hv ⊢
  have HV := hide hv
  have HAT := hide hat
  have HS := hide (Game.start w)
  clear hv hat
  go_enter Tryz.func13, Tryz.ntmps13
  go_wp2_with fail
  go_loopw [8] (fun i wr => ∃ (k : Nat) (U : Nat → Prop) (vps : Value) (hs : List Nat) (vh : Value) (ps : List Pl), i = .int .i64 k ∧ k ≤ os.length ∧ hs.length ≤ 20 * k ∧ ps.length ≤ 4 ∧ Hid (Even ps) ∧ Hid (Game w.heap.size U wr w.heap.size vps hs vh ps) ∧ Hid (Below w.heap.size w wr)) (fun i _ => os.length - (intOf i).toNat)
  case atStart => exact ⟨0, _, _, [], _, [], rfl, Nat.zero_le _, by simp, by simp, (fun p hp => by cases hp), HS.out, (Below.refl _ _).alloc (Nat.le_refl _) _⟩
  case round =>
    obtain ⟨k, U, vps, hs, vh, ps, rfl, hk, hhs, hps, HE, HST, HB⟩ := hrel
    by_cases hlt : k < os.length
    · obtain ⟨o, ho⟩ : ∃ o, os[k]? = some o := ⟨_, List.getElem?_eq_getElem hlt⟩
      have hoa := HAT.out o (List.mem_of_getElem? ho)
      obtain ⟨b, off, rfl, hkc, hcs⟩ := scr_at (HV.out.below HB.out) ho
      have HC := hide hcs
      have HOA := hide (hoa.below HB.out)
      clear hcs ho hoa
      by_cases h1 : o.kind < 3
      · have hd1 : decide (o.kind < 3) = true := by simp; exact h1
        go_wp2_with fail
        exact ⟨⟨k + 1, U, vps, hs, vh, ps, by go_num, by omega, by omega, hps, HE.out, HST.out, HB.out⟩, by simp [intOf]; omega⟩
      · by_cases h2 : 4 < o.kind
        · have hd1 : decide (o.kind < 3) = false := by simp; omega
          have hd2 : decide (4 < o.kind) = true := by simp; omega
          go_wp2_with fail
          exact ⟨⟨k + 1, U, vps, hs, vh, ps, by go_num, by omega, by omega, hps, HE.out, HST.out, HB.out⟩, by simp [intOf]; omega⟩
        · have HSTEP : Hid (Calls Tryz.prog 28 #[.pointer (some ⟨w.heap.size, 0, none⟩), .agg o.arr] wr fun e w' => e = .returned (.bool true) ∧ Hid (Below w.heap.size wr w' ∧ ∃ U' vps' hs' vh' ps', Game w.heap.size U' w' w.heap.size vps' hs' vh' ps' ∧ Even ps' ∧ ps'.length ≤ 4 ∧ hs'.length ≤ hs.length + 20)) := by
            by_cases h3 : o.kind = 3
            · exact step3 wr w.heap.size w.heap.size U vps hs vh ps o h3 (by omega) HST.out HE.out HOA.out hps
            · have h4 : o.kind = 4 := by omega
              by_cases h0 : ps = []
              · subst h0
                refine (step4_none wr w.heap.size w.heap.size U vps hs vh o h4 HST.out).mono ?_
                rintro e w' ⟨rfl, H⟩
                exact ⟨rfl, H.out.mono HST.out.st.sz, U, vps, hs, vh, [], HST.out.below H.out, HE.out, by simp, by omega⟩
              · have hl1 : 1 ≤ ps.length := by cases ps with | nil => exact absurd rfl h0 | cons x l => simp
                refine (step4 wr w.heap.size w.heap.size U vps hs vh ps o h4 (by omega) HST.out HE.out HOA.out hl1 hps).mono ?_
                rintro e w' ⟨rfl, H⟩
                obtain ⟨hb, U', hs', vh', ps', g1, g2, g3, g4⟩ := H.out
                exact ⟨rfl, hb, U', vps, hs', vh', ps', g1, g2, by omega, g4⟩
          have hd1 : decide (o.kind < 3) = false := by simp; omega
          have hd2 : decide (4 < o.kind) = false := by simp; omega
          have hk3 : ¬ o.kind < 3 := h1
          have hk4 : ¬ 4 < o.kind := h2
          clear HOA HST HE
          go_wp2_with (refine wpList_load_cells _ rfl 79 _ rfl ⟨b, off + k * 21, none⟩ rfl o.arr _ undO rfl oI HC.out ?_)
          refine HSTEP.out.mono ?_
          rintro e w2 ⟨rfl, H2⟩
          obtain ⟨hb2, U2, vps2, hs2, vh2, ps2, hg2, he2, hp2, hl2⟩ := H2.out
          have HG2 := hide hg2
          have HE2 := hide he2
          have HB2 := hide (HB.out.trans hb2)
          clear hkc hb2 hg2 he2 H2 HSTEP hd1 hd2 hk3 hk4
          go_wp2_with fail
          refine (looks_any w2 w.heap.size w.heap.size U2 vps2 hs2 vh2 (by omega) HG2.out.st.world).mono ?_
          rintro e w3 ⟨rfl, n3, hw3⟩
          have HG3 : Hid (Game w.heap.size U2 w3 w.heap.size vps2 hs2 vh2 ps2) := by rw [hw3]; exact HG2.out.below (below_drewN (Below.refl _ _) n3)
          have HB3 : Hid (Below w.heap.size w w3) := by rw [hw3]; exact below_drewN HB2.out n3
          clear hw3
          go_wp2_with fail
          exact ⟨⟨k + 1, U2, vps2, hs2, vh2, ps2, by go_num, by omega, by omega, hp2, HE2.out, HG3.out, HB3.out⟩, by simp [intOf]; omega⟩
    · go_wp2_with fail
      go_ret
      exact ⟨rfl, HB.out⟩
end Go.Proofs.YtafoepfhepdcoaaGreat

/- example, of every New and Ask. -/
namespace Go.Proofs.YtafoepfhepdcoaaGreat
open Go.RowKit Go.Trawl
attribute [local go_sem] buildQ3 buildR4 buildM1 buildM16 buildC5 buildOQ buildOR buildO16 buildOS buildOF buildO0 buildOC

set_option maxRecDepth 10000 in
set_option maxHeartbeats 4000000 in
theorem exam34 (w : World) : Calls Tryz.prog 12 #[.int .i64 3, .int .i64 4] w fun e w' => e = .returned (.bool true) ∧ Below w.heap.size w w' := by
  obtain ⟨io, io0, io1, io2, io3⟩ := info_parts oI3
  go_enter Tryz.func12, Tryz.ntmps12
  go_wp2_with fail
  generalize hW : ((((w.alloc _).alloc _).alloc _).alloc _) = W
  have hEX : EX w W := by
    subst hW
    refine ⟨((((Below.refl _ _).alloc (Nat.le_refl _) _).alloc ?_ _).alloc ?_ _).alloc ?_ _, ?_, ?_, ?_, ?_⟩
    · rw [alloc_size]; omega
    · rw [alloc_size, alloc_size]; omega
    · rw [alloc_size, alloc_size, alloc_size]; omega
    · exact heap_old (heap_old (heap_old (heap_new _ _) _) _) _
    · have := heap_new (w.alloc (.cells #[Value.string { data := #[1, 97, 0] }, Value.int IntKind.u16 1, Value.int IntKind.u16 1] 41)) (.cells #[Value.int IntKind.u16 1, Value.bool false, Value.int IntKind.i64 0, Value.bool false, Value.bool false, Value.bool false, Value.bool false, Value.int IntKind.i64 0, Value.slice (some { block := w.heap.size, off := 0 }) 1 1, Value.slice none 0 0, Value.slice none 0 0, Value.slice none 0 0] 30)
      rw [alloc_size] at this
      exact heap_old (heap_old this _) _
    · have := heap_new ((w.alloc (.cells #[Value.string { data := #[1, 97, 0] }, Value.int IntKind.u16 1, Value.int IntKind.u16 1] 41)).alloc (.cells #[Value.int IntKind.u16 1, Value.bool false, Value.int IntKind.i64 0, Value.bool false, Value.bool false, Value.bool false, Value.bool false, Value.int IntKind.i64 0, Value.slice (some { block := w.heap.size, off := 0 }) 1 1, Value.slice none 0 0, Value.slice none 0 0, Value.slice none 0 0] 30))
        (.cells #[Value.int IntKind.u16 1, Value.bool true, Value.int IntKind.i64 0, Value.bool true, Value.bool false, Value.bool false, Value.bool false, Value.int IntKind.i64 0, Value.slice (some { block := w.heap.size, off := 0 }) 1 1, Value.slice (some { block := w.heap.size + 1 + 1 + 1, off := 0 }) 1 1, Value.slice none 0 0, Value.slice none 0 0] 30)
      rw [alloc_size, alloc_size] at this
      exact heap_old this _
    · have := heap_new (((w.alloc (.cells #[Value.string { data := #[1, 97, 0] }, Value.int IntKind.u16 1, Value.int IntKind.u16 1] 41)).alloc (.cells #[Value.int IntKind.u16 1, Value.bool false, Value.int IntKind.i64 0, Value.bool false, Value.bool false, Value.bool false, Value.bool false, Value.int IntKind.i64 0, Value.slice (some { block := w.heap.size, off := 0 }) 1 1, Value.slice none 0 0, Value.slice none 0 0, Value.slice none 0 0] 30)).alloc
        (.cells #[Value.int IntKind.u16 1, Value.bool true, Value.int IntKind.i64 0, Value.bool true, Value.bool false, Value.bool false, Value.bool false, Value.int IntKind.i64 0, Value.slice (some { block := w.heap.size, off := 0 }) 1 1, Value.slice (some { block := w.heap.size + 1 + 1 + 1, off := 0 }) 1 1, Value.slice none 0 0, Value.slice none 0 0] 30))
        (.cells #[Value.string { data := #[1, 97, 0] }, Value.int IntKind.u16 1, Value.int IntKind.u16 1, Value.int IntKind.u32 0, Value.string { data := #[1, 2, 3, 4] }] 69)
      rw [alloc_size, alloc_size, alloc_size] at this
      exact this
  clear hW
  have HEX := hide hEX
  clear hEX
  refine (rpack2 mQ _ _ _ _ _ wfQ HEX.out.atQ).mono ?_
  rintro e w1 ⟨hb1, rfl⟩
  have hs := packL_length mQ
  rw [← str_size] at hs
  generalize str (packL mQ) = s at hs ⊢
  generalize packE mQ = pe
  have HEX1 := hide (HEX.out.move hb1)
  have hc1 := box_cells HEX1.out.h1
  have hc2 := box_cells HEX1.out.h2
  clear HEX hb1
  go_wp2_with fail
  refine (rpack2 mR _ _ _ _ _ wfR HEX1.out.atR).mono ?_
  rintro e w2 ⟨hb2, rfl⟩
  have ht := packL_length mR
  rw [← str_size] at ht
  generalize str (packL mR) = t at ht ⊢
  generalize packE mR = pe2
  have HEX2 := hide (HEX1.out.move hb2)
  clear hc1 hc2
  have hc1 := box_cells HEX2.out.h1
  have hc2 := box_cells HEX2.out.h2
  clear HEX1 hb2
  have hlt : w.heap.size < w2.heap.size := heap_lt HEX2.out.h0
  have hlt1 : w.heap.size + 1 < w2.heap.size := heap_lt HEX2.out.h1
  have hlt2 : w.heap.size + 1 + 1 < w2.heap.size := heap_lt HEX2.out.h2
  go_wp2_with (refine wpList_script rfl _ _ _ _ _ _ _ _ _ _ _ _ _ _ rfl (opM 1 mQ (.slice (some ⟨w.heap.size, 0, none⟩) 1 1) (.slice none 0 0) (.slice none 0 0) (.slice none 0 0)) (opM 1 mR (.slice (some ⟨w.heap.size, 0, none⟩) 1 1) (.slice (some ⟨w.heap.size + 1 + 1 + 1, 0, none⟩) 1 1) (.slice none 0 0) (.slice none 0 0)) (opM 1 m16 (.slice none 0 0) (.slice none 0 0) (.slice none 0 0) (.slice none 0 0)) (opS 2 0 t) (opS 2 0 (t ++ ⟨#[120]⟩)) (opC 9 1 1 2 (.slice (some ⟨w2.heap.size, 0, none⟩) 1 1) [7]) (opS 4 0 s) (opS 5 8 t) (opS 5 7 t) (opS 4 0 s) (opS 4 0 s) (opS 6 0 ⟨#[]⟩) (opS 6 0 ⟨#[]⟩) (opS 6 0 ⟨#[]⟩) rfl rfl rfl rfl rfl rfl rfl rfl rfl rfl rfl rfl rfl rfl ?_)
  generalize hcs : List.toArray ((opM 1 mQ _ _ _ _).cells ++ _) = cs
  have hcs2 : cs = ((exOps w.heap.size w2.heap.size s t).map OpV.cells).flatten.toArray := by
    rw [← hcs]
    simp only [exOps, List.map_cons, List.map_nil, List.flatten_cons, List.flatten_nil, List.append_nil]
  clear hcs
  have hB1 : Below w2.heap.size w2 (w2.alloc (.cells #[Value.int IntKind.u32 7] 54)) := (Below.refl _ _).alloc (Nat.le_refl _) _
  have hB2 : Below w2.heap.size w2 ((w2.alloc (.cells #[Value.int IntKind.u32 7] 54)).alloc (.cells cs 79)) := hB1.alloc (by rw [alloc_size]; omega) _
  have hR : ((w2.alloc (.cells #[Value.int IntKind.u32 7] 54)).alloc (.cells cs 79)).heap[w2.heap.size]? = some (.cells #[.int .u32 7] 54) := heap_old (heap_new _ _) _
  have hS : ((w2.alloc (.cells #[Value.int IntKind.u32 7] 54)).alloc (.cells cs 79)).heap[w2.heap.size + 1]? = some (.cells cs 79) := by
    have := heap_new (w2.alloc (.cells #[Value.int IntKind.u32 7] 54)) (.cells cs 79)
    rw [alloc_size] at this
    exact this
  generalize ((w2.alloc (.cells #[Value.int IntKind.u32 7] 54)).alloc (.cells cs 79)) = w3 at hB2 hR hS ⊢
  have HEX3 := hide (HEX2.out.move hB2)
  rw [hcs2] at hS
  refine (upTo34 w3 _ (exOps w.heap.size w2.heap.size s t) (by simp [exOps]) (lies_flat hS rfl) (exOps_at HEX3.out hR hs ht)).mono ?_
  rintro e w4 ⟨rfl, hb4⟩
  have HB4 := hide ((HEX3.out.below).trans (hb4.mono HEX3.out.below.size))
  clear hb4 hS hR hB1 hB2 hc1 hc2 hcs2
  go_wp2_with fail
  go_ret
  exact ⟨rfl, HB4.out⟩
end Go.Proofs.YtafoepfhepdcoaaGreat

/- Asks: every New and Ask of every script. -/
namespace Go.Proofs.YtafoepfhepdcoaaGreat
open Go.RowKit Go.Trawl

set_option maxRecDepth 10000 in
set_option maxHeartbeats 2000000 in
theorem asks_any (w : World) (v : Value) (os : List OpV) (hn : os.length ≤ 4000000) (hv : Lies w 21 v (os.map OpV.cells)) (hat : ∀ o ∈ os, OpAt w o) :
    Calls Tryz.prog 5 #[v] w fun e w' => e = .returned (.bool true) ∧ Below w.heap.size w w' := by
  have HV := hide hv
  have HAT := hide hat
  clear hv hat
  go_enter Tryz.func5, Tryz.ntmps5
  go_wp2_with fail
  refine (exam34 _).mono ?_
  rintro e w1 ⟨rfl, hb1⟩
  have HB1 := hide hb1
  clear hb1
  go_wp2_with fail
  refine (upTo34 w1 v os hn (HV.out.below HB1.out) (fun o ho => (HAT.out o ho).below HB1.out)).mono ?_
  rintro e w2 ⟨rfl, hb2⟩
  have HB2 := hide (HB1.out.trans (hb2.mono HB1.out.size))
  clear hb2
  go_wp2_with fail
  go_ret
  exact ⟨rfl, HB2.out⟩
end Go.Proofs.YtafoepfhepdcoaaGreat
