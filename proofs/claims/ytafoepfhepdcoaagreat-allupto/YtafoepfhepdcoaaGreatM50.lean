import Derived.Test.YtafoepfhepdcoaaGreatM13
import Derived.Test.YtafoepfhepdcoaaGreatM46
import Derived.Test.YtafoepfhepdcoaaGreatM49
import Derived.Test.YtafoepfhepdcoaaGreatM36
import Derived.Test.YtafoepfhepdcoaaGreatM12
import Derived.Test.YtafoepfhepdcoaaGreatRows
import Derived.ProofKit
import Derived.Deep.Slices
set_option maxRecDepth 100000
set_option maxHeartbeats 8000000
namespace Go.Proofs.YtafoepfhepdcoaaGreat
open Go.RowKit Go.Trawl
attribute [local go_sem] buildW
def StepSays (B ws : Nat) (hs : List Nat) (w : World) (e : Ending) (w' : World) : Prop := e = .returned (.bool true) ∧ Hid (Below B w w' ∧ ∃ U' vps' hs' vh' ps', Game B U' w' ws vps' hs' vh' ps' ∧ Even ps' ∧ ps'.length ≤ 4 ∧ hs'.length ≤ hs.length + 20)
def Steps (lo hi : Int) : Prop := ∀ (w : World) (B ws : Nat) (U : Nat → Prop) (vps : Value) (hs : List Nat) (vh : Value) (ps : List Pl) (o : OpV), lo ≤ o.kind → o.kind ≤ hi → hs.length ≤ 99999900 → Game B U w ws vps hs vh ps → Even ps → OpAt w o → ps.length ≤ 4 →
 Calls Tryz.prog 28 #[ptrV ws, .agg o.arr] w (StepSays B ws hs w)
theorem steps36 : Steps 3 6 := by
 intro w B ws U vps hs vh ps o h1 h2 hl hg he ho hp
 have none : ∀ {e : Ending} {w' : World}, ps = [] → e = .returned (.bool true) ∧ Hid (Below w.heap.size w w') → StepSays B ws hs w e w' := fun h0 ⟨e, H⟩ => ⟨e, H.out.mono hg.st.sz, U, vps, hs, vh, ps, hg.below H.out, he, by simp [h0], by omega⟩
 have some : ∀ {e : Ending} {w' : World}, (e = .returned (.bool true) ∧ Hid (Below B w w' ∧ ∃ U' hs' vh' ps', Game B U' w' ws vps hs' vh' ps' ∧ Even ps' ∧ ps'.length = ps.length ∧ hs'.length ≤ hs.length + 20)) → StepSays B ws hs w e w' := fun ⟨e, H⟩ => by
  obtain ⟨hb, U', hs', vh', ps', g1, g2, g3, g4⟩ := H.out
  exact ⟨e, hb, U', vps, hs', vh', ps', g1, g2, by omega, g4⟩
 have hl1 : ps ≠ [] → 1 ≤ ps.length := fun h0 => by cases ps with | nil => exact absurd rfl h0 | cons x l => simp
 rcases (show o.kind = 3 ∨ o.kind = 4 ∨ o.kind = 5 ∨ o.kind = 6 by omega) with hk | hk | hk | hk
 ·exact step3 w B ws U vps hs vh ps o hk hl hg he ho hp
 ·by_cases h0 : ps = []
  ·exact (step4_none w B ws U vps hs vh o hk (by rw [← h0]; exact hg)).mono fun _ _ H => none h0 H
  ·exact (step4 w B ws U vps hs vh ps o hk hl hg he ho (hl1 h0) hp).mono fun _ _ H => some H
 ·by_cases h0 : ps = []
  ·exact (step5_none w B ws U vps hs vh o hk (by rw [← h0]; exact hg)).mono fun _ _ H => none h0 H
  ·exact (step5 w B ws U vps hs vh ps o hk hl hg he ho (hl1 h0) hp).mono fun _ _ H => some H
 ·by_cases h0 : ps = []
  ·exact (step6_none w B ws U vps hs vh o hk (by rw [← h0]; exact hg)).mono fun _ _ H => none h0 H
  ·exact (step6 w B ws U vps hs vh ps o hk hl hg he ho (hl1 h0) hp).mono fun _ _ H => some H
theorem upTo_any (lo hi : Int) (hS : Steps lo hi) (w : World) (v : Value) (os : List OpV) (hn : os.length ≤ 4000000) (hv : Lies w 21 v (os.map OpV.cells)) (hat : ∀ o ∈ os, OpAt w o) :
  Calls Tryz.prog 13 #[v, .int .i64 lo, .int .i64 hi] w fun e w' => e = .returned (.int .i64 (-1)) ∧ Below w.heap.size w w' := by
 have hv0 := hv
 obtain ⟨a, c, rfl, -⟩ := hv0
 rw [List.length_map] at hv ⊢
 have HV := hide hv
 have HAT := hide hat
 have HS := hide (Game.start w)
 have HSS := hide hS
 clear hv hat hS
 go_enter Tryz.func13, Tryz.ntmps13
 go_wp2_with fail
 go_loopw [8] (fun i wr => ∃ (k : Nat) (U : Nat → Prop) (vps : Value) (hs : List Nat) (vh : Value) (ps : List Pl), i = .int .i64 k ∧ k ≤ os.length ∧ hs.length ≤ 20 * k ∧ ps.length ≤ 4 ∧ Hid (Even ps) ∧ Hid (Game w.heap.size U wr w.heap.size vps hs vh ps) ∧ Hid (Below w.heap.size w wr)) (fun i _ => os.length - (intOf i).toNat)
 case atStart => exact ⟨0, _, _, [], _, [], rfl, Nat.zero_le _, by simp, by simp, (fun p hp => by cases hp), HS.out, (Below.refl _ _).alloc (Nat.le_refl _) _⟩
 case round =>
  obtain ⟨k, U, vps, hs, vh, ps, rfl, hk, hhs, hps, HE, HST, HB⟩ := hrel
  by_cases hlt : k < os.length
  ·obtain ⟨o, ho⟩ : ∃ o, os[k]? = some o := ⟨_, List.getElem?_eq_getElem hlt⟩
   have hoa := HAT.out o (List.mem_of_getElem? ho)
   obtain ⟨b, off, rfl, hkc, hcs⟩ := scr_at (HV.out.below HB.out) ho
   have HC := hide hcs
   have HOA := hide (hoa.below HB.out)
   clear hcs ho hoa
   by_cases h1 : o.kind < lo
   ·have hd1 : decide (o.kind < lo) = true := by simp; exact h1
    go_wp2_with fail
    exact ⟨⟨k + 1, U, vps, hs, vh, ps, by go_num, by omega, by omega, hps, HE.out, HST.out, HB.out⟩, by simp [intOf]; omega⟩
   ·by_cases h2 : hi < o.kind
    ·have hd1 : decide (o.kind < lo) = false := by simp; omega
     have hd2 : decide (hi < o.kind) = true := by simp; omega
     go_wp2_with fail
     exact ⟨⟨k + 1, U, vps, hs, vh, ps, by go_num, by omega, by omega, hps, HE.out, HST.out, HB.out⟩, by simp [intOf]; omega⟩
    ·have HSTEP := hide (HSS.out wr w.heap.size w.heap.size U vps hs vh ps o (by omega) (by omega) (by omega) HST.out HE.out HOA.out hps)
     unfold ptrV StepSays at HSTEP
     have hd1 : decide (o.kind < lo) = false := by simp; omega
     have hd2 : decide (hi < o.kind) = false := by simp; omega
     have hk3 : ¬ o.kind < lo := h1
     have hk4 : ¬ hi < o.kind := h2
     clear HOA HST HE
     go_wp2_with (refine wpList_load_cells _ rfl 79 _ rfl ⟨b, off + k * 21, none⟩ rfl o.arr _ undO rfl oI HC.out ?_)
     refine HSTEP.out.mono ?_
     rintro e w2 ⟨rfl, H2⟩
     obtain ⟨hb2, U2, vps2, hs2, vh2, ps2, hg2, he2, hp2, hl2⟩ := H2.out
     have HG2 := hide hg2
     have HE2 := hide he2
     have HB2 := hide (HB.out.trans hb2)
     clear hkc hb2 hg2 he2 H2 HSTEP hd1 hd2 hk3 hk4
     go_wp2_with fail
     refine (looks_any w2 w.heap.size w.heap.size U2 vps2 hs2 vh2 (by omega) HG2.out.st.world).mono ?_
     rintro e w3 ⟨rfl, n3, hw3⟩
     have HG3 : Hid (Game w.heap.size U2 w3 w.heap.size vps2 hs2 vh2 ps2) := by rw [hw3]; exact HG2.out.below (below_drewN (Below.refl _ _) n3)
     have HB3 : Hid (Below w.heap.size w w3) := by rw [hw3]; exact below_drewN HB2.out n3
     clear hw3
     go_wp2_with fail
     exact ⟨⟨k + 1, U2, vps2, hs2, vh2, ps2, by go_num, by omega, by omega, hp2, HE2.out, HG3.out, HB3.out⟩, by simp [intOf]; omega⟩
  ·go_wp2_with fail
   go_ret
   exact ⟨rfl, HB.out⟩
end Go.Proofs.YtafoepfhepdcoaaGreat
namespace Go.Proofs.YtafoepfhepdcoaaGreat
open Go.RowKit Go.Trawl
attribute [local go_sem] buildQ3 buildR4 buildM1 buildM16 buildC5 buildOQ buildOR buildO16 buildOS buildOF buildO0 buildOC
theorem exam_any (lo hi : Int) (hSteps : Steps lo hi) (w : World) : Calls Tryz.prog 12 #[.int .i64 lo, .int .i64 hi] w fun e w' => e = .returned (.bool true) ∧ Below w.heap.size w w' := by
  obtain ⟨io, io0, io1, io2, io3⟩ := info_parts oI3
  have HSS := hide hSteps
  clear hSteps
  go_enter Tryz.func12, Tryz.ntmps12
  go_wp2_with fail
  generalize hW : ((((w.alloc _).alloc _).alloc _).alloc _) = W
  have hEX : EX w W := by
    subst hW
    refine ⟨((((Below.refl _ _).alloc (Nat.le_refl _) _).alloc ?_ _).alloc ?_ _).alloc ?_ _, ?_, ?_, ?_, ?_⟩
    · rw [as_]; omega
    · rw [as_, as_]; omega
    · rw [as_, as_, as_]; omega
    · exact heap_old (heap_old (heap_old (hn_ _ _) _) _) _
    · have := hn_ (w.alloc (.cells #[.string { data := #[1, 97, 0] }, .int .u16 1, .int .u16 1] 41)) (.cells #[.int .u16 1, .bool false, .int .i64 0, .bool false, .bool false, .bool false, .bool false, .int .i64 0, .slice (some { block := w.heap.size, off := 0 }) 1 1, .slice none 0 0, .slice none 0 0, .slice none 0 0] 30)
      rw [as_] at this
      exact heap_old (heap_old this _) _
    · have := hn_ ((w.alloc (.cells #[.string { data := #[1, 97, 0] }, .int .u16 1, .int .u16 1] 41)).alloc (.cells #[.int .u16 1, .bool false, .int .i64 0, .bool false, .bool false, .bool false, .bool false, .int .i64 0, .slice (some { block := w.heap.size, off := 0 }) 1 1, .slice none 0 0, .slice none 0 0, .slice none 0 0] 30))
        (.cells #[.int .u16 1, .bool true, .int .i64 0, .bool true, .bool false, .bool false, .bool false, .int .i64 0, .slice (some { block := w.heap.size, off := 0 }) 1 1, .slice (some { block := w.heap.size + 1 + 1 + 1, off := 0 }) 1 1, .slice none 0 0, .slice none 0 0] 30)
      rw [as_, as_] at this
      exact heap_old this _
    · have := hn_ (((w.alloc (.cells #[.string { data := #[1, 97, 0] }, .int .u16 1, .int .u16 1] 41)).alloc (.cells #[.int .u16 1, .bool false, .int .i64 0, .bool false, .bool false, .bool false, .bool false, .int .i64 0, .slice (some { block := w.heap.size, off := 0 }) 1 1, .slice none 0 0, .slice none 0 0, .slice none 0 0] 30)).alloc
        (.cells #[.int .u16 1, .bool true, .int .i64 0, .bool true, .bool false, .bool false, .bool false, .int .i64 0, .slice (some { block := w.heap.size, off := 0 }) 1 1, .slice (some { block := w.heap.size + 1 + 1 + 1, off := 0 }) 1 1, .slice none 0 0, .slice none 0 0] 30))
        (.cells #[.string { data := #[1, 97, 0] }, .int .u16 1, .int .u16 1, .int .u32 0, .string { data := #[1, 2, 3, 4] }] 69)
      rw [as_, as_, as_] at this
      exact this
  clear hW
  have HEX := hide hEX
  clear hEX
  refine (rpack2 mQ _ _ _ _ _ wfQ HEX.out.atQ).mono ?_
  rintro e w1 ⟨hb1, rfl⟩
  have hs := packL_length mQ
  rw [← str_size] at hs
  generalize str (packL mQ) = s at hs ⊢
  generalize packE mQ = pe
  have HEX1 := hide (HEX.out.move hb1)
  have hc1 := bc_ HEX1.out.h1
  have hc2 := bc_ HEX1.out.h2
  clear HEX hb1
  go_wp2_with fail
  refine (rpack2 mR _ _ _ _ _ wfR HEX1.out.atR).mono ?_
  rintro e w2 ⟨hb2, rfl⟩
  have ht := packL_length mR
  rw [← str_size] at ht
  generalize str (packL mR) = t at ht ⊢
  generalize packE mR = pe2
  have HEX2 := hide (HEX1.out.move hb2)
  clear hc1 hc2
  have hc1 := bc_ HEX2.out.h1
  have hc2 := bc_ HEX2.out.h2
  clear HEX1 hb2
  have hlt : w.heap.size < w2.heap.size := hl_ HEX2.out.h0
  have hlt1 : w.heap.size + 1 < w2.heap.size := hl_ HEX2.out.h1
  have hlt2 : w.heap.size + 1 + 1 < w2.heap.size := hl_ HEX2.out.h2
  go_wp2_with (refine wpList_script rfl _ _ _ _ _ _ _ _ _ _ _ _ _ _ rfl (opM 1 mQ (.slice (some ⟨w.heap.size, 0, none⟩) 1 1) (.slice none 0 0) (.slice none 0 0) (.slice none 0 0)) (opM 1 mR (.slice (some ⟨w.heap.size, 0, none⟩) 1 1) (.slice (some ⟨w.heap.size + 1 + 1 + 1, 0, none⟩) 1 1) (.slice none 0 0) (.slice none 0 0)) (opM 1 m16 (.slice none 0 0) (.slice none 0 0) (.slice none 0 0) (.slice none 0 0)) (opS 2 0 t) (opS 2 0 (t ++ ⟨#[120]⟩)) (opC 9 1 1 2 (.slice (some ⟨w2.heap.size, 0, none⟩) 1 1) [7]) (opS 4 0 s) (opS 5 8 t) (opS 5 7 t) (opS 4 0 s) (opS 4 0 s) (opS 6 0 ⟨#[]⟩) (opS 6 0 ⟨#[]⟩) (opS 6 0 ⟨#[]⟩) rfl rfl rfl rfl rfl rfl rfl rfl rfl rfl rfl rfl rfl rfl ?_)
  generalize hcs : List.toArray ((opM 1 mQ _ _ _ _).cells ++ _) = cs
  have hcs2 : cs = ((exOps w.heap.size w2.heap.size s t).map OpV.cells).flatten.toArray := by
    rw [← hcs]
    simp only [exOps, List.map_cons, List.map_nil, List.flatten_cons, List.flatten_nil, List.append_nil]
  clear hcs
  have hB1 : Below w2.heap.size w2 (w2.alloc (.cells #[.int .u32 7] 54)) := (Below.refl _ _).alloc (Nat.le_refl _) _
  have hB2 : Below w2.heap.size w2 ((w2.alloc (.cells #[.int .u32 7] 54)).alloc (.cells cs 79)) := hB1.alloc (by rw [as_]; omega) _
  have hR : ((w2.alloc (.cells #[.int .u32 7] 54)).alloc (.cells cs 79)).heap[w2.heap.size]? = some (.cells #[.int .u32 7] 54) := heap_old (hn_ _ _) _
  have hS : ((w2.alloc (.cells #[.int .u32 7] 54)).alloc (.cells cs 79)).heap[w2.heap.size + 1]? = some (.cells cs 79) := by
    have := hn_ (w2.alloc (.cells #[.int .u32 7] 54)) (.cells cs 79)
    rw [as_] at this
    exact this
  generalize ((w2.alloc (.cells #[.int .u32 7] 54)).alloc (.cells cs 79)) = w3 at hB2 hR hS ⊢
  have HEX3 := hide (HEX2.out.move hB2)
  rw [hcs2] at hS
  refine (upTo_any lo hi HSS.out w3 _ (exOps w.heap.size w2.heap.size s t) (by simp [exOps]) (lies_flat hS rfl) (exOps_at HEX3.out hR hs ht)).mono ?_
  rintro e w4 ⟨rfl, hb4⟩
  have HB4 := hide ((HEX3.out.below).trans (hb4.mono HEX3.out.below.size))
  clear hb4 hS hR hB1 hB2 hc1 hc2 hcs2
  go_wp2_with fail
  go_ret
  exact ⟨rfl, HB4.out⟩
end Go.Proofs.YtafoepfhepdcoaaGreat
namespace Go.Proofs.YtafoepfhepdcoaaGreat
open Go.RowKit Go.Trawl
section
variable {B : Nat} {U U' : Nat → Prop} {w w' : World} {ws : Nat} {vps : Value} {hs hs' : List Nat} {vh vh' : Value} {ps : List Pl}
theorem Game.went (h : Game B U w ws vps hs vh ps) (g : Went w w' ws (fun _ => False) U U' vh vh') (st : St B U' w' ws vps hs' vh') : Game B U' w' ws vps hs' vh' ps := by
 have hsz := g.size
 have hB := h.st.sz
 have keep : ∀ a k, Own ws vps vh U ps a k → k ≠ ws → vh.ownBlock ≠ some k → w'.heap[k]? = w.heap[k]? := fun a k hk n1 n2 => g.block k (h.lt a k hk) n1 n2 (fun f => f)
 have other : ∀ a k, a ≠ .law → Own ws vps vh U ps a k → w'.heap[k]? = w.heap[k]? := fun a k ha hk => keep a k hk (fun e => ha (h.one a .law k hk (.inl e))) (fun e => ha (h.one a .law k hk (.inr (.inl e))))
 have hvps : ∀ k, vps.ownBlock = some k → w'.heap[k]? = w.heap[k]? := fun k hk => keep .law k (.inr (.inr (.inl hk))) (fun e => own_type_ne' h.row h.st.world.boxw (by decide) (by rw [← e]; exact hk)) (fun e => rows_apart h.row h.st.world.row (by decide) hk e)
 have hpb : ∀ p ∈ ps, w'.heap[p.pb]? = w.heap[p.pb]? := fun p hp => keep .law p.pb (.inr (.inr (.inr (.inl ⟨p, hp, rfl⟩)))) (type_ne (h.box p hp) h.st.world.boxw (by decide)) (own_type_ne' h.st.world.row (h.box p hp) (by decide))
 have hO : ∀ a k, Own ws vps vh' U' ps a k → Own ws vps vh U ps a k ∨ (a = .law ∧ w.heap.size ≤ k ∧ k < w'.heap.size) := by
  intro a k hk
  cases a with
  | law =>
   rcases hk with e | e | e | e | e
   ·exact .inl (.inl e)
   ·rcases g.loc k e with e1 | e1
    ·exact .inl (.inr (.inl e1))
    ·exact .inr ⟨rfl, e1, (st.world.row.lt k e).2⟩
   ·exact .inl (.inr (.inr (.inl e)))
   ·exact .inl (.inr (.inr (.inr (.inl e))))
   ·rcases g.use k e with e1 | e1
    ·exact .inl (.inr (.inr (.inr (.inr e1))))
    ·exact .inr ⟨rfl, e1, st.lt k e⟩
  | prog j => exact .inl hk
  | ref j => exact .inl hk
 refine ⟨st, own_at h.row hvps, fun p hp => (hpb p hp).trans (h.box p hp), fun p hp => ?_, fun p hp => ?_, fun a k hk => ?_, fun a k hk => ?_, one_turn h.one .law (fun a k hk => (hO a k hk).imp id (fun e => ⟨e.1, fun b hb => by have := h.lt b k hb; omega⟩))⟩
 ·obtain ⟨j, hj⟩ := mem_get hp
  exact (h.prog p hp).keep hsz (fun k hk => other (.prog j) k (by simp) ⟨p, hj, hk⟩)
 ·obtain ⟨j, hj⟩ := mem_get hp
  exact (h.ref p hp).at hsz (fun k hk => other (.ref j) k (by simp) ⟨p, hj, hk⟩)
 ·rcases hO a k hk with e | e
  ·exact h.lo a k e
  ·omega
 ·rcases hO a k hk with e | e
  ·exact Nat.lt_of_lt_of_le (h.lt a k e) hsz
  ·exact e.2.2
end
theorem steps16 : Steps 1 6 := by
 intro w B ws U vps hs vh ps o h1 h2 hl hg he ho hp
 rcases (show o.kind = 1 ∨ o.kind = 2 ∨ 3 ≤ o.kind by omega) with hk | hk | hk
 ·refine (step1 w B ws U vps hs vh o hk (by omega) hg.st ho).mono fun e w' ⟨e1, hb, U', hs', vh', st, hn, g⟩ => ?_
  exact ⟨e1, hb, U', vps, hs', vh', ps, hg.went g st, he, hp, by omega⟩
 ·refine (step2 w B ws U vps hs vh o hk (by omega) hg.st ho).mono fun e w' ⟨e1, hb, U', hs', vh', st, hn, g⟩ => ?_
  exact ⟨e1, hb, U', vps, hs', vh', ps, hg.went g st, he, hp, by omega⟩
 ·exact steps36 w B ws U vps hs vh ps o hk h2 hl hg he ho hp
theorem all_any (w : World) (v : Value) (os : List OpV) (hn : os.length ≤ 4000000) (hv : Lies w 21 v (os.map OpV.cells)) (hat : ∀ o ∈ os, OpAt w o) :
  Calls Tryz.prog 11 #[v] w fun e w' => e = .returned (.bool true) ∧ Below w.heap.size w w' := by
 have HV := hide hv
 have HAT := hide hat
 clear hv hat
 go_enter Tryz.func11, Tryz.ntmps11
 go_wp2_with fail
 refine (exam_any 1 6 steps16 _).mono ?_
 rintro e w1 ⟨rfl, hb1⟩
 have HB1 := hide hb1
 clear hb1
 go_wp2_with fail
 refine (upTo_any 1 6 steps16 w1 v os hn (HV.out.below HB1.out) (fun o ho => (HAT.out o ho).below HB1.out)).mono ?_
 rintro e w2 ⟨rfl, hb2⟩
 have HB2 := hide (HB1.out.trans (hb2.mono HB1.out.size))
 clear hb2
 go_wp2_with fail
 go_ret
 exact ⟨rfl, HB2.out⟩
end Go.Proofs.YtafoepfhepdcoaaGreat
namespace Go.Proofs.YtafoepfhepdcoaaGreat
open Go.RowKit Go.Trawl Go.ChangeShapes Go.WideShapes
section
variable {H : Type} {enc : TypeId × Value → H} {P : Program} {w : World} {sp : Nat → Bool} {held : Bool}
theorem bulk_pos (d : DataW H) : 0 < Rows.uptoBulk d := by
 cases d with
 | lit l => cases l <;> simp [Rows.uptoBulk]
 | _ => simp [Rows.uptoBulk]
theorem bulk_in {d : DataW H} : ∀ {l : List (DataW H)}, d ∈ l → Rows.uptoBulk d ≤ Rows.uptoBulkAll l
 | [], h => by cases h
 | x :: r, h => by
  unfold Rows.uptoBulkAll
  rcases List.mem_cons.1 h with rfl | h
  ·exact Nat.le_add_right _ _
  ·exact Nat.le_trans (bulk_in h) (Nat.le_add_left _ _)
theorem bulk_count : ∀ l : List (DataW H), l.length ≤ Rows.uptoBulkAll l
 | [] => Nat.zero_le _
 | x :: r => by
  have h1 := bulk_count r
  have h2 := bulk_pos x
  unfold Rows.uptoBulkAll
  simp only [List.length_cons]
  omega
theorem bulk_str (l : List UInt8) : Rows.uptoBulk (DataW.lit (H := H) (.string l)) = l.length + 1 := by simp [Rows.uptoBulk]
theorem open_lies {α : Type} [Inhabited α] (cells : α → List Value) (ok : α → Prop) {t e : TypeId} {sz B : Nat} (ht : P.underlying t = some (.slice e)) (hc : P.cellsOf e = sz) (hsz : 0 < sz)
  (each : ∀ n cs d p, DataW.trod enc P w 0 sp held n e cs = some (d, p) → Rows.uptoBulk d ≤ B → ∃ x, cs = cells x ∧ ok x)
  {fuel : Nat} {cs : List Value} {x : DataW H × List MemPlace} (h : DataW.trod enc P w 0 sp held fuel t cs = some x) (hB : Rows.uptoBulk x.1 ≤ B) :
  ∃ (v : Value) (xs : List α), cs = [v] ∧ Lies w sz v (xs.map cells) ∧ (∀ y ∈ xs, ok y) ∧ xs.length ≤ B := by
 rcases DataW.trod_slice ht h with ⟨rfl, rfl⟩ | ⟨a, len, cap, elems, rest, n, rfl, rfl, rfl, hb, hl, hm, hlen, hel, -, -⟩
 ·exact ⟨_, [], rfl, ⟨none, 0, rfl, fun _ => rfl, .inl rfl⟩, (fun y hy => by cases hy), Nat.zero_le _⟩
 ·have hB2 : Rows.uptoBulkAll (elems.map (·.1)) ≤ B := by
   simp only [Rows.uptoBulk] at hB
   omega
  have hlB : len ≤ B := by
   have := bulk_count (elems.map (·.1))
   rw [List.length_map, hlen] at this
   omega
  obtain ⟨f, hf⟩ := Go.Deep.choose_lt (α := α) (p := fun i x => w.cells? 0 (a.add (i * sz)) sz = some (cells x) ∧ ok x) (n := len) (fun i hi => by
   have h1 := hel i hi
   rw [hc, List.getElem?_eq_getElem (by omega)] at h1
   obtain ⟨cs', h2, h3⟩ := Option.bind_eq_some_iff.1 h1
   obtain ⟨y, rfl, hy⟩ := each n cs' elems[i].1 elems[i].2 h3 (Nat.le_trans (bulk_in (List.mem_map.2 ⟨_, List.getElem_mem _, rfl⟩)) hB2)
   exact ⟨y, h2, hy⟩)
  refine ⟨_, (List.range len).map f, rfl, ⟨some a, cap, by simp, (fun h => by cases h), ?_⟩, fun y hy => ?_, by simpa using hlB⟩
  ·by_cases h0 : len = 0
   ·left; simp [h0]
   ·right
    obtain ⟨_, hlc, hcc⟩ := World.cells?_some (hf 0 (by omega)).1
    have h2 := hcc 0 hsz
    rw [List.getElem?_eq_getElem (by omega)] at h2
    have e0 : (a.add (0 * sz)).add 0 = a := by simp [Addr.add]
    rw [e0] at h2
    obtain ⟨b, off, spot⟩ := a
    have h3 : spot = none ∧ b < w.heap.size := by
     unfold World.cell? at h2
     dsimp only at h2
     split at h2
     ·rename_i hh
      refine ⟨?_, hl_ hh⟩
      cases spot with
      | none => rfl
      | some _ => simp at h2
     ·cases h2
    obtain ⟨rfl, h3⟩ := h3
    refine ⟨b, off, rfl, h3, fun i e he j u hj => ?_⟩
    simp only [List.map_map, List.getElem?_map, Option.map_eq_some_iff] at he
    obtain ⟨i', hi', rfl⟩ := he
    have hi2 : i < len ∧ i' = i := by
     by_cases hi : i < len
     ·rw [List.getElem?_range hi] at hi'
      exact ⟨hi, (Option.some.inj hi').symm⟩
     ·rw [List.getElem?_eq_none (by simpa using hi)] at hi'
      cases hi'
    obtain ⟨hi, rfl⟩ := hi2
    obtain ⟨_, hlc, hcc⟩ := World.cells?_some (hf i' hi).1
    have hj2 : j < sz := by
     rw [← hlc]
     exact (List.getElem?_eq_some_iff.1 hj).1
    have h4 := hcc j hj2
    have e1 : ((⟨b, off, none⟩ : Addr).add (i' * sz)).add j = ⟨b, off + i' * sz + j, none⟩ := by
     unfold Addr.add
     by_cases q1 : i' * sz = 0 <;> by_cases q2 : j = 0 <;> simp [q1, q2, Nat.add_assoc]
    rw [e1] at h4
    rw [h4]
    exact hj
  ·obtain ⟨i, hi, rfl⟩ := List.mem_map.1 hy
   exact (hf i (List.mem_range.1 hi)).2
theorem open_part {t : TypeId} {F : Array Field} {B fuel : Nat} {cs : List Value} {x : DataW H × List MemPlace} (hu : P.underlying t = some (.struct F)) (h : DataW.trod enc P w 0 sp held fuel t cs = some x) (hB : Rows.uptoBulk x.1 ≤ B)
  {i off k : Nat} {ty : TypeId} (hf : F[i]?.map (fun f => (f.type, f.offset)) = some (ty, off)) (hk : P.cellsOf ty = k) :
  ∃ n y, DataW.trod enc P w 0 sp held n ty ((cs.drop off).take k) = some y ∧ Rows.uptoBulk y.1 ≤ B := by
 obtain ⟨xs, n, rfl, rfl, hcl, hxl, hx⟩ := DataW.trod_struct hu h
 cases hF : F[i]? with
 | none => simp [hF] at hf
 | some f =>
  have h1 := hx i f hF
  have hi : i < xs.length := by
   rw [hxl]
   exact (Array.getElem?_eq_some_iff.1 hF).1
  rw [List.getElem?_eq_getElem hi] at h1
  rw [hF] at hf
  simp only [Option.map_some, Option.some.injEq, Prod.mk.injEq] at hf
  obtain ⟨rfl, rfl⟩ := hf
  rw [hk] at h1
  have h2 : Rows.uptoBulkAll (xs.map (·.1)) ≤ B := by
   simp only [Rows.uptoBulk] at hB
   omega
  exact ⟨n, _, h1, Nat.le_trans (bulk_in (List.mem_map.2 ⟨_, List.getElem_mem hi, rfl⟩)) h2⟩
theorem open_count {t : TypeId} {F : Array Field} {fuel : Nat} {cs : List Value} {x : DataW H × List MemPlace} (hu : P.underlying t = some (.struct F)) (h : DataW.trod enc P w 0 sp held fuel t cs = some x) : cs.length = P.cellsOf t := by
 obtain ⟨_, _, _, _, h, _⟩ := DataW.trod_struct hu h
 exact h
theorem wf16 {n : Int} (h : (Lit.int .u16 n).wf = true) : 0 ≤ n ∧ n ≤ 65535 := by simpa [Lit.wf, IntKind.min, IntKind.max, IntKind.signed, IntKind.bits] using h
theorem wf32 {n : Int} (h : (Lit.int .u32 n).wf = true) : 0 ≤ n ∧ n ≤ 4294967295 := by simpa [Lit.wf, IntKind.min, IntKind.max, IntKind.signed, IntKind.bits] using h
theorem wf64 {n : Int} (h : (Lit.int .i64 n).wf = true) : -9223372036854775808 ≤ n ∧ n ≤ 9223372036854775807 := by simpa [Lit.wf, IntKind.min, IntKind.max, IntKind.signed, IntKind.bits] using h
theorem open_text {t : TypeId} {B fuel : Nat} {cs : List Value} {x : DataW H × List MemPlace} (hu : P.underlying t = some .string) (h : DataW.trod enc P w 0 sp held fuel t cs = some x) (hB : Rows.uptoBulk x.1 ≤ B) :
  ∃ s : ByteArray, cs = [.string s] ∧ s.size ≤ B := by
 obtain ⟨s, h1, rfl, -⟩ := DataW.trod_string hu h
 refine ⟨s, h1, ?_⟩
 rw [bulk_str, Array.length_toList] at hB
 show s.data.size ≤ B
 omega
end
instance : Inhabited Qn := ⟨⟨⟨#[]⟩, 0, 0⟩⟩
instance : Inhabited Rc := ⟨⟨⟨#[]⟩, 0, 0, 0, ⟨#[]⟩⟩⟩
instance : Inhabited Msg := ⟨⟨0, false, 0, false, false, false, false, 0, [], [], [], []⟩⟩
instance : Inhabited OpV := ⟨⟨0, 0, default, .bool false, .bool false, .bool false, .bool false, ⟨#[]⟩, 0, 0, 0, 0, 0, .bool false, []⟩⟩
theorem uStr : Tryz.prog.underlying 9 = some .string := by kernel_rfl
theorem u16T : Tryz.prog.underlying 26 = some (.int .u16) := by kernel_rfl
theorem u32T : Tryz.prog.underlying 54 = some (.int .u32) := by kernel_rfl
theorem i64T : Tryz.prog.underlying 3 = some (.int .i64) := by kernel_rfl
theorem boolT : Tryz.prog.underlying 4 = some .bool := by kernel_rfl
theorem undM : Tryz.prog.underlying 30 = some (.struct (Tryz.prog.fieldsOf 30)) := by kernel_rfl
theorem undC : Tryz.prog.underlying 57 = some (.struct (Tryz.prog.fieldsOf 57)) := by kernel_rfl
theorem undQs : Tryz.prog.underlying 27 = some (.slice 41) := by kernel_rfl
theorem undRs : Tryz.prog.underlying 28 = some (.slice 69) := by kernel_rfl
theorem und32s : Tryz.prog.underlying 55 = some (.slice 54) := by kernel_rfl
theorem undOs : Tryz.prog.underlying 22 = some (.slice 79) := by kernel_rfl
theorem cQ : Tryz.prog.cellsOf 41 = 3 := by kernel_rfl
theorem cR : Tryz.prog.cellsOf 69 = 5 := by kernel_rfl
theorem kM : Tryz.prog.cellsOf 30 = 12 := by kernel_rfl
theorem cC : Tryz.prog.cellsOf 57 = 5 := by kernel_rfl
theorem cO : Tryz.prog.cellsOf 79 = 21 := by kernel_rfl
theorem cS : Tryz.prog.cellsOf 9 = 1 := by kernel_rfl
theorem c16 : Tryz.prog.cellsOf 26 = 1 := by kernel_rfl
theorem c32 : Tryz.prog.cellsOf 54 = 1 := by kernel_rfl
theorem c64 : Tryz.prog.cellsOf 3 = 1 := by kernel_rfl
theorem cB : Tryz.prog.cellsOf 4 = 1 := by kernel_rfl
theorem cQs : Tryz.prog.cellsOf 27 = 1 := by kernel_rfl
theorem cRs : Tryz.prog.cellsOf 28 = 1 := by kernel_rfl
theorem c32s : Tryz.prog.cellsOf 55 = 1 := by kernel_rfl
section
variable {H : Type} {enc : TypeId × Value → H} {w : World} {sp : Nat → Bool} {held : Bool}
theorem open_q (n : Nat) (cs : List Value) (d : DataW H) (p : List MemPlace) (h : DataW.trod enc Tryz.prog w 0 sp held n 41 cs = some (d, p)) (hB : Rows.uptoBulk d ≤ 1048576) : ∃ x : Qn, cs = x.cells ∧ WfQ x := by
 have hl := open_count undQ h
 rw [cQ] at hl
 match cs, hl with
 | [c0, c1, c2], _ =>
  obtain ⟨_, _, h0, b0⟩ := open_part undQ h hB (i := 0) (off := 0) (ty := 9) (by kernel_rfl) cS
  obtain ⟨_, _, h1, _⟩ := open_part undQ h hB (i := 1) (off := 1) (ty := 26) (by kernel_rfl) c16
  obtain ⟨_, _, h2, _⟩ := open_part undQ h hB (i := 2) (off := 2) (ty := 26) (by kernel_rfl) c16
  obtain ⟨s, e0, hs⟩ := open_text uStr h0 b0
  obtain ⟨k, e1, _, w1⟩ := DataW.trod_int u16T h1
  obtain ⟨c, e2, _, w2⟩ := DataW.trod_int u16T h2
  have w1 := wf16 w1
  have w2 := wf16 w2
  cases e0; cases e1; cases e2
  exact ⟨⟨s, k, c⟩, rfl, ⟨by dsimp only; omega, w1.1, w1.2, w2.1, w2.2⟩⟩
theorem open_r (n : Nat) (cs : List Value) (d : DataW H) (p : List MemPlace) (h : DataW.trod enc Tryz.prog w 0 sp held n 69 cs = some (d, p)) (hB : Rows.uptoBulk d ≤ 1048576) : ∃ x : Rc, cs = x.cells ∧ WfR x := by
 have hl := open_count undR h
 rw [cR] at hl
 match cs, hl with
 | [c0, c1, c2, c3, c4], _ =>
  obtain ⟨_, _, h0, b0⟩ := open_part undR h hB (i := 0) (off := 0) (ty := 9) (by kernel_rfl) cS
  obtain ⟨_, _, h1, _⟩ := open_part undR h hB (i := 1) (off := 1) (ty := 26) (by kernel_rfl) c16
  obtain ⟨_, _, h2, _⟩ := open_part undR h hB (i := 2) (off := 2) (ty := 26) (by kernel_rfl) c16
  obtain ⟨_, _, h3, _⟩ := open_part undR h hB (i := 3) (off := 3) (ty := 54) (by kernel_rfl) c32
  obtain ⟨_, _, h4, b4⟩ := open_part undR h hB (i := 4) (off := 4) (ty := 9) (by kernel_rfl) cS
  obtain ⟨s, e0, hs⟩ := open_text uStr h0 b0
  obtain ⟨k, e1, _, w1⟩ := DataW.trod_int u16T h1
  obtain ⟨c, e2, _, w2⟩ := DataW.trod_int u16T h2
  obtain ⟨t, e3, _, w3⟩ := DataW.trod_int u32T h3
  obtain ⟨dt, e4, hd⟩ := open_text uStr h4 b4
  have w1 := wf16 w1
  have w2 := wf16 w2
  have w3 := wf32 w3
  cases e0; cases e1; cases e2; cases e3; cases e4
  exact ⟨⟨s, k, c, t, dt⟩, rfl, ⟨by dsimp only; omega, by dsimp only; omega, w1.1, w1.2, w2.1, w2.2, w3.1, w3.2⟩⟩
theorem open_32 (n : Nat) (cs : List Value) (d : DataW H) (p : List MemPlace) (h : DataW.trod enc Tryz.prog w 0 sp held n 54 cs = some (d, p)) (_ : Rows.uptoBulk d ≤ 1048576) : ∃ x : Int, cs = [.int .u32 x] ∧ 0 ≤ x ∧ x ≤ 4294967295 := by
 obtain ⟨t, e3, _, w3⟩ := DataW.trod_int u32T h
 exact ⟨t, e3, wf32 w3⟩
theorem open_qs {fuel : Nat} {cs : List Value} {x : DataW H × List MemPlace} (h : DataW.trod enc Tryz.prog w 0 sp held fuel 27 cs = some x) (hB : Rows.uptoBulk x.1 ≤ 1048576) :
  ∃ (v : Value) (xs : List Qn), cs = [v] ∧ Lies w 3 v (xs.map Qn.cells) ∧ (∀ y ∈ xs, WfQ y) ∧ xs.length ≤ 1048576 := open_lies Qn.cells WfQ undQs cQ (by decide) open_q h hB
theorem open_rs {fuel : Nat} {cs : List Value} {x : DataW H × List MemPlace} (h : DataW.trod enc Tryz.prog w 0 sp held fuel 28 cs = some x) (hB : Rows.uptoBulk x.1 ≤ 1048576) :
  ∃ (v : Value) (xs : List Rc), cs = [v] ∧ Lies w 5 v (xs.map Rc.cells) ∧ (∀ y ∈ xs, WfR y) ∧ xs.length ≤ 1048576 := open_lies Rc.cells WfR undRs cR (by decide) open_r h hB
theorem open_32s {fuel : Nat} {cs : List Value} {x : DataW H × List MemPlace} (h : DataW.trod enc Tryz.prog w 0 sp held fuel 55 cs = some x) (hB : Rows.uptoBulk x.1 ≤ 1048576) :
  ∃ (v : Value) (xs : List Int), cs = [v] ∧ Lies w 1 v (xs.map fun x => [.int .u32 x]) ∧ (∀ y ∈ xs, 0 ≤ y ∧ y ≤ 4294967295) ∧ xs.length ≤ 1048576 := open_lies (fun x => [.int .u32 x]) (fun y => 0 ≤ y ∧ y ≤ 4294967295) und32s c32 (by decide) open_32 h hB
theorem open_m {n : Nat} {cs : List Value} {x : DataW H × List MemPlace} (h : DataW.trod enc Tryz.prog w 0 sp held n 30 cs = some x) (hB : Rows.uptoBulk x.1 ≤ 1048576) :
  ∃ (m : Msg) (vq va vu vx : Value), cs = (mc_ m vq va vu vx).toList ∧ WfM m ∧ MsgAt w m vq va vu vx := by
 have hl := open_count undM h
 rw [kM] at hl
 match cs, hl with
 | [c0, c1, c2, c3, c4, c5, c6, c7, c8, c9, c10, c11], _ =>
  obtain ⟨_, _, h0, _⟩ := open_part undM h hB (i := 0) (off := 0) (ty := 26) (by kernel_rfl) c16
  obtain ⟨_, _, h1, _⟩ := open_part undM h hB (i := 1) (off := 1) (ty := 4) (by kernel_rfl) cB
  obtain ⟨_, _, h2, _⟩ := open_part undM h hB (i := 2) (off := 2) (ty := 3) (by kernel_rfl) c64
  obtain ⟨_, _, h3, _⟩ := open_part undM h hB (i := 3) (off := 3) (ty := 4) (by kernel_rfl) cB
  obtain ⟨_, _, h4, _⟩ := open_part undM h hB (i := 4) (off := 4) (ty := 4) (by kernel_rfl) cB
  obtain ⟨_, _, h5, _⟩ := open_part undM h hB (i := 5) (off := 5) (ty := 4) (by kernel_rfl) cB
  obtain ⟨_, _, h6, _⟩ := open_part undM h hB (i := 6) (off := 6) (ty := 4) (by kernel_rfl) cB
  obtain ⟨_, _, h7, _⟩ := open_part undM h hB (i := 7) (off := 7) (ty := 3) (by kernel_rfl) c64
  obtain ⟨_, _, h8, b8⟩ := open_part undM h hB (i := 8) (off := 8) (ty := 27) (by kernel_rfl) cQs
  obtain ⟨_, _, h9, b9⟩ := open_part undM h hB (i := 9) (off := 9) (ty := 28) (by kernel_rfl) cRs
  obtain ⟨_, _, h10, b10⟩ := open_part undM h hB (i := 10) (off := 10) (ty := 28) (by kernel_rfl) cRs
  obtain ⟨_, _, h11, b11⟩ := open_part undM h hB (i := 11) (off := 11) (ty := 28) (by kernel_rfl) cRs
  obtain ⟨id, e0, _, w0⟩ := DataW.trod_int u16T h0
  obtain ⟨r, e1, _⟩ := DataW.trod_bool boolT h1
  obtain ⟨op, e2, _, w2⟩ := DataW.trod_int i64T h2
  obtain ⟨ow, e3, _⟩ := DataW.trod_bool boolT h3
  obtain ⟨ct, e4, _⟩ := DataW.trod_bool boolT h4
  obtain ⟨wa, e5, _⟩ := DataW.trod_bool boolT h5
  obtain ⟨ab, e6, _⟩ := DataW.trod_bool boolT h6
  obtain ⟨cd, e7, _, w7⟩ := DataW.trod_int i64T h7
  obtain ⟨vq, qs, e8, l8, a8, n8⟩ := open_qs h8 b8
  obtain ⟨va, an, e9, l9, a9, n9⟩ := open_rs h9 b9
  obtain ⟨vu, au, e10, l10, a10, n10⟩ := open_rs h10 b10
  obtain ⟨vx, ex, e11, l11, a11, n11⟩ := open_rs h11 b11
  have w0 := wf16 w0
  have w2 := wf64 w2
  have w7 := wf64 w7
  cases e0; cases e1; cases e2; cases e3; cases e4; cases e5; cases e6; cases e7; cases e8; cases e9; cases e10; cases e11
  refine ⟨⟨id, r, op, ow, ct, wa, ab, cd, qs, an, au, ex⟩, _, _, _, _, rfl, ⟨w0.1, w0.2, w2.1, w2.2, w7.1, w7.2, by dsimp only; omega, by dsimp only; omega, by dsimp only; omega, by dsimp only; omega, a8, fun r hr => ?_⟩, ⟨l8, l9, l10, l11⟩⟩
  simp only [recs, List.mem_append] at hr
  rcases hr with (hr | hr) | hr
  ·exact a9 r hr
  ·exact a10 r hr
  ·exact a11 r hr
theorem open_o (n : Nat) (cs : List Value) (d : DataW H) (p : List MemPlace) (h : DataW.trod enc Tryz.prog w 0 sp held n 79 cs = some (d, p)) (hB : Rows.uptoBulk d ≤ 1048576) : ∃ x : OpV, cs = x.cells ∧ OpAt w x := by
 have hl := open_count undO h
 rw [cO] at hl
 match cs, hl with
 | [c0, c1, c2, c3, c4, c5, c6, c7, c8, c9, c10, c11, c12, c13, c14, c15, c16, c17, c18, c19, c20], _ =>
  obtain ⟨_, _, h0, _⟩ := open_part undO h hB (i := 0) (off := 0) (ty := 3) (by kernel_rfl) c64
  obtain ⟨_, _, h1, _⟩ := open_part undO h hB (i := 1) (off := 1) (ty := 3) (by kernel_rfl) c64
  obtain ⟨_, _, h2, b2⟩ := open_part undO h hB (i := 2) (off := 2) (ty := 30) (by kernel_rfl) kM
  obtain ⟨_, _, h3, b3⟩ := open_part undO h hB (i := 3) (off := 14) (ty := 9) (by kernel_rfl) cS
  obtain ⟨_, _, h4, _⟩ := open_part undO h hB (i := 4) (off := 15) (ty := 54) (by kernel_rfl) c32
  obtain ⟨_, _, h5, b5⟩ := open_part undO h hB (i := 5) (off := 16) (ty := 57) (by kernel_rfl) cC
  obtain ⟨_, _, g0, _⟩ := open_part undC h5 b5 (i := 0) (off := 0) (ty := 3) (by kernel_rfl) c64
  obtain ⟨_, _, g1, _⟩ := open_part undC h5 b5 (i := 1) (off := 1) (ty := 3) (by kernel_rfl) c64
  obtain ⟨_, _, g2, _⟩ := open_part undC h5 b5 (i := 2) (off := 2) (ty := 3) (by kernel_rfl) c64
  obtain ⟨_, _, g3, _⟩ := open_part undC h5 b5 (i := 3) (off := 3) (ty := 3) (by kernel_rfl) c64
  obtain ⟨_, _, g4, d4⟩ := open_part undC h5 b5 (i := 4) (off := 4) (ty := 55) (by kernel_rfl) c32s
  obtain ⟨kd, e0, _, w0⟩ := DataW.trod_int i64T h0
  obtain ⟨nn, e1, _, w1⟩ := DataW.trod_int i64T h1
  obtain ⟨m, vq, va, vu, vx, e2, wm, am⟩ := open_m h2 b2
  obtain ⟨s, e3, hs⟩ := open_text uStr h3 b3
  obtain ⟨f, e4, _, w4⟩ := DataW.trod_int u32T h4
  obtain ⟨cb, f0, _, v0⟩ := DataW.trod_int i64T g0
  obtain ⟨cd, f1, _, v1⟩ := DataW.trod_int i64T g1
  obtain ⟨cc, f2, _, v2⟩ := DataW.trod_int i64T g2
  obtain ⟨ct, f3, _, v3⟩ := DataW.trod_int i64T g3
  obtain ⟨vr, rs, f4, lr, ar, nr⟩ := open_32s g4 d4
  have w0 := wf64 w0
  have w1 := wf64 w1
  have w4 := wf32 w4
  have v0 := wf64 v0
  have v1 := wf64 v1
  have v2 := wf64 v2
  have v3 := wf64 v3
  cases e0; cases e1; cases e2; cases e3; cases e4; cases f0; cases f1; cases f2; cases f3; cases f4
  exact ⟨⟨kd, nn, m, _, _, _, _, s, f, cb, cd, cc, ct, _, rs⟩, rfl,
   { k0 := w0.1, k1 := w0.2, n0 := w1.1, n1 := w1.2, wf := wm, msg := am, s := by dsimp only; omega, f0 := w4.1, f1 := w4.2, r := lr, rn := by dsimp only; omega, b0 := v0.1, b1 := v0.2, d0 := v1.1, d1 := v1.2, c0 := v2.1, c1 := v2.2, t0 := v3.1, t1 := v3.2, rs := ar }⟩
theorem open_script {a : Option Addr} {n c : Nat} {d : DataW H} {p : List MemPlace} (h : DataW.Trod enc Tryz.prog w 0 sp held 22 (.slice a n c) d p) (hB : Rows.uptoBulk d ≤ 1048576) :
  ∃ os : List OpV, Lies w 21 (.slice a n c) (os.map OpV.cells) ∧ (∀ o ∈ os, OpAt w o) ∧ os.length ≤ 1048576 := by
 obtain ⟨fuel, h⟩ := h
 obtain ⟨v', os, e, h1, h2, h3⟩ := open_lies OpV.cells (OpAt w) undOs cO (by decide) open_o h hB
 cases e
 exact ⟨os, h1, h2, h3⟩
end
end Go.Proofs.YtafoepfhepdcoaaGreat
