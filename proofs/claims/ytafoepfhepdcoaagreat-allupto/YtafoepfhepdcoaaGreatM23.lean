import Derived.Test.YtafoepfhepdcoaaGreatM22
import Derived.Test.YtafoepfhepdcoaaGreatM17
set_option maxRecDepth 100000
set_option maxHeartbeats 8000000
namespace Go.Proofs.YtafoepfhepdcoaaGreat
open Go.RowKit Go.Trawl
theorem buildIn (s : ByteArray) (W : World) : (Instr.build 203 #[(0, .string s)]).run Tryz.prog W = .ok (.agg #[.string s, .int .i64 0, .bool false]) W := run_build W _ _ _ (by kernel_rfl)
theorem buildM8 (i o d : Int) (r w' c' w2 ab : Bool) (W : World) : (Instr.build 30 #[(0, .int .u16 i), (1, .bool r), (2, .int .i64 o), (3, .bool w'), (4, .bool c'), (5, .bool w2), (6, .bool ab), (7, .int .i64 d)]).run Tryz.prog W = .ok (.agg #[.int .u16 i, .bool r, .int .i64 o, .bool w', .bool c', .bool w2, .bool ab, .int .i64 d, .slice none 0 0, .slice none 0 0, .slice none 0 0, .slice none 0 0]) W := run_build W _ _ _ (by kernel_rfl)
attribute [local go_sem] buildM0 buildIn buildM8
theorem qcells_len (l : List Qn) : ∀ x ∈ l.map Qn.cells, x.length = 3 := by
 intro x hx
 obtain ⟨q, _, rfl⟩ := List.mem_map.1 hx
 rfl
theorem rcells_len (l : List Rc) : ∀ x ∈ l.map Rc.cells, x.length = 5 := by
 intro x hx
 obtain ⟨q, _, rfl⟩ := List.mem_map.1 hx
 rfl
theorem own_not {v : Value} {r : Nat} (h : ¬ v.ownBlock = some r) : v.ownBlock = none ∨ v.ownBlock ≠ some r := .inr h
structure UR (w W : World) (M : Nat) (s : ByteArray) (a : Nat) (bad : Bool) (m : Msg) (vq va vu vx : Value) : Prop where
 res : W.heap[w.heap.size]? = some (.cells zM0 30)
 non : W.heap[w.heap.size + 1]? = some (.cells zM0 30)
 rd : In W (w.heap.size + 1 + 1) s a bad
 lt : w.heap.size + 1 + 1 < M
 box : W.heap[M]? = some (.cells (mc_ m vq va vu vx) 30)
 below : Below w.heap.size w W
theorem UR.move {w W W' : World} {M : Nat} {s : ByteArray} {a a' : Nat} {bad bad' : Bool} {m : Msg} {vq va vu vx : Value} (h : UR w W M s a bad m vq va vu vx) (hw : W.grownBy W' (some (w.heap.size + 1 + 1))) (hr : In W' (w.heap.size + 1 + 1) s a' bad') : UR w W' M s a' bad' m vq va vu vx := by
 have hl := h.lt
 exact ⟨(hw.block _ (hl_ h.res) (fun e => by have := Option.some.inj e; omega)).trans h.res, (hw.block _ (hl_ h.non) (fun e => by have := Option.some.inj e; omega)).trans h.non, hr, hl, (hw.block _ (hl_ h.box) (fun e => by have := Option.some.inj e; omega)).trans h.box, bg_ h.below (by omega) hw⟩
theorem UR.grow {w W W' : World} {M : Nat} {s : ByteArray} {a : Nat} {bad : Bool} {m : Msg} {vq va vu vx : Value} (h : UR w W M s a bad m vq va vu vx) {row : Option Nat} (hw : W.grownBy W' row) (hr : ∀ g, row = some g → M < g) : UR w W' M s a bad m vq va vu vx := by
 have hl := h.lt
 have ne : ∀ k, k ≤ M → some k ≠ row := fun k hk e => by have := hr k e.symm; omega
 refine ⟨(hw.block _ (hl_ h.res) (ne _ (by omega))).trans h.res, (hw.block _ (hl_ h.non) (ne _ (by omega))).trans h.non, h.rd.grow hw (Ne.symm (ne _ (by omega))), hl, (hw.block _ (hl_ h.box) (ne _ (Nat.le_refl _))).trans h.box, ?_⟩
 exact h.below.trans ⟨hw.os, hw.tape, hw.output, hw.size, fun k hk => hw.block k (Nat.lt_of_lt_of_le hk h.below.size) (ne _ (by omega))⟩
theorem UR.set {w W : World} {M : Nat} {s : ByteArray} {a : Nat} {bad : Bool} {m m' : Msg} {vq va vu vx vq' va' vu' vx' : Value} (h : UR w W M s a bad m vq va vu vx) (j : Nat) (u : Value) (he : (mc_ m vq va vu vx).setIfInBounds j u = mc_ m' vq' va' vu' vx') : UR w (W.setCell ⟨M, j, none⟩ u) M s a bad m' vq' va' vu' vx' := by
 have hl := h.lt
 have hw := gs_ W M j u
 exact ⟨(hw.block _ (hl_ h.res) (fun e => by have := Option.some.inj e; omega)).trans h.res, (hw.block _ (hl_ h.non) (fun e => by have := Option.some.inj e; omega)).trans h.non, h.rd.grow hw (fun e => by have := Option.some.inj e; omega), hl, by rw [hs_ h.box, he], bg_ h.below (by omega) hw⟩
def New4 (w w' : World) (vq va vu vx : Value) : Prop := ∀ k, (vq.ownBlock = some k ∨ va.ownBlock = some k ∨ vu.ownBlock = some k ∨ vx.ownBlock = some k) → w.heap.size ≤ k ∧ k < w'.heap.size
theorem rUnpack_any (w : World) (s : ByteArray) (hsm : s.size ≤ 2097152) :
  Calls Tryz.prog 84 #[.string s] w fun e w' => Hid (Below w.heap.size w w' ∧
   (unpack s = none → e = .returned (.tuple #[.agg zM0, .int .i64 1])) ∧ ∀ m, unpack s = some m → ∃ vq va vu vx, e = .returned (.tuple #[.agg (mc_ m vq va vu vx), .int .i64 0]) ∧ MsgAt w' m vq va vu vx ∧ New4 w w' vq va vu vx) := by
 obtain ⟨i0, hi, hz0, hz1, hz2⟩ := info_parts qI0
 by_cases hs : s.size ≤ 512
 ·go_enter Tryz.func84, Tryz.ntmps84
  go_wp2_with fail
  have hB0 : Below w.heap.size w (((w.alloc (Obj.cells #[.int .u16 0, .bool false, .int .i64 0, .bool false, .bool false, .bool false, .bool false, .int .i64 0, .slice none 0 0, .slice none 0 0, .slice none 0 0, .slice none 0 0] 30)).alloc (Obj.cells #[.int .u16 0, .bool false, .int .i64 0, .bool false, .bool false, .bool false, .bool false, .int .i64 0, .slice none 0 0, .slice none 0 0, .slice none 0 0, .slice none 0 0] 30)).alloc (Obj.cells #[.string s, .int .i64 0, .bool false] 203)) := (((Below.refl _ _).alloc (Nat.le_refl _) _).alloc (by rw [as_]; omega) _).alloc (by rw [as_, as_]; omega) _
  have HZ0 : Hid ((((w.alloc (Obj.cells #[.int .u16 0, .bool false, .int .i64 0, .bool false, .bool false, .bool false, .bool false, .int .i64 0, .slice none 0 0, .slice none 0 0, .slice none 0 0, .slice none 0 0] 30)).alloc (Obj.cells #[.int .u16 0, .bool false, .int .i64 0, .bool false, .bool false, .bool false, .bool false, .int .i64 0, .slice none 0 0, .slice none 0 0, .slice none 0 0, .slice none 0 0] 30)).alloc (Obj.cells #[.string s, .int .i64 0, .bool false] 203)).heap[w.heap.size]? = some (.cells zM0 30)) := heap_old (heap_old (hn_ _ _) _) _
  have HZ1 : Hid ((((w.alloc (Obj.cells #[.int .u16 0, .bool false, .int .i64 0, .bool false, .bool false, .bool false, .bool false, .int .i64 0, .slice none 0 0, .slice none 0 0, .slice none 0 0, .slice none 0 0] 30)).alloc (Obj.cells #[.int .u16 0, .bool false, .int .i64 0, .bool false, .bool false, .bool false, .bool false, .int .i64 0, .slice none 0 0, .slice none 0 0, .slice none 0 0, .slice none 0 0] 30)).alloc (Obj.cells #[.string s, .int .i64 0, .bool false] 203)).heap[w.heap.size + 1]? = some (.cells zM0 30)) := by
   have := hn_ (w.alloc (Obj.cells #[.int .u16 0, .bool false, .int .i64 0, .bool false, .bool false, .bool false, .bool false, .int .i64 0, .slice none 0 0, .slice none 0 0, .slice none 0 0, .slice none 0 0] 30)) (Obj.cells #[.int .u16 0, .bool false, .int .i64 0, .bool false, .bool false, .bool false, .bool false, .int .i64 0, .slice none 0 0, .slice none 0 0, .slice none 0 0, .slice none 0 0] 30)
   rw [as_] at this
   exact heap_old this _
  have HR0 : Hid (In (((w.alloc (Obj.cells #[.int .u16 0, .bool false, .int .i64 0, .bool false, .bool false, .bool false, .bool false, .int .i64 0, .slice none 0 0, .slice none 0 0, .slice none 0 0, .slice none 0 0] 30)).alloc (Obj.cells #[.int .u16 0, .bool false, .int .i64 0, .bool false, .bool false, .bool false, .bool false, .int .i64 0, .slice none 0 0, .slice none 0 0, .slice none 0 0, .slice none 0 0] 30)).alloc (Obj.cells #[.string s, .int .i64 0, .bool false] 203)) (w.heap.size + 1 + 1) s 0 false) := by
   refine ⟨?_, Nat.zero_le _, hs⟩
   have := hn_ ((w.alloc (Obj.cells #[.int .u16 0, .bool false, .int .i64 0, .bool false, .bool false, .bool false, .bool false, .int .i64 0, .slice none 0 0, .slice none 0 0, .slice none 0 0, .slice none 0 0] 30)).alloc (Obj.cells #[.int .u16 0, .bool false, .int .i64 0, .bool false, .bool false, .bool false, .bool false, .int .i64 0, .slice none 0 0, .slice none 0 0, .slice none 0 0, .slice none 0 0] 30)) (Obj.cells #[.string s, .int .i64 0, .bool false] 203)
   rw [as_, as_] at this
   exact this
  have HB0 := hide hB0
  clear hB0
  generalize (((w.alloc (Obj.cells #[.int .u16 0, .bool false, .int .i64 0, .bool false, .bool false, .bool false, .bool false, .int .i64 0, .slice none 0 0, .slice none 0 0, .slice none 0 0, .slice none 0 0] 30)).alloc (Obj.cells #[.int .u16 0, .bool false, .int .i64 0, .bool false, .bool false, .bool false, .bool false, .int .i64 0, .slice none 0 0, .slice none 0 0, .slice none 0 0, .slice none 0 0] 30)).alloc (Obj.cells #[.string s, .int .i64 0, .bool false] 203)) = W0 at HB0 HZ0 HZ1 HR0 ⊢
  refine (num2I W0 (w.heap.size + 1 + 1) s 0 false HR0.out).mono ?_
  rintro e w1 ⟨id, rfl, hx1, H1⟩
  obtain ⟨a1, bad1, R1, G1, Ra1⟩ := H1.out
  have HA1 := hide Ra1
  have HR1 := hide R1
  have HZ01 := hide ((G1.block _ (hl_ HZ0.out) (fun e => by have := Option.some.inj e; omega)).trans HZ0.out)
  have HZ11 := hide ((G1.block _ (hl_ HZ1.out) (fun e => by have := Option.some.inj e; omega)).trans HZ1.out)
  have HB1 := hide (bg_ HB0.out (by omega) G1)
  clear H1 R1 G1 Ra1
  go_wp2_with fail
  refine (num2I w1 (w.heap.size + 1 + 1) s a1 bad1 HR1.out).mono ?_
  rintro e w2 ⟨f, rfl, hx2, H2⟩
  obtain ⟨a2, bad2, R2, G2, Ra2⟩ := H2.out
  have HA2 := hide Ra2
  have HR2 := hide R2
  have hw2 : w.heap.size + 1 + 1 < w2.heap.size := hl_ R2.box
  have HZ02 := hide ((G2.block _ (hl_ HZ01.out) (fun e => by have := Option.some.inj e; omega)).trans HZ01.out)
  have HZ12 := hide ((G2.block _ (hl_ HZ11.out) (fun e => by have := Option.some.inj e; omega)).trans HZ11.out)
  have HB2 := hide (bg_ HB1.out (by omega) G2)
  clear H2 R2 G2 Ra2
  go_wp2_with fail
  have hbq : ∀ x : Int, (x == 1) = decide (x = 1) := fun x => by by_cases h : x = 1 <;> simp [h]
  simp only [hbq]
  generalize hM : w2.heap.size = M at hw2 ⊢
  generalize hW2 : w2.alloc _ = W2
  have HU2 : Hid (UR w W2 M s a2 bad2 (flagged id f [] [] [] []) (.slice none 0 0) (.slice none 0 0) (.slice none 0 0) (.slice none 0 0)) := by
   subst hM
   rw [← hW2]
   exact ⟨heap_old HZ02.out _, heap_old HZ12.out _, HR2.out.new (Nat.le_refl _) ((Below.refl _ _).alloc (Nat.le_refl _) _), hw2, hn_ _ _, HB2.out.alloc HB2.out.size _⟩
  clear hW2 hM hbq
  refine (num2I W2 (w.heap.size + 1 + 1) s a2 bad2 HU2.out.rd).mono ?_
  rintro e w4 ⟨nq, rfl, hx4, H4⟩
  obtain ⟨a4, bad4, R4, G4, Ra4⟩ := H4.out
  have HA4 := hide Ra4
  have HU4 := hide (HU2.out.move G4 R4)
  clear H4 R4 G4 Ra4
  go_wp2_with fail
  refine (num2I w4 (w.heap.size + 1 + 1) s a4 bad4 HU4.out.rd).mono ?_
  rintro e w5 ⟨na, rfl, hx5, H5⟩
  obtain ⟨a5, bad5, R5, G5, Ra5⟩ := H5.out
  have HA5 := hide Ra5
  have HU5 := hide (HU4.out.move G5 R5)
  clear H5 R5 G5 Ra5
  go_wp2_with fail
  refine (num2I w5 (w.heap.size + 1 + 1) s a5 bad5 HU5.out.rd).mono ?_
  rintro e w6 ⟨nu, rfl, hx6, H6⟩
  obtain ⟨a6, bad6, R6, G6, Ra6⟩ := H6.out
  have HA6 := hide Ra6
  have HU6 := hide (HU5.out.move G6 R6)
  clear H6 R6 G6 Ra6
  go_wp2_with fail
  refine (num2I w6 (w.heap.size + 1 + 1) s a6 bad6 HU6.out.rd).mono ?_
  rintro e w7 ⟨nx, rfl, hx7, H7⟩
  obtain ⟨a7, bad7, R7, G7, Ra7⟩ := H7.out
  have HA7 := hide Ra7
  have HU7 := hide (HU6.out.move G7 R7)
  clear H7 R7 G7 Ra7
  go_wp2_with fail
  have hz7 : M < w7.heap.size := hl_ HU7.out.box
  go_loopw [13] (fun i wr => ∃ (k ar : Nat) (br : Bool) (qs : List Qn) (al : Option Addr) (cl : Nat), i = .int .i64 k ∧ k ≤ nq ∧ qs.length ≤ k ∧ w7.heap.size ≤ wr.heap.size ∧ Hid (UR w wr M s ar br (flagged id f [] [] [] []) (.slice al qs.length cl) (.slice none 0 0) (.slice none 0 0) (.slice none 0 0)) ∧ Hid (wr.ownsRow 0 41 3 (.slice al qs.length cl) qs.length ((qs.map Qn.cells).flatten)) ∧ Hid (∀ g, (Value.slice al qs.length cl).ownBlock = some g → w7.heap.size ≤ g) ∧ Hid (Ran ((pQ s).many k) (stOf a7 bad7) qs (stOf ar br))) (fun i _ => nq - (intOf i).toNat)
  case atStart => exact ⟨0, a7, bad7, [], none, 0, rfl, Nat.zero_le _, by simp, Nat.le_refl _, HU7.out, World.ownsRow_nil _ _ _ _, (fun g hg => by cases hg), Ran.pure _ _⟩
  case round =>
   obtain ⟨k, ar, br, qs, al, cl, rfl, hk, hql, hwz, HU, HO, HNW, HA⟩ := hrel
   have hcr := HU.out.rd.cell
   by_cases hlt : k < nq
   ·have HLT := hide hlt
    cases br
    ·have HLO := hide (fun g hg => (HO.out.lt g hg).2)
     have hY : M < wr.heap.size := by omega
     have HU8 := hide (HU.out.grow (row := none) (W' := wr.alloc (Obj.cells #[.string ⟨#[]⟩, .int .u16 0, .int .u16 0] 41)) (grownBy_below ((Below.refl _ _).alloc (Nat.le_refl _) _) none) (fun g hg => by cases hg))
     have HO8 := hide (HO.out.alloc (Obj.cells #[.string ⟨#[]⟩, .int .u16 0, .int .u16 0] 41))
     have HY8 := hide (hn_ wr (Obj.cells #[.string ⟨#[]⟩, .int .u16 0, .int .u16 0] 41))
     go_wp2_with fail
     clear hcr
     generalize wr.alloc (Obj.cells #[.string ⟨#[]⟩, .int .u16 0, .int .u16 0] 41) = W8 at HU8 HO8 HY8 ⊢
     refine (nameI W8 (w.heap.size + 1 + 1) s ar false HU8.out.rd).mono ?_
     rintro e w9 ⟨x, rfl, H9⟩
     obtain ⟨hxs, a9, bad9, R9, G9, Ra9⟩ := H9.out
     have HA9 := hide Ra9
     have HU9 := hide (HU8.out.move G9 R9)
     have HO9 := hide (HO8.out.kept G9 (own_apart (w := w7) HNW.out (by have := HU.out.lt; omega)))
     have HY9 := hide ((G9.block _ (hl_ HY8.out) (fun e => by have := Option.some.inj e; have := HU.out.lt; omega)).trans HY8.out)
     clear H9 R9 G9 Ra9
     have hcy := bc_ HY9.out
     have hfy := fz_ HY9.out
     have HU9b := hide (HU9.out.grow (gs_ w9 wr.heap.size 0 (.string x)) (fun g hg => by have := Option.some.inj hg; omega))
     have HO9b := hide (HO9.out.kept (gs_ w9 wr.heap.size 0 (.string x)) (own_not (fun hg => Nat.lt_irrefl _ (HLO.out _ hg))))
     have HY9b := hide ((hs_ (j := 0) HY9.out (.string x)).trans (rfl : _ = some (Obj.cells #[.string x, .int .u16 0, .int .u16 0] 41)))
     go_wp2_with fail
     clear hcy hfy
     generalize w9.setCell ⟨wr.heap.size, 0, none⟩ (.string x) = W9 at HU9b HO9b HY9b ⊢
     refine (num2I W9 (w.heap.size + 1 + 1) s a9 bad9 HU9b.out.rd).mono ?_
     rintro e w10 ⟨t, rfl, htt, H10⟩
     obtain ⟨a10, bad10, R10, G10, Ra10⟩ := H10.out
     have HA10 := hide Ra10
     have HU10 := hide (HU9b.out.move G10 R10)
     have HO10 := hide (HO9b.out.kept G10 (own_apart (w := w7) HNW.out (by have := HU.out.lt; omega)))
     have HY10 := hide ((G10.block _ (hl_ HY9b.out) (fun e => by have := Option.some.inj e; have := HU.out.lt; omega)).trans HY9b.out)
     clear H10 R10 G10 Ra10
     go_wp2_with fail
     refine (num2I w10 (w.heap.size + 1 + 1) s a10 bad10 HU10.out.rd).mono ?_
     rintro e w11 ⟨ct, rfl, hct, H11⟩
     obtain ⟨a11, bad11, R11, G11, Ra11⟩ := H11.out
     have HA11 := hide Ra11
     have HU11 := hide (HU10.out.move G11 R11)
     have HO11 := hide (HO10.out.kept G11 (own_apart (w := w7) HNW.out (by have := HU.out.lt; omega)))
     have HY11 := hide ((G11.block _ (hl_ HY10.out) (fun e => by have := Option.some.inj e; have := HU.out.lt; omega)).trans HY10.out)
     clear H11 R11 G11 Ra11
     have hcy := bc_ HY11.out
     have hfy := fz_ HY11.out
     have hM11 : M < w11.heap.size := hl_ HU11.out.box
     have HU11b := hide ((HU11.out.grow (gs_ w11 wr.heap.size 1 (.int .u16 t)) (fun g hg => by have := Option.some.inj hg; omega)).grow (gs_ _ wr.heap.size 2 (.int .u16 ct)) (fun g hg => by have := Option.some.inj hg; omega))
     have HO11b := hide ((HO11.out.kept (gs_ w11 wr.heap.size 1 (.int .u16 t)) (own_not (fun hg => Nat.lt_irrefl _ (HLO.out _ hg)))).kept (gs_ _ wr.heap.size 2 (.int .u16 ct)) (own_not (fun hg => Nat.lt_irrefl _ (HLO.out _ hg))))
     have HY11b := hide ((hs_ (j := 2) ((hs_ (j := 1) HY11.out (.int .u16 t)).trans (rfl : _ = some (Obj.cells #[.string x, .int .u16 t, .int .u16 0] 41))) (.int .u16 ct)).trans (rfl : _ = some (Obj.cells #[.string x, .int .u16 t, .int .u16 ct] 41)))
     have hsz : ((w11.setCell ⟨wr.heap.size, 1, none⟩ (.int .u16 t)).setCell ⟨wr.heap.size, 2, none⟩ (.int .u16 ct)).heap.size = w11.heap.size := by simp [World.setCell]
     have HCN := hide (cells_new ((w11.setCell ⟨wr.heap.size, 1, none⟩ (.int .u16 t)).setCell ⟨wr.heap.size, 2, none⟩ (.int .u16 ct)) #[.string x, .int .u16 t, .int .u16 ct] 41)
     rw [hsz] at HCN
     have hcM := bc_ HU11b.out.box
     have hcY := bc_ HY11b.out
     simp only [mc_] at hcM
     go_wp2_with (at_builtin; refine wpList_append_grew _ rfl _ _ 27 rfl 41 i0 _ 3 24 uQs hi hz0 hz1 hz2 rfl (by decide) (.slice al qs.length cl) qs.length ((qs.map Qn.cells).flatten) rfl ⟨w11.heap.size, 0, none⟩ 1 1 [.string x, .int .u16 t, .int .u16 ct] rfl rfl one_q3 (HO11b.out.alloc _) HCN.out (by unfold maxLen; omega) (by omega) ?_; intro v5 w12 g12; obtain ⟨a12, c12, rfl⟩ := os_ g12.own; have HG12 := hide g12; have HU12 := hide ((HU11b.out.grow (row := none) (grownBy_below ((Below.refl _ _).alloc (Nat.le_refl _) _) none) (fun g hg => by cases hg)).grow g12.grown (fun g hg => by have := HNW.out g hg; omega)); have hcM2 := bc_ HU12.out.box; have hfM2 := fz_ HU12.out.box; simp only [mc_] at hcM2; clear g12)
     have hlen : (qs ++ [(⟨x, t, ct⟩ : Qn)]).length = qs.length + 1 := by simp
     have hW12 := HG12.out.grown.size
     rw [as_, hsz] at hW12
     have hw11 : wr.heap.size < w11.heap.size := hl_ HY11.out
     have hnew := row_new (w := w7) HNW.out HG12.out (by rw [as_, hsz]; omega)
     refine ⟨⟨k + 1, a11, bad11, qs ++ [⟨x, t, ct⟩], a12, c12, by go_num, by omega, by rw [hlen]; omega, ?_, ?_, ?_, ?_, ?_⟩, by simp [intOf]; omega⟩
     ·have : (w12.setCell ⟨M, 8, none⟩ (.slice a12 (qs.length + 1) c12)).heap.size = w12.heap.size := by simp [World.setCell]
      omega
     ·rw [hlen]
      exact HU12.out.set 8 (.slice a12 (qs.length + 1) c12) rfl
     ·rw [hlen]
      have e2 : ((qs ++ [(⟨x, t, ct⟩ : Qn)]).map Qn.cells).flatten = (qs.map Qn.cells).flatten ++ [.string x, .int .u16 t, .int .u16 ct] := by simp [Qn.cells]
      rw [e2]
      exact HG12.out.own.kept (gs_ w12 M 8 _) (own_apart (w := w7) hnew hz7)
     ·rw [hlen]
      exact hnew
     ·exact HA.out.more (HA9.out.bind (HA10.out.bind (HA11.out.bind (Ran.pure _ _))))
    ·have HAQ : Hid (Ran ((pQ s).many nq) (stOf a7 bad7) qs (stOf ar true)) := HA.out.stop (by omega) _
     have HQR := hide (RowW.of HO.out HNW.out)
     have hlM := HU.out.lt
     go_wp2_with fail
     clear hcr
     have hz130 : M < wr.heap.size := hl_ HU.out.box
     refine (recordsI wr (w.heap.size + 1 + 1) s ar true na (by omega) HU.out.rd).mono ?_
     rintro e w13 ⟨l13, al13, cl13, rfl, H13⟩
     obtain ⟨⟨a13, bad13, R13, G13, Ra13⟩, ow13, nw13, wf13, ln13⟩ := H13.out
     have hz13 : wr.heap.size ≤ w13.heap.size := G13.size
     have HA13 := hide Ra13
     have HU13 := hide (HU.out.move G13 R13)
     have HN13 := hide (RowW.of ow13 nw13)
     have HQRa13 := hide (HQR.out.grow G13 (.inl (by omega)))
     have hcM := bc_ HU13.out.box
     have hfM := fz_ HU13.out.box
     simp only [mc_] at hcM
     have HUb13 := hide (HU13.out.set 9 (.slice al13 l13.length cl13) (m' := flagged id f [] [] [] []) (vq' := .slice al qs.length cl) (va' := .slice al13 l13.length cl13) (vu' := .slice none 0 0) (vx' := .slice none 0 0) rfl)
     have HNb13 := hide (HN13.out.grow (gs_ w13 M 9 (.slice al13 l13.length cl13)) (.inl (by omega)))
     have HQRb13 := hide (HQRa13.out.grow (gs_ w13 M 9 (.slice al13 l13.length cl13)) (.inl (by omega)))
     have hzs13 : (w13.setCell ⟨M, 9, none⟩ (.slice al13 l13.length cl13)).heap.size = w13.heap.size := by simp [World.setCell]
     clear H13 R13 G13 Ra13 ow13 nw13 wf13 HN13 HU13 HQR HQRa13
     go_wp2_with fail
     clear hcM hfM
     generalize w13.setCell ⟨M, 9, none⟩ (.slice al13 l13.length cl13) = W13 at HUb13 HNb13 hzs13 HQRb13 ⊢
     have hz140 : M < W13.heap.size := hl_ HUb13.out.box
     refine (recordsI W13 (w.heap.size + 1 + 1) s a13 bad13 nu (by omega) HUb13.out.rd).mono ?_
     rintro e w14 ⟨l14, al14, cl14, rfl, H14⟩
     obtain ⟨⟨a14, bad14, R14, G14, Ra14⟩, ow14, nw14, wf14, ln14⟩ := H14.out
     have hz14 : W13.heap.size ≤ w14.heap.size := G14.size
     have HA14 := hide Ra14
     have HU14 := hide (HUb13.out.move G14 R14)
     have HN14 := hide (RowW.of ow14 nw14)
     have HNb13a14 := hide (HNb13.out.grow G14 (.inl (by omega)))
     have HQRb13a14 := hide (HQRb13.out.grow G14 (.inl (by omega)))
     have hcM := bc_ HU14.out.box
     have hfM := fz_ HU14.out.box
     simp only [mc_] at hcM
     have HUb14 := hide (HU14.out.set 10 (.slice al14 l14.length cl14) (m' := flagged id f [] [] [] []) (vq' := .slice al qs.length cl) (va' := .slice al13 l13.length cl13) (vu' := .slice al14 l14.length cl14) (vx' := .slice none 0 0) rfl)
     have HNb14 := hide (HN14.out.grow (gs_ w14 M 10 (.slice al14 l14.length cl14)) (.inl (by omega)))
     have HNb13b14 := hide (HNb13a14.out.grow (gs_ w14 M 10 (.slice al14 l14.length cl14)) (.inl (by omega)))
     have HQRb13b14 := hide (HQRb13a14.out.grow (gs_ w14 M 10 (.slice al14 l14.length cl14)) (.inl (by omega)))
     have hzs14 : (w14.setCell ⟨M, 10, none⟩ (.slice al14 l14.length cl14)).heap.size = w14.heap.size := by simp [World.setCell]
     clear H14 R14 G14 Ra14 ow14 nw14 wf14 HN14 HU14 HNb13 HNb13a14 HQRb13 HQRb13a14
     go_wp2_with fail
     clear hcM hfM
     generalize w14.setCell ⟨M, 10, none⟩ (.slice al14 l14.length cl14) = W14 at HUb14 HNb14 hzs14 HNb13b14 HQRb13b14 ⊢
     have hz150 : M < W14.heap.size := hl_ HUb14.out.box
     refine (recordsI W14 (w.heap.size + 1 + 1) s a14 bad14 nx (by omega) HUb14.out.rd).mono ?_
     rintro e w15 ⟨l15, al15, cl15, rfl, H15⟩
     obtain ⟨⟨a15, bad15, R15, G15, Ra15⟩, ow15, nw15, wf15, ln15⟩ := H15.out
     have hz15 : W14.heap.size ≤ w15.heap.size := G15.size
     have HA15 := hide Ra15
     have HU15 := hide (HUb14.out.move G15 R15)
     have HN15 := hide (RowW.of ow15 nw15)
     have HNb14a15 := hide (HNb14.out.grow G15 (.inl (by omega)))
     have HNb13b14a15 := hide (HNb13b14.out.grow G15 (.inl (by omega)))
     have HQRb13b14a15 := hide (HQRb13b14.out.grow G15 (.inl (by omega)))
     have hcM := bc_ HU15.out.box
     have hfM := fz_ HU15.out.box
     simp only [mc_] at hcM
     have HUb15 := hide (HU15.out.set 11 (.slice al15 l15.length cl15) (m' := flagged id f [] [] [] []) (vq' := .slice al qs.length cl) (va' := .slice al13 l13.length cl13) (vu' := .slice al14 l14.length cl14) (vx' := .slice al15 l15.length cl15) rfl)
     have HNb15 := hide (HN15.out.grow (gs_ w15 M 11 (.slice al15 l15.length cl15)) (.inl (by omega)))
     have HNb14b15 := hide (HNb14a15.out.grow (gs_ w15 M 11 (.slice al15 l15.length cl15)) (.inl (by omega)))
     have HNb13b14b15 := hide (HNb13b14a15.out.grow (gs_ w15 M 11 (.slice al15 l15.length cl15)) (.inl (by omega)))
     have HQRb13b14b15 := hide (HQRb13b14a15.out.grow (gs_ w15 M 11 (.slice al15 l15.length cl15)) (.inl (by omega)))
     have hzs15 : (w15.setCell ⟨M, 11, none⟩ (.slice al15 l15.length cl15)).heap.size = w15.heap.size := by simp [World.setCell]
     clear H15 R15 G15 Ra15 ow15 nw15 wf15 HN15 HU15 HNb14 HNb14a15 HNb13b14 HNb13b14a15 HQRb13b14 HQRb13b14a15
     have HRAN : Hid (Ran (pM s) (some 0) (flagged id f qs l13 l14 l15) (stOf a15 bad15)) := HA1.out.bind (HA2.out.bind (HA4.out.bind (HA5.out.bind (HA6.out.bind (HA7.out.bind (HAQ.out.bind (HA13.out.bind (HA14.out.bind (HA15.out.bind (Ran.pure _ _))))))))))
     have hcr := HUb15.out.rd.cell
     have hcz := bc_ HUb15.out.res
     have hfz := fz_ HUb15.out.res
     have hcn := bc_ HUb15.out.non
     simp only [zM0] at hcz hcn
     have ha15 := HUb15.out.rd.le
     have hbd : bad15 = true ∨ bad15 = false := by cases bad15 <;> simp
     rcases hbd with rfl | rfl
     ·have HNO : Hid (unpack s = none) := unpack_bad hs HRAN.out (.inl rfl)
      go_wp2_with fail
      clear hcM hfM hcr hcz hfz hcn
      generalize w15.setCell ⟨M, 11, none⟩ (.slice al15 l15.length cl15) = W15 at HUb15 ⊢
      refine bodyPost_ret (rr_ rfl _ _ w.heap.size _ _ _ _ rfl (put12_box (.int .u16 0) (.bool false) (.int .i64 0) (.bool false) (.bool false) (.bool false) (.bool false) (.int .i64 0) (.slice none 0 0) (.slice none 0 0) (.slice none 0 0) (.slice none 0 0) HUb15.out.res) undMsg rfl (by kernel_rfl)) rfl ?_
      exact ⟨bg_ HUb15.out.below (Nat.le_refl _) (put12_grown W15 w.heap.size (.int .u16 0) (.bool false) (.int .i64 0) (.bool false) (.bool false) (.bool false) (.bool false) (.int .i64 0) (.slice none 0 0) (.slice none 0 0) (.slice none 0 0) (.slice none 0 0)), fun _ => rfl, fun m hm => by rw [HNO.out] at hm; cases hm⟩
     ·by_cases hae : a15 = s.size
      ·subst hae
       have HY : Hid (unpack s = some (flagged id f qs l13 l14 l15)) := unpack_good hs HRAN.out
       have hcM2 := bc_ HUb15.out.box
       simp only [mc_, flagged] at hcM2
       go_wp2_with fail
       clear hcM hfM hcr hcz hfz hcn hcM2
       generalize hW15 : w15.setCell ⟨M, 11, none⟩ (.slice al15 l15.length cl15) = W15
       rw [hW15] at HUb15 hzs15 HNb15 HNb14b15 HNb13b14b15 HQRb13b14b15
       clear hW15
       refine bodyPost_ret (rr_ rfl _ _ w.heap.size _ _ _ _ rfl (put12_box (.int .u16 id) (.bool (decide ((f : Int) / 32768 % 2 = 1))) (.int .i64 ((f : Int) / 2048 % 16)) (.bool (decide ((f : Int) / 1024 % 2 = 1))) (.bool (decide ((f : Int) / 512 % 2 = 1))) (.bool (decide ((f : Int) / 256 % 2 = 1))) (.bool (decide ((f : Int) / 128 % 2 = 1))) (.int .i64 ((f : Int) % 16)) (.slice al qs.length cl) (.slice al13 l13.length cl13) (.slice al14 l14.length cl14) (.slice al15 l15.length cl15) HUb15.out.res) undMsg rfl (by kernel_rfl)) rfl ?_
       have hG := put12_grown W15 w.heap.size (.int .u16 id) (.bool (decide ((f : Int) / 32768 % 2 = 1))) (.int .i64 ((f : Int) / 2048 % 16)) (.bool (decide ((f : Int) / 1024 % 2 = 1))) (.bool (decide ((f : Int) / 512 % 2 = 1))) (.bool (decide ((f : Int) / 256 % 2 = 1))) (.bool (decide ((f : Int) / 128 % 2 = 1))) (.int .i64 ((f : Int) % 16)) (.slice al qs.length cl) (.slice al13 l13.length cl13) (.slice al14 l14.length cl14) (.slice al15 l15.length cl15)
       refine ⟨bg_ HUb15.out.below (Nat.le_refl _) hG, (fun hn => by rw [HY.out] at hn; cases hn), fun m hm => ?_⟩
       rw [HY.out] at hm
       cases hm
       have q1 := HQRb13b14b15.out.grow hG (.inl (by omega))
       have q2 := HNb13b14b15.out.grow hG (.inl (by omega))
       have q3 := HNb14b15.out.grow hG (.inl (by omega))
       have q4 := HNb15.out.grow hG (.inl (by omega))
       exact ⟨_, _, _, _, rfl, ⟨own_lies q1.own (qcells_len _) (by simp [flagged]), own_lies q2.own (rcells_len _) (by simp [flagged]), own_lies q3.own (rcells_len _) (by simp [flagged]), own_lies q4.own (rcells_len _) (by simp [flagged])⟩, fun k hk => by
        rcases hk with hk | hk | hk | hk
        ·exact ⟨by have := q1.lo k hk; omega, (q1.own.lt k hk).2⟩
        ·exact ⟨by have := q2.lo k hk; omega, (q2.own.lt k hk).2⟩
        ·exact ⟨by have := q3.lo k hk; omega, (q3.own.lt k hk).2⟩
        ·exact ⟨by have := q4.lo k hk; omega, (q4.own.lt k hk).2⟩⟩
      ·have HNO : Hid (unpack s = none) := unpack_bad hs HRAN.out (.inr hae)
       go_wp2_with fail
       clear hcM hfM hcr hcz hfz hcn
       generalize w15.setCell ⟨M, 11, none⟩ (.slice al15 l15.length cl15) = W15 at HUb15 ⊢
       refine bodyPost_ret (rr_ rfl _ _ w.heap.size _ _ _ _ rfl (put12_box (.int .u16 0) (.bool false) (.int .i64 0) (.bool false) (.bool false) (.bool false) (.bool false) (.int .i64 0) (.slice none 0 0) (.slice none 0 0) (.slice none 0 0) (.slice none 0 0) HUb15.out.res) undMsg rfl (by kernel_rfl)) rfl ?_
       exact ⟨bg_ HUb15.out.below (Nat.le_refl _) (put12_grown W15 w.heap.size (.int .u16 0) (.bool false) (.int .i64 0) (.bool false) (.bool false) (.bool false) (.bool false) (.int .i64 0) (.slice none 0 0) (.slice none 0 0) (.slice none 0 0) (.slice none 0 0)), fun _ => rfl, fun m hm => by rw [HNO.out] at hm; cases hm⟩
   ·have e : k = nq := by omega
    subst e
    have HAQ := HA
    have HQR := hide (RowW.of HO.out HNW.out)
    have hlM := HU.out.lt
    go_wp2_with fail
    clear hcr
    have hz130 : M < wr.heap.size := hl_ HU.out.box
    refine (recordsI wr (w.heap.size + 1 + 1) s ar br na (by omega) HU.out.rd).mono ?_
    rintro e w13 ⟨l13, al13, cl13, rfl, H13⟩
    obtain ⟨⟨a13, bad13, R13, G13, Ra13⟩, ow13, nw13, wf13, ln13⟩ := H13.out
    have hz13 : wr.heap.size ≤ w13.heap.size := G13.size
    have HA13 := hide Ra13
    have HU13 := hide (HU.out.move G13 R13)
    have HN13 := hide (RowW.of ow13 nw13)
    have HQRa13 := hide (HQR.out.grow G13 (.inl (by omega)))
    have hcM := bc_ HU13.out.box
    have hfM := fz_ HU13.out.box
    simp only [mc_] at hcM
    have HUb13 := hide (HU13.out.set 9 (.slice al13 l13.length cl13) (m' := flagged id f [] [] [] []) (vq' := .slice al qs.length cl) (va' := .slice al13 l13.length cl13) (vu' := .slice none 0 0) (vx' := .slice none 0 0) rfl)
    have HNb13 := hide (HN13.out.grow (gs_ w13 M 9 (.slice al13 l13.length cl13)) (.inl (by omega)))
    have HQRb13 := hide (HQRa13.out.grow (gs_ w13 M 9 (.slice al13 l13.length cl13)) (.inl (by omega)))
    have hzs13 : (w13.setCell ⟨M, 9, none⟩ (.slice al13 l13.length cl13)).heap.size = w13.heap.size := by simp [World.setCell]
    clear H13 R13 G13 Ra13 ow13 nw13 wf13 HN13 HU13 HQR HQRa13
    go_wp2_with fail
    clear hcM hfM
    generalize w13.setCell ⟨M, 9, none⟩ (.slice al13 l13.length cl13) = W13 at HUb13 HNb13 hzs13 HQRb13 ⊢
    have hz140 : M < W13.heap.size := hl_ HUb13.out.box
    refine (recordsI W13 (w.heap.size + 1 + 1) s a13 bad13 nu (by omega) HUb13.out.rd).mono ?_
    rintro e w14 ⟨l14, al14, cl14, rfl, H14⟩
    obtain ⟨⟨a14, bad14, R14, G14, Ra14⟩, ow14, nw14, wf14, ln14⟩ := H14.out
    have hz14 : W13.heap.size ≤ w14.heap.size := G14.size
    have HA14 := hide Ra14
    have HU14 := hide (HUb13.out.move G14 R14)
    have HN14 := hide (RowW.of ow14 nw14)
    have HNb13a14 := hide (HNb13.out.grow G14 (.inl (by omega)))
    have HQRb13a14 := hide (HQRb13.out.grow G14 (.inl (by omega)))
    have hcM := bc_ HU14.out.box
    have hfM := fz_ HU14.out.box
    simp only [mc_] at hcM
    have HUb14 := hide (HU14.out.set 10 (.slice al14 l14.length cl14) (m' := flagged id f [] [] [] []) (vq' := .slice al qs.length cl) (va' := .slice al13 l13.length cl13) (vu' := .slice al14 l14.length cl14) (vx' := .slice none 0 0) rfl)
    have HNb14 := hide (HN14.out.grow (gs_ w14 M 10 (.slice al14 l14.length cl14)) (.inl (by omega)))
    have HNb13b14 := hide (HNb13a14.out.grow (gs_ w14 M 10 (.slice al14 l14.length cl14)) (.inl (by omega)))
    have HQRb13b14 := hide (HQRb13a14.out.grow (gs_ w14 M 10 (.slice al14 l14.length cl14)) (.inl (by omega)))
    have hzs14 : (w14.setCell ⟨M, 10, none⟩ (.slice al14 l14.length cl14)).heap.size = w14.heap.size := by simp [World.setCell]
    clear H14 R14 G14 Ra14 ow14 nw14 wf14 HN14 HU14 HNb13 HNb13a14 HQRb13 HQRb13a14
    go_wp2_with fail
    clear hcM hfM
    generalize w14.setCell ⟨M, 10, none⟩ (.slice al14 l14.length cl14) = W14 at HUb14 HNb14 hzs14 HNb13b14 HQRb13b14 ⊢
    have hz150 : M < W14.heap.size := hl_ HUb14.out.box
    refine (recordsI W14 (w.heap.size + 1 + 1) s a14 bad14 nx (by omega) HUb14.out.rd).mono ?_
    rintro e w15 ⟨l15, al15, cl15, rfl, H15⟩
    obtain ⟨⟨a15, bad15, R15, G15, Ra15⟩, ow15, nw15, wf15, ln15⟩ := H15.out
    have hz15 : W14.heap.size ≤ w15.heap.size := G15.size
    have HA15 := hide Ra15
    have HU15 := hide (HUb14.out.move G15 R15)
    have HN15 := hide (RowW.of ow15 nw15)
    have HNb14a15 := hide (HNb14.out.grow G15 (.inl (by omega)))
    have HNb13b14a15 := hide (HNb13b14.out.grow G15 (.inl (by omega)))
    have HQRb13b14a15 := hide (HQRb13b14.out.grow G15 (.inl (by omega)))
    have hcM := bc_ HU15.out.box
    have hfM := fz_ HU15.out.box
    simp only [mc_] at hcM
    have HUb15 := hide (HU15.out.set 11 (.slice al15 l15.length cl15) (m' := flagged id f [] [] [] []) (vq' := .slice al qs.length cl) (va' := .slice al13 l13.length cl13) (vu' := .slice al14 l14.length cl14) (vx' := .slice al15 l15.length cl15) rfl)
    have HNb15 := hide (HN15.out.grow (gs_ w15 M 11 (.slice al15 l15.length cl15)) (.inl (by omega)))
    have HNb14b15 := hide (HNb14a15.out.grow (gs_ w15 M 11 (.slice al15 l15.length cl15)) (.inl (by omega)))
    have HNb13b14b15 := hide (HNb13b14a15.out.grow (gs_ w15 M 11 (.slice al15 l15.length cl15)) (.inl (by omega)))
    have HQRb13b14b15 := hide (HQRb13b14a15.out.grow (gs_ w15 M 11 (.slice al15 l15.length cl15)) (.inl (by omega)))
    have hzs15 : (w15.setCell ⟨M, 11, none⟩ (.slice al15 l15.length cl15)).heap.size = w15.heap.size := by simp [World.setCell]
    clear H15 R15 G15 Ra15 ow15 nw15 wf15 HN15 HU15 HNb14 HNb14a15 HNb13b14 HNb13b14a15 HQRb13b14 HQRb13b14a15
    have HRAN : Hid (Ran (pM s) (some 0) (flagged id f qs l13 l14 l15) (stOf a15 bad15)) := HA1.out.bind (HA2.out.bind (HA4.out.bind (HA5.out.bind (HA6.out.bind (HA7.out.bind (HAQ.out.bind (HA13.out.bind (HA14.out.bind (HA15.out.bind (Ran.pure _ _))))))))))
    have hcr := HUb15.out.rd.cell
    have hcz := bc_ HUb15.out.res
    have hfz := fz_ HUb15.out.res
    have hcn := bc_ HUb15.out.non
    simp only [zM0] at hcz hcn
    have ha15 := HUb15.out.rd.le
    have hbd : bad15 = true ∨ bad15 = false := by cases bad15 <;> simp
    rcases hbd with rfl | rfl
    ·have HNO : Hid (unpack s = none) := unpack_bad hs HRAN.out (.inl rfl)
     go_wp2_with fail
     clear hcM hfM hcr hcz hfz hcn
     generalize w15.setCell ⟨M, 11, none⟩ (.slice al15 l15.length cl15) = W15 at HUb15 ⊢
     refine bodyPost_ret (rr_ rfl _ _ w.heap.size _ _ _ _ rfl (put12_box (.int .u16 0) (.bool false) (.int .i64 0) (.bool false) (.bool false) (.bool false) (.bool false) (.int .i64 0) (.slice none 0 0) (.slice none 0 0) (.slice none 0 0) (.slice none 0 0) HUb15.out.res) undMsg rfl (by kernel_rfl)) rfl ?_
     exact ⟨bg_ HUb15.out.below (Nat.le_refl _) (put12_grown W15 w.heap.size (.int .u16 0) (.bool false) (.int .i64 0) (.bool false) (.bool false) (.bool false) (.bool false) (.int .i64 0) (.slice none 0 0) (.slice none 0 0) (.slice none 0 0) (.slice none 0 0)), fun _ => rfl, fun m hm => by rw [HNO.out] at hm; cases hm⟩
    ·by_cases hae : a15 = s.size
     ·subst hae
      have HY : Hid (unpack s = some (flagged id f qs l13 l14 l15)) := unpack_good hs HRAN.out
      have hcM2 := bc_ HUb15.out.box
      simp only [mc_, flagged] at hcM2
      go_wp2_with fail
      clear hcM hfM hcr hcz hfz hcn hcM2
      generalize hW15 : w15.setCell ⟨M, 11, none⟩ (.slice al15 l15.length cl15) = W15
      rw [hW15] at HUb15 hzs15 HNb15 HNb14b15 HNb13b14b15 HQRb13b14b15
      clear hW15
      refine bodyPost_ret (rr_ rfl _ _ w.heap.size _ _ _ _ rfl (put12_box (.int .u16 id) (.bool (decide ((f : Int) / 32768 % 2 = 1))) (.int .i64 ((f : Int) / 2048 % 16)) (.bool (decide ((f : Int) / 1024 % 2 = 1))) (.bool (decide ((f : Int) / 512 % 2 = 1))) (.bool (decide ((f : Int) / 256 % 2 = 1))) (.bool (decide ((f : Int) / 128 % 2 = 1))) (.int .i64 ((f : Int) % 16)) (.slice al qs.length cl) (.slice al13 l13.length cl13) (.slice al14 l14.length cl14) (.slice al15 l15.length cl15) HUb15.out.res) undMsg rfl (by kernel_rfl)) rfl ?_
      have hG := put12_grown W15 w.heap.size (.int .u16 id) (.bool (decide ((f : Int) / 32768 % 2 = 1))) (.int .i64 ((f : Int) / 2048 % 16)) (.bool (decide ((f : Int) / 1024 % 2 = 1))) (.bool (decide ((f : Int) / 512 % 2 = 1))) (.bool (decide ((f : Int) / 256 % 2 = 1))) (.bool (decide ((f : Int) / 128 % 2 = 1))) (.int .i64 ((f : Int) % 16)) (.slice al qs.length cl) (.slice al13 l13.length cl13) (.slice al14 l14.length cl14) (.slice al15 l15.length cl15)
      refine ⟨bg_ HUb15.out.below (Nat.le_refl _) hG, (fun hn => by rw [HY.out] at hn; cases hn), fun m hm => ?_⟩
      rw [HY.out] at hm
      cases hm
      have q1 := HQRb13b14b15.out.grow hG (.inl (by omega))
      have q2 := HNb13b14b15.out.grow hG (.inl (by omega))
      have q3 := HNb14b15.out.grow hG (.inl (by omega))
      have q4 := HNb15.out.grow hG (.inl (by omega))
      exact ⟨_, _, _, _, rfl, ⟨own_lies q1.own (qcells_len _) (by simp [flagged]), own_lies q2.own (rcells_len _) (by simp [flagged]), own_lies q3.own (rcells_len _) (by simp [flagged]), own_lies q4.own (rcells_len _) (by simp [flagged])⟩, fun k hk => by
        rcases hk with hk | hk | hk | hk
        ·exact ⟨by have := q1.lo k hk; omega, (q1.own.lt k hk).2⟩
        ·exact ⟨by have := q2.lo k hk; omega, (q2.own.lt k hk).2⟩
        ·exact ⟨by have := q3.lo k hk; omega, (q3.own.lt k hk).2⟩
        ·exact ⟨by have := q4.lo k hk; omega, (q4.own.lt k hk).2⟩⟩
     ·have HNO : Hid (unpack s = none) := unpack_bad hs HRAN.out (.inr hae)
      go_wp2_with fail
      clear hcM hfM hcr hcz hfz hcn
      generalize w15.setCell ⟨M, 11, none⟩ (.slice al15 l15.length cl15) = W15 at HUb15 ⊢
      refine bodyPost_ret (rr_ rfl _ _ w.heap.size _ _ _ _ rfl (put12_box (.int .u16 0) (.bool false) (.int .i64 0) (.bool false) (.bool false) (.bool false) (.bool false) (.int .i64 0) (.slice none 0 0) (.slice none 0 0) (.slice none 0 0) (.slice none 0 0) HUb15.out.res) undMsg rfl (by kernel_rfl)) rfl ?_
      exact ⟨bg_ HUb15.out.below (Nat.le_refl _) (put12_grown W15 w.heap.size (.int .u16 0) (.bool false) (.int .i64 0) (.bool false) (.bool false) (.bool false) (.bool false) (.int .i64 0) (.slice none 0 0) (.slice none 0 0) (.slice none 0 0) (.slice none 0 0)), fun _ => rfl, fun m hm => by rw [HNO.out] at hm; cases hm⟩
 ·have HN : Hid (unpack s = none) := by unfold Hid unpack; rw [if_neg hs]
  go_enter Tryz.func84, Tryz.ntmps84
  go_wp2_with fail
  refine bodyPost_ret (rr_ rfl _ _ w.heap.size _ _ _ _ rfl (heap_old (hn_ _ _) _) undMsg rfl (by kernel_rfl)) rfl ?_
  exact ⟨((Below.refl _ _).alloc (Nat.le_refl _) _).alloc (by rw [as_]; omega) _, fun _ => rfl, fun m hm => by rw [HN.out] at hm; cases hm⟩
end Go.Proofs.YtafoepfhepdcoaaGreat
