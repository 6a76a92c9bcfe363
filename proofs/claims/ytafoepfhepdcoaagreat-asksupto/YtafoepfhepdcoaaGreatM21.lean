import Derived.Test.YtafoepfhepdcoaaGreatM20
import Derived.Test.YtafoepfhepdcoaaGreatM5
import Derived.Laws.Rows
/- Reading a question, a record. -/
namespace Go.Proofs.YtafoepfhepdcoaaGreat
open Go.RowKit Go.Trawl

theorem Rd.aside {w : World} {r b c : Nat} {s : ByteArray} {a : Nat} {bad : Bool} (h : Rd w r b c s a bad) {g : Nat} (j : Nat) (u : Value) (h1 : g ≠ r) (h2 : g ≠ b) : Rd (w.setCell ⟨g, j, none⟩ u) r b c s a bad :=
  ⟨(Below.heap_setCell _ _ _ _ (Ne.symm h1)).trans h.box, h.le, fun k hk => cell_of_heap (Below.heap_setCell _ _ _ _ (Ne.symm h2)) (h.bytes k hk), h.ne, by rw [show (w.setCell ⟨g, j, none⟩ u).heap.size = w.heap.size from by simp [World.setCell]]; exact h.lt, h.cap, h.small⟩

/-- A question is being read. -/
structure QS (w W : World) (r : Nat) (n : ByteArray) (t c : Int) : Prop where
  res : W.heap[w.heap.size]? = some (.cells #[.string ⟨#[]⟩, .int .u16 0, .int .u16 0] 41)
  box : W.heap[w.heap.size + 1]? = some (.cells #[.string n, .int .u16 t, .int .u16 c] 41)
  grown : w.grownBy W (some r)
theorem QS.move {w W W' : World} {r : Nat} {n : ByteArray} {t c : Int} (h : QS w W r n t c) (hr : r < w.heap.size) (hw : W.grownBy W' (some r)) : QS w W' r n t c :=
  ⟨(hw.block _ (heap_lt h.res) (fun e => by have := Option.some.inj e; omega)).trans h.res, (hw.block _ (heap_lt h.box) (fun e => by have := Option.some.inj e; omega)).trans h.box, grownBy_trans h.grown hw⟩
theorem QS.set {w W : World} {r : Nat} {n n' : ByteArray} {t c t' c' : Int} (h : QS w W r n t c) (j : Nat) (u : Value) (he : (#[Value.string n, .int .u16 t, .int .u16 c]).setIfInBounds j u = #[.string n', .int .u16 t', .int .u16 c']) : QS w (W.setCell ⟨w.heap.size + 1, j, none⟩ u) r n' t' c' := by
  refine ⟨?_, ?_, grownBy_trans' h.grown (grownBy_setCell _ _ _ _) (.inr ⟨_, rfl, by omega⟩)⟩
  · rw [Below.heap_setCell _ _ _ _ (by simp)]
    exact h.res
  · rw [heap_setCell_eq h.box, he]

set_option maxHeartbeats 1000000 in
theorem question_any (w : World) (r b c : Nat) (s : ByteArray) (a : Nat) (bad : Bool) (h : Rd w r b c s a bad) :
    Calls Tryz.prog 70 #[.pointer (some ⟨r, 0, none⟩)] w fun e w' => ∃ q : Qn, e = .returned (.agg q.cells.toArray) ∧ Hid (WfQ q ∧ Out (pQ s) w w' r b c s a bad q) := by
  have HR := hide h
  have hrl : r < w.heap.size := heap_lt h.box
  have hbl : b < w.heap.size := h.lt
  clear h
  go_enter Tryz.func70, Tryz.ntmps70
  go_wp2_with fail
  have HW0 : Hid (QS w ((w.alloc (Obj.cells #[Value.string { data := #[] }, Value.int IntKind.u16 0, Value.int IntKind.u16 0] 41)).alloc (Obj.cells #[Value.string { data := #[] }, Value.int IntKind.u16 0, Value.int IntKind.u16 0] 41)) r ⟨#[]⟩ 0 0) := by
    refine ⟨heap_old (heap_new _ _) _, ?_, grownBy_below (((Below.refl _ _).alloc (Nat.le_refl _) _).alloc (by rw [alloc_size]; omega) _) _⟩
    have := heap_new (w.alloc (Obj.cells #[Value.string { data := #[] }, Value.int IntKind.u16 0, Value.int IntKind.u16 0] 41)) (Obj.cells #[Value.string { data := #[] }, Value.int IntKind.u16 0, Value.int IntKind.u16 0] 41)
    rw [alloc_size] at this
    exact this
  have HR0 := hide (HR.out.set HW0.out.grown HR.out.le ((((Below.refl w.heap.size w).alloc (Nat.le_refl _) (Obj.cells #[Value.string { data := #[] }, Value.int IntKind.u16 0, Value.int IntKind.u16 0] 41)).alloc (by rw [alloc_size]; omega) (Obj.cells #[Value.string { data := #[] }, Value.int IntKind.u16 0, Value.int IntKind.u16 0] 41)).block r hrl |>.trans HR.out.box))
  generalize ((w.alloc (Obj.cells #[Value.string { data := #[] }, Value.int IntKind.u16 0, Value.int IntKind.u16 0] 41)).alloc (Obj.cells #[Value.string { data := #[] }, Value.int IntKind.u16 0, Value.int IntKind.u16 0] 41)) = W0 at HW0 HR0 ⊢
  refine (name_any W0 r b c s a bad HR0.out).mono ?_
  rintro e w1 ⟨x, rfl, H1⟩
  obtain ⟨hx, a1, bad1, R1, G1, Ra1⟩ := H1.out
  have HW1 := hide (HW0.out.move hrl G1)
  have hc1 := box_cells HW1.out.box
  have hf1 := frozen_of_block HW1.out.box
  have HW1b := hide (HW1.out.set 0 (.string x) (n' := x) (t' := 0) (c' := 0) rfl)
  have HR1 := hide (R1.aside 0 (.string x) (g := w.heap.size + 1) (by omega) (by omega))
  have HA1 := hide Ra1
  clear H1 R1 G1 Ra1
  go_wp2_with fail
  generalize (w1.setCell ⟨w.heap.size + 1, 0, none⟩ (.string x)) = W1 at HW1b HR1 ⊢
  clear hc1 hf1
  refine (short_any W1 r b c s a1 bad1 HR1.out).mono ?_
  rintro e w2 ⟨t, rfl, H2⟩
  obtain ⟨t0, t1, a2, bad2, R2, G2, Ra2⟩ := H2.out
  have HW2 := hide (HW1b.out.move hrl G2)
  have hc2 := box_cells HW2.out.box
  have hf2 := frozen_of_block HW2.out.box
  have HW2b := hide (HW2.out.set 1 (.int .u16 t) (n' := x) (t' := t) (c' := 0) rfl)
  have HR2 := hide (R2.aside 1 (.int .u16 t) (g := w.heap.size + 1) (by omega) (by omega))
  have HA2 := hide Ra2
  clear H2 R2 G2 Ra2
  go_wp2_with fail
  generalize (w2.setCell ⟨w.heap.size + 1, 1, none⟩ (.int .u16 t)) = W2 at HW2b HR2 ⊢
  clear hc2 hf2
  refine (short_any W2 r b c s a2 bad2 HR2.out).mono ?_
  rintro e w3 ⟨k, rfl, H3⟩
  obtain ⟨k0, k1, a3, bad3, R3, G3, Ra3⟩ := H3.out
  have HW3 := hide (HW2b.out.move hrl G3)
  have hc3 := box_cells HW3.out.box
  have hf3 := frozen_of_block HW3.out.box
  have HW3b := hide (HW3.out.set 2 (.int .u16 k) (n' := x) (t' := t) (c' := k) rfl)
  have HR3 := hide (R3.aside 2 (.int .u16 k) (g := w.heap.size + 1) (by omega) (by omega))
  have HA3 := hide Ra3
  clear H3 R3 G3 Ra3
  have hcr := box_cells HW3.out.res
  have hfr := frozen_of_block HW3.out.res
  go_wp2_with fail
  generalize (w3.setCell ⟨w.heap.size + 1, 2, none⟩ (.int .u16 k)) = W3 at HW3b HR3 ⊢
  have g0 := heap_setCell_eq (j := 0) HW3b.out.res (.string x)
  have g1 := heap_setCell_eq (j := 1) g0 (.int .u16 t)
  have g2 := heap_setCell_eq (j := 2) g1 (.int .u16 k)
  refine bodyPost_ret (results_cell_row rfl _ _ w.heap.size _ _ _ _ rfl g2 undQ rfl (by kernel_rfl)) rfl ?_
  refine ⟨⟨x, t, k⟩, rfl, ⟨by dsimp only; omega, t0, t1, k0, k1⟩, a3, bad3, ((HR3.out.aside 0 _ (by omega) (by omega)).aside 1 _ (by omega) (by omega)).aside 2 _ (by omega) (by omega), ?_, HA1.out.bind (HA2.out.bind (HA3.out.bind (Ran.pure _ _)))⟩
  have k0 := grownBy_trans' HW3b.out.grown (grownBy_setCell W3 w.heap.size 0 (.string x)) (.inr ⟨_, rfl, Nat.le_refl _⟩)
  have k1 := grownBy_trans' k0 (grownBy_setCell _ w.heap.size 1 (.int .u16 t)) (.inr ⟨_, rfl, Nat.le_refl _⟩)
  exact grownBy_trans' k1 (grownBy_setCell _ w.heap.size 2 (.int .u16 k)) (.inr ⟨_, rfl, Nat.le_refl _⟩)
theorem wrap_small {m : Int} (h0 : 0 ≤ m) (h1 : m ≤ 65535) : IntKind.i64.wrap m = ((m.toNat : Nat) : Int) := by
  rw [IntKind.wrap_i64]
  omega

/-- A record is being read. -/
structure RS (w W : World) (r : Nat) (n : ByteArray) (t c l : Int) (d : ByteArray) : Prop where
  res : W.heap[w.heap.size]? = some (.cells #[Value.string { data := #[] }, Value.int IntKind.u16 0, Value.int IntKind.u16 0, Value.int IntKind.u32 0, Value.string { data := #[] }] 69)
  box : W.heap[w.heap.size + 1]? = some (.cells #[.string n, .int .u16 t, .int .u16 c, .int .u32 l, .string d] 69)
  grown : w.grownBy W (some r)
theorem RS.move {w W W' : World} {r : Nat} {n d : ByteArray} {t c l : Int} (h : RS w W r n t c l d) (hr : r < w.heap.size) (hw : W.grownBy W' (some r)) : RS w W' r n t c l d :=
  ⟨(hw.block _ (heap_lt h.res) (fun e => by have := Option.some.inj e; omega)).trans h.res, (hw.block _ (heap_lt h.box) (fun e => by have := Option.some.inj e; omega)).trans h.box, grownBy_trans h.grown hw⟩
theorem RS.set {w W : World} {r : Nat} {n n' d d' : ByteArray} {t c l t' c' l' : Int} (h : RS w W r n t c l d) (j : Nat) (u : Value) (he : (#[Value.string n, .int .u16 t, .int .u16 c, .int .u32 l, .string d]).setIfInBounds j u = #[.string n', .int .u16 t', .int .u16 c', .int .u32 l', .string d']) : RS w (W.setCell ⟨w.heap.size + 1, j, none⟩ u) r n' t' c' l' d' := by
  refine ⟨?_, ?_, grownBy_trans' h.grown (grownBy_setCell _ _ _ _) (.inr ⟨_, rfl, by omega⟩)⟩
  · rw [Below.heap_setCell _ _ _ _ (by simp)]
    exact h.res
  · rw [heap_setCell_eq h.box, he]

set_option maxRecDepth 10000 in
set_option maxHeartbeats 1000000 in
theorem record_any (w : World) (r b c : Nat) (s : ByteArray) (a : Nat) (bad : Bool) (h : Rd w r b c s a bad) :
    Calls Tryz.prog 72 #[.pointer (some ⟨r, 0, none⟩)] w fun e w' => ∃ q : Rc, e = .returned (.agg q.cells.toArray) ∧ Hid (WfR q ∧ Out (pR s) w w' r b c s a bad q) := by
  have HR := hide h
  have hrl : r < w.heap.size := heap_lt h.box
  have hbl : b < w.heap.size := h.lt
  clear h
  go_enter Tryz.func72, Tryz.ntmps72
  go_wp2_with fail
  have HW0 : Hid (RS w ((w.alloc (Obj.cells #[Value.string { data := #[] }, Value.int IntKind.u16 0, Value.int IntKind.u16 0, Value.int IntKind.u32 0, Value.string { data := #[] }] 69)).alloc (Obj.cells #[Value.string { data := #[] }, Value.int IntKind.u16 0, Value.int IntKind.u16 0, Value.int IntKind.u32 0, Value.string { data := #[] }] 69)) r ⟨#[]⟩ 0 0 0 ⟨#[]⟩) := by
    refine ⟨heap_old (heap_new _ _) _, ?_, grownBy_below (((Below.refl _ _).alloc (Nat.le_refl _) _).alloc (by rw [alloc_size]; omega) _) _⟩
    have := heap_new (w.alloc (Obj.cells #[Value.string { data := #[] }, Value.int IntKind.u16 0, Value.int IntKind.u16 0, Value.int IntKind.u32 0, Value.string { data := #[] }] 69)) (Obj.cells #[Value.string { data := #[] }, Value.int IntKind.u16 0, Value.int IntKind.u16 0, Value.int IntKind.u32 0, Value.string { data := #[] }] 69)
    rw [alloc_size] at this
    exact this
  have HR0 := hide (HR.out.set HW0.out.grown HR.out.le ((((Below.refl w.heap.size w).alloc (Nat.le_refl _) (Obj.cells #[Value.string { data := #[] }, Value.int IntKind.u16 0, Value.int IntKind.u16 0, Value.int IntKind.u32 0, Value.string { data := #[] }] 69)).alloc (by rw [alloc_size]; omega) (Obj.cells #[Value.string { data := #[] }, Value.int IntKind.u16 0, Value.int IntKind.u16 0, Value.int IntKind.u32 0, Value.string { data := #[] }] 69)).block r hrl |>.trans HR.out.box))
  generalize ((w.alloc (Obj.cells #[Value.string { data := #[] }, Value.int IntKind.u16 0, Value.int IntKind.u16 0, Value.int IntKind.u32 0, Value.string { data := #[] }] 69)).alloc (Obj.cells #[Value.string { data := #[] }, Value.int IntKind.u16 0, Value.int IntKind.u16 0, Value.int IntKind.u32 0, Value.string { data := #[] }] 69)) = W0 at HW0 HR0 ⊢
  refine (name_any W0 r b c s a bad HR0.out).mono ?_
  rintro e w1 ⟨x, rfl, H1⟩
  obtain ⟨hx, a1, bad1, R1, G1, Ra1⟩ := H1.out
  have HW1 := hide (HW0.out.move hrl G1)
  have hc1 := box_cells HW1.out.box
  have hf1 := frozen_of_block HW1.out.box
  have HW1b := hide (HW1.out.set 0 (.string x) (n' := x) (t' := 0) (c' := 0) (l' := 0) (d' := ⟨#[]⟩) rfl)
  have HR1 := hide (R1.aside 0 (.string x) (g := w.heap.size + 1) (by omega) (by omega))
  have HA1 := hide Ra1
  clear H1 R1 G1 Ra1
  go_wp2_with fail
  generalize (w1.setCell ⟨w.heap.size + 1, 0, none⟩ (.string x)) = W1 at HW1b HR1 ⊢
  clear hc1 hf1
  refine (short_any W1 r b c s a1 bad1 HR1.out).mono ?_
  rintro e w2 ⟨t, rfl, H2⟩
  obtain ⟨t0, t1, a2, bad2, R2, G2, Ra2⟩ := H2.out
  have HW2 := hide (HW1b.out.move hrl G2)
  have hc2 := box_cells HW2.out.box
  have hf2 := frozen_of_block HW2.out.box
  have HW2b := hide (HW2.out.set 1 (.int .u16 t) (n' := x) (t' := t) (c' := 0) (l' := 0) (d' := ⟨#[]⟩) rfl)
  have HR2 := hide (R2.aside 1 (.int .u16 t) (g := w.heap.size + 1) (by omega) (by omega))
  have HA2 := hide Ra2
  clear H2 R2 G2 Ra2
  go_wp2_with fail
  generalize (w2.setCell ⟨w.heap.size + 1, 1, none⟩ (.int .u16 t)) = W2 at HW2b HR2 ⊢
  clear hc2 hf2
  refine (short_any W2 r b c s a2 bad2 HR2.out).mono ?_
  rintro e w3 ⟨k, rfl, H3⟩
  obtain ⟨k0, k1, a3, bad3, R3, G3, Ra3⟩ := H3.out
  have HW3 := hide (HW2b.out.move hrl G3)
  have hc3 := box_cells HW3.out.box
  have hf3 := frozen_of_block HW3.out.box
  have HW3b := hide (HW3.out.set 2 (.int .u16 k) (n' := x) (t' := t) (c' := k) (l' := 0) (d' := ⟨#[]⟩) rfl)
  have HR3 := hide (R3.aside 2 (.int .u16 k) (g := w.heap.size + 1) (by omega) (by omega))
  have HA3 := hide Ra3
  clear H3 R3 G3 Ra3
  go_wp2_with fail
  generalize (w3.setCell ⟨w.heap.size + 1, 2, none⟩ (.int .u16 k)) = W3 at HW3b HR3 ⊢
  clear hc3 hf3
  refine (long_any W3 r b c s a3 bad3 HR3.out).mono ?_
  rintro e w4 ⟨l, rfl, H4⟩
  obtain ⟨l0, l1, a4, bad4, R4, G4, Ra4⟩ := H4.out
  have HW4 := hide (HW3b.out.move hrl G4)
  have hc4 := box_cells HW4.out.box
  have hf4 := frozen_of_block HW4.out.box
  have HW4b := hide (HW4.out.set 3 (.int .u32 l) (n' := x) (t' := t) (c' := k) (l' := l) (d' := ⟨#[]⟩) rfl)
  have HR4 := hide (R4.aside 3 (.int .u32 l) (g := w.heap.size + 1) (by omega) (by omega))
  have HA4 := hide Ra4
  clear H4 R4 G4 Ra4
  go_wp2_with fail
  generalize (w4.setCell ⟨w.heap.size + 1, 3, none⟩ (.int .u32 l)) = W4 at HW4b HR4 ⊢
  clear hc4 hf4
  have hc5 := box_cells HW4b.out.box
  have HD := hide (HR4.out.keep (grownBy_drew W4 none))
  have HWD := hide (HW4b.out.move hrl (grownBy_drew W4 _))
  go_region_held3 (fun w' => w'.cell? ⟨w.heap.size + 1, 1, none⟩ = some (.int .u16 t)) (first | (go_keep; done) | (rw [hc8]; rfl))
    (first | (go_at_call 67; refine (short_any W4.drew r b c s a4 bad4 HD.out).mono ?_; rintro e w5 ⟨m, rfl, H5⟩; obtain ⟨m0, m1, a5, bad5, R5, G5, Ra5⟩ := H5.out; have HR5 := hide R5; have HA5 := hide Ra5; have HW5 := hide (HWD.out.move hrl G5); have hc6 := box_cells HW5.out.box; clear H5 R5 G5 Ra5) | (go_at_call 101; rw [wrap_small m0 m1]; refine (data_any w5 r b c s a5 bad5 t m.toNat (by omega) HR5.out).mono ?_; rintro e w6 ⟨d, rfl, H6⟩; obtain ⟨hd6, a6, bad6, R6, G6, Ra6⟩ := H6.out; have HR6 := hide R6; have HA6 := hide Ra6; have HW6 := hide (HW5.out.move hrl G6); have hc7 := box_cells HW6.out.box; have hf7 := frozen_of_block HW6.out.box; have hc8 := box_cells (HW6.out.set 4 (.string d) (n' := x) (t' := t) (c' := k) (l' := l) (d' := d) rfl).box; clear H6 R6 G6 Ra6))
  have hcr := box_cells HW6.out.res
  have hfr := frozen_of_block HW6.out.res
  have HW6b := hide (HW6.out.set 4 (.string d) (n' := x) (t' := t) (c' := k) (l' := l) (d' := d) rfl)
  have HR6b := hide (HR6.out.aside 4 (.string d) (g := w.heap.size + 1) (by omega) (by omega))
  go_wp2_with fail
  generalize (w6.setCell ⟨w.heap.size + 1, 4, none⟩ (.string d)) = W6 at HW6b HR6b ⊢
  have g0 := heap_setCell_eq (j := 0) HW6b.out.res (.string x)
  have g1 := heap_setCell_eq (j := 1) g0 (.int .u16 t)
  have g2 := heap_setCell_eq (j := 2) g1 (.int .u16 k)
  have g3 := heap_setCell_eq (j := 3) g2 (.int .u32 l)
  have g4 := heap_setCell_eq (j := 4) g3 (.string d)
  refine bodyPost_ret (results_cell_row rfl _ _ w.heap.size _ _ _ _ rfl g4 undR rfl (by kernel_rfl)) rfl ?_
  refine ⟨⟨x, t, k, l, d⟩, rfl, ⟨by dsimp only; omega, by dsimp only; omega, t0, t1, k0, k1, l0, l1⟩, a6, bad6, ((((HR6b.out.aside 0 _ (by omega) (by omega)).aside 1 _ (by omega) (by omega)).aside 2 _ (by omega) (by omega)).aside 3 _ (by omega) (by omega)).aside 4 _ (by omega) (by omega), ?_,
    HA1.out.bind (HA2.out.bind (HA3.out.bind (HA4.out.bind (HA5.out.bind (HA6.out.bind (Ran.pure _ _))))))⟩
  have q0 := grownBy_trans' HW6b.out.grown (grownBy_setCell W6 w.heap.size 0 (.string x)) (.inr ⟨_, rfl, Nat.le_refl _⟩)
  have q1 := grownBy_trans' q0 (grownBy_setCell _ w.heap.size 1 (.int .u16 t)) (.inr ⟨_, rfl, Nat.le_refl _⟩)
  have q2 := grownBy_trans' q1 (grownBy_setCell _ w.heap.size 2 (.int .u16 k)) (.inr ⟨_, rfl, Nat.le_refl _⟩)
  have q3 := grownBy_trans' q2 (grownBy_setCell _ w.heap.size 3 (.int .u32 l)) (.inr ⟨_, rfl, Nat.le_refl _⟩)
  exact grownBy_trans' q3 (grownBy_setCell _ w.heap.size 4 (.string d)) (.inr ⟨_, rfl, Nat.le_refl _⟩)
end Go.Proofs.YtafoepfhepdcoaaGreat
