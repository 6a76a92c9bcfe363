/- trawl.Unpack. -/
import Derived.Test.YtafoepfhepdcoaaGreatUWire
namespace Go.Proofs.YtafoepfhepdcoaaGreat
open Go.RowKit Go.Trawl

theorem Rows4.grow {B r : Nat} {w w' : World} {m : Msg} {vq va vu vx : Value} (h : Rows4 B w m vq va vu vx) (hw : w.grownBy w' (some r)) (hr : r < B) : Rows4 B w' m vq va vu vx := by
  have ap : ∀ v : Value, (∀ g, v.ownBlock = some g → B ≤ g) → v.ownBlock = none ∨ v.ownBlock ≠ some r := by
    intro v hv
    cases h1 : v.ownBlock with
    | none => exact .inl rfl
    | some g =>
      have := hv g h1
      exact .inr (fun e => by have := Option.some.inj e; omega)
  exact { h with q := h.q.kept hw (ap _ h.nq), a := h.a.kept hw (ap _ h.na), u := h.u.kept hw (ap _ h.nu), x := h.x.kept hw (ap _ h.nx) }
theorem Rows4.lower {B C : Nat} {w : World} {m : Msg} {vq va vu vx : Value} (h : Rows4 B w m vq va vu vx) (hc : C ≤ B) : Rows4 C w m vq va vu vx :=
  { h with nq := fun g hg => Nat.le_trans hc (h.nq g hg), na := fun g hg => Nat.le_trans hc (h.na g hg), nu := fun g hg => Nat.le_trans hc (h.nu g hg), nx := fun g hg => Nat.le_trans hc (h.nx g hg) }

set_option maxRecDepth 10000 in
set_option maxHeartbeats 1000000 in
theorem tUnpack_no (w : World) (b c : Nat) (s : ByteArray) (hsm : s.size ≤ 2097152) (hsc : s.size ≤ c) (hbl : b < w.heap.size) (hc : Bytes w b s) (hn : unpack s = none) :
    Calls Tryz.prog 16 #[.slice (some ⟨b, 0, none⟩) s.size c] w fun e w' => e = .returned (.tuple #[.agg zM0, .int .i64 1]) ∧ Hid (Below w.heap.size w w') := by
  have hB : Below w.heap.size w (w.alloc (Obj.cells #[Value.int IntKind.u16 0, Value.bool false, Value.int IntKind.i64 0, Value.bool false, Value.bool false, Value.bool false, Value.bool false, Value.int IntKind.i64 0, Value.slice none 0 0, Value.slice none 0 0, Value.slice none 0 0, Value.slice none 0 0] 30)) := (Below.refl _ _).alloc (Nat.le_refl _) _
  have HB := hide hB
  have HC := hide (hc.below hbl hB)
  have HN := hide hn
  clear hc hn hB
  go_enter Tryz.func16, Tryz.ntmps16
  go_wp2_with fail
  refine (wUnpack_any _ b c s hsm hsc (Nat.lt_of_lt_of_le hbl HB.out.size) HC.out).mono ?_
  intro e w1 H1
  obtain ⟨hb1, hno, _⟩ := H1.out
  obtain rfl := hno HN.out
  have HB1 := hide (HB.out.trans (hb1.mono HB.out.size))
  have HZ1 : Hid (w1.heap[w.heap.size]? = some (.cells zM0 30)) := (hb1.block _ (by rw [alloc_size]; omega)).trans (heap_new _ _)
  clear H1 hb1 hno
  have hcz := box_cells HZ1.out
  have hfz := frozen_of_block HZ1.out
  simp only [zM0] at hcz ⊢
  go_wp2_with fail
  clear hcz hfz
  refine bodyPost_ret (results_cell_row2 rfl _ _ w.heap.size _ _ _ _ rfl (put12_box (.int .u16 0) (.bool false) (.int .i64 0) (.bool false) (.bool false) (.bool false) (.bool false) (.int .i64 0) (.slice none 0 0) (.slice none 0 0) (.slice none 0 0) (.slice none 0 0) HZ1.out) undMsg rfl (by kernel_rfl)) rfl ?_
  exact ⟨rfl, below_of_grown HB1.out (Nat.le_refl _) (put12_grown w1 w.heap.size (.int .u16 0) (.bool false) (.int .i64 0) (.bool false) (.bool false) (.bool false) (.bool false) (.int .i64 0) (.slice none 0 0) (.slice none 0 0) (.slice none 0 0) (.slice none 0 0))⟩

set_option maxRecDepth 10000 in
set_option maxHeartbeats 1000000 in
theorem tUnpack_yes (w : World) (b c : Nat) (s : ByteArray) (hsm : s.size ≤ 2097152) (hsc : s.size ≤ c) (hbl : b < w.heap.size) (hc : Bytes w b s) (m : Msg) (hn : unpack s = some m) :
    Calls Tryz.prog 16 #[.slice (some ⟨b, 0, none⟩) s.size c] w fun e w' => ∃ vq va vu vx, e = .returned (.tuple #[.agg (msgCells m vq va vu vx), .int .i64 0]) ∧ Hid (Below w.heap.size w w' ∧ WfM m ∧ Rows4 (w.heap.size + 1) w' m vq va vu vx) := by
  have hB : Below w.heap.size w (w.alloc (Obj.cells #[Value.int IntKind.u16 0, Value.bool false, Value.int IntKind.i64 0, Value.bool false, Value.bool false, Value.bool false, Value.bool false, Value.int IntKind.i64 0, Value.slice none 0 0, Value.slice none 0 0, Value.slice none 0 0, Value.slice none 0 0] 30)) := (Below.refl _ _).alloc (Nat.le_refl _) _
  have HB := hide hB
  have HC := hide (hc.below hbl hB)
  have HN := hide hn
  clear hc hn hB
  go_enter Tryz.func16, Tryz.ntmps16
  go_wp2_with fail
  refine (wUnpack_any _ b c s hsm hsc (Nat.lt_of_lt_of_le hbl HB.out.size) HC.out).mono ?_
  intro e w1 H1
  obtain ⟨hb1, _, hyes⟩ := H1.out
  obtain ⟨vq, va, vu, vx, rfl, hwf, hrows⟩ := hyes m HN.out
  rw [alloc_size] at hrows
  have HRW := hide hrows
  have HWF := hide hwf
  have HB1 := hide (HB.out.trans (hb1.mono HB.out.size))
  have HZ1 : Hid (w1.heap[w.heap.size]? = some (.cells zM0 30)) := (hb1.block _ (by rw [alloc_size]; omega)).trans (heap_new _ _)
  obtain ⟨aq, cq, rfl⟩ := own_slice hrows.q
  obtain ⟨aa, ca, rfl⟩ := own_slice hrows.a
  obtain ⟨au, cu, rfl⟩ := own_slice hrows.u
  obtain ⟨ax, cx, rfl⟩ := own_slice hrows.x
  clear H1 hb1 hyes hrows hwf
  have hcz := box_cells HZ1.out
  have hfz := frozen_of_block HZ1.out
  simp only [zM0] at hcz
  simp only [msgCells]
  go_wp2_with fail
  clear hcz hfz
  refine bodyPost_ret (results_cell_row2 rfl _ _ w.heap.size _ _ _ _ rfl (put12_box (.int .u16 m.id) (.bool m.resp) (.int .i64 m.op) (.bool m.own) (.bool m.cut) (.bool m.wanted) (.bool m.able) (.int .i64 m.code) (.slice aq m.qs.length cq) (.slice aa m.an.length ca) (.slice au m.au.length cu) (.slice ax m.ex.length cx) HZ1.out) undMsg rfl (by kernel_rfl)) rfl ?_
  have hG := put12_grown w1 w.heap.size (.int .u16 m.id) (.bool m.resp) (.int .i64 m.op) (.bool m.own) (.bool m.cut) (.bool m.wanted) (.bool m.able) (.int .i64 m.code) (.slice aq m.qs.length cq) (.slice aa m.an.length ca) (.slice au m.au.length cu) (.slice ax m.ex.length cx)
  exact ⟨_, _, _, _, rfl, below_of_grown HB1.out (Nat.le_refl _) hG, HWF.out, HRW.out.grow hG (by omega)⟩
end Go.Proofs.YtafoepfhepdcoaaGreat
