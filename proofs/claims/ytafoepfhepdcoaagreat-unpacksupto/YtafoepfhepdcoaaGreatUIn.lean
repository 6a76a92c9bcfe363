/- The reference's reader: its small methods. -/
import Derived.Test.YtafoepfhepdcoaaGreatUList
namespace Go.Proofs.YtafoepfhepdcoaaGreat
open Go.RowKit Go.Trawl

/-- The reference's reader lies in a block. -/
structure In (w : World) (r : Nat) (s : ByteArray) (a : Nat) (bad : Bool) : Prop where
  box : w.heap[r]? = some (.cells #[.string s, .int .i64 a, .bool bad] 203)
  le : a ≤ s.size
  small : s.size ≤ 512
def OutI {α : Type} (p : Par α) (w w' : World) (r : Nat) (s : ByteArray) (a : Nat) (bad : Bool) (x : α) : Prop := ∃ a' bad', In w' r s a' bad' ∧ w.grownBy w' (some r) ∧ Ran p (stOf a bad) x (stOf a' bad')
theorem In.cell {w : World} {r : Nat} {s : ByteArray} {a : Nat} {bad : Bool} (h : In w r s a bad) : ∀ o, w.cell? ⟨r, o, none⟩ = #[Value.string s, .int .i64 a, .bool bad][o]? := box_cells h.box
theorem In.frozen {w : World} {r : Nat} {s : ByteArray} {a : Nat} {bad : Bool} (h : In w r s a bad) : ∀ o, w.frozen? ⟨r, o, none⟩ = false := frozen_of_block h.box
theorem In.grow {w w' : World} {r : Nat} {s : ByteArray} {a : Nat} {bad : Bool} (h : In w r s a bad) {row : Option Nat} (hw : w.grownBy w' row) (h1 : row ≠ some r) : In w' r s a bad :=
  ⟨(hw.block r (heap_lt h.box) (Ne.symm h1)).trans h.box, h.le, h.small⟩
theorem In.drewN {w : World} {r : Nat} {s : ByteArray} {a : Nat} {bad : Bool} (h : In w r s a bad) (n : Nat) : In (w.drewN n) r s a bad := h.grow (grownBy_drewN _ n none) (by simp)
theorem In.setBad {w : World} {r : Nat} {s : ByteArray} {a : Nat} {bad : Bool} (h : In w r s a bad) (b : Bool) : In (w.setCell ⟨r, 2, none⟩ (.bool b)) r s a b :=
  ⟨by rw [heap_setCell_eq h.box]; rfl, h.le, h.small⟩
theorem In.setAt {w : World} {r : Nat} {s : ByteArray} {a a' : Nat} {bad : Bool} (h : In w r s a bad) (ha : a' ≤ s.size) : In (w.setCell ⟨r, 1, none⟩ (.int .i64 a')) r s a' bad :=
  ⟨by rw [heap_setCell_eq h.box]; rfl, ha, h.small⟩

theorem idx (s : ByteArray) (i : Nat) (hi : i < s.size) (W : World) : (Instr.index 9 (.string s) (.int .i64 (i : Int))).run Tryz.prog W = .ok (.int .u8 (at8 s i)) W := by
  have hu : Tryz.prog.underlying 9 = some .string := by kernel_rfl
  have e : s[i]? = some s[i] := getElem?_pos s i hi
  have e2 : ((i : Int)).toNat = i := by omega
  rw [run_index_string (P := Tryz.prog) (h := hu)]
  simp [at8_eq s i hi]
  intro h
  omega
/-- A number of so many bytes. -/
def be (s : ByteArray) (a : Nat) : Nat → Nat
  | 0 => 0
  | k + 1 => be s a k * 256 + at8 s (a + k)
def numB (s : ByteArray) (k : Nat) : Par Int := fun a => if a + k ≤ s.size then some ((be s a k : Int), a + k) else none
theorem numB_two (s : ByteArray) : numB s 2 = num2 s := by
  funext a
  unfold numB num2
  simp [be, n2]
theorem numB_four (s : ByteArray) : numB s 4 = num4 s := by
  funext a
  unfold numB num4
  have : be s a 4 = n4 s a := by simp only [be, n4, n2, Nat.add_assoc, Nat.add_zero, Nat.reduceAdd]; omega
  rw [this]
theorem be_le (s : ByteArray) (a : Nat) : ∀ k, k ≤ 4 → be s a k ≤ 4294967295 := by
  intro k hk
  have h0 := at8_lt s a
  have h1 := at8_lt s (a + 1)
  have h2 := at8_lt s (a + 2)
  have h3 := at8_lt s (a + 3)
  rcases (show k = 0 ∨ k = 1 ∨ k = 2 ∨ k = 3 ∨ k = 4 from by omega) with rfl | rfl | rfl | rfl | rfl <;> simp only [be, Nat.add_zero] <;> omega

set_option maxRecDepth 10000 in
set_option maxHeartbeats 1000000 in
theorem numberI (w : World) (r : Nat) (s : ByteArray) (a : Nat) (bad : Bool) (n : Nat) (hn : n ≤ 4) (h : In w r s a bad) :
    Calls Tryz.prog 127 #[.pointer (some ⟨r, 0, none⟩), .int .i64 n] w fun e w' => ∃ x : Nat, e = .returned (.int .i64 x) ∧ Hid ((x = 0 ∨ x = be s a n) ∧ OutI (numB s n) w w' r s a bad x) := by
  have HR := hide h
  have hs := h.small
  have ha := h.le
  have hcl := h.cell
  have hfr := h.frozen
  clear h
  have HF : Hid (∀ k, In ((w.drewN k).setCell ⟨r, 2, none⟩ (.bool true)) r s a true ∧ w.grownBy ((w.drewN k).setCell ⟨r, 2, none⟩ (.bool true)) (some r)) := fun k => ⟨(HR.out.drewN k).setBad true, grownBy_trans (grownBy_drewN _ k _) (grownBy_setCell _ _ _ _)⟩
  cases bad
  · by_cases hlt : s.size < a + n
    · have hd : decide ((s.size : Int) < (a : Int) + (n : Int)) = true := by simp; omega
      go_enter Tryz.func127, Tryz.ntmps127
      go_wp2_with fail
      go_quiet (fail)
      go_wp2_with fail
      go_ret
      exact ⟨0, rfl, .inl rfl, a, true, (HF.out nq).1, (HF.out nq).2, Ran.fail (by unfold numB; rw [if_neg (by omega)]) _⟩
    · have hd : decide ((s.size : Int) < (a : Int) + (n : Int)) = false := by simp; omega
      go_enter Tryz.func127, Tryz.ntmps127
      go_wp2_with fail
      go_quiet (fail)
      go_wp2_with fail
      go_loopw [5, 6] (fun v i wr => ∃ (k m : Nat), v = .int .i64 (be s a k) ∧ i = .int .i64 k ∧ k ≤ n ∧ wr = w.drewN m) (fun _ i _ => n - (intOf i).toNat)
      case atStart => exact ⟨0, nq, rfl, rfl, Nat.zero_le _, rfl⟩
      case round =>
        obtain ⟨k, m, rfl, rfl, hk, rfl⟩ := hrel
        have hbe := be_le s a k (by omega)
        by_cases hkn : k < n
        · have hix : a + k < s.size := by omega
          have hix2 : (a : Int) + (k : Int) < (s.size : Int) := by omega
          have hw1 : IntKind.i64.wrap ((a : Int) + (k : Int)) = ((a + k : Nat) : Int) := by rw [IntKind.wrap_i64]; omega
          have hidx : ∀ W, (Instr.index 9 (.string s) (.int .i64 ((a : Int) + (k : Int)))).run Tryz.prog W = .ok (.int .u8 (at8 s (a + k))) W := fun W => by
            have := idx s (a + k) hix W
            rwa [Int.natCast_add] at this
          have hl8 := at8_lt s (a + k)
          have hw3 : IntKind.i64.wrap ((be s a k : Int) * 256 + (at8 s (a + k) : Int)) = ((be s a (k + 1) : Nat) : Int) := by rw [IntKind.wrap_i64]; simp only [be]; omega
          have hw2 : IntKind.i64.wrap ((be s a k : Int) * 256) = ((be s a k * 256 : Nat) : Int) := by rw [IntKind.wrap_i64]; omega
          go_wp2_with fail
          go_quiet (fail)
          go_wp2_with fail
          exact ⟨⟨k + 1, m + nq, rfl, by go_num, by omega, rfl⟩, by simp [intOf]; omega⟩
        · go_wp2_with fail
          go_ret
          have e : k = n := by omega
          subst e
          exact ⟨be s a k, rfl, .inr rfl, a + k, false, (HR.out.drewN m).setAt (by omega), grownBy_trans (grownBy_drewN _ m _) (grownBy_setCell _ _ _ _), Ran.good (r := ((be s a k : Int), a + k)) (by unfold numB; rw [if_pos (by omega)])⟩
  · go_enter Tryz.func127, Tryz.ntmps127
    go_wp2_with fail
    go_quiet (fail)
    go_wp2_with fail
    go_ret
    exact ⟨0, rfl, .inl rfl, a, true, (HF.out nq).1, (HF.out nq).2, Ran.bad _ _⟩

theorem ext_cut (s : ByteArray) (i j : Nat) : s.extract i j = ⟨(cut s i j).toArray⟩ := by
  apply ByteArray.ext
  apply Array.ext'
  simp [cut, List.extract]
theorem slc (s : ByteArray) (i n : Nat) (hi : i + n ≤ s.size) (W : World) : (Instr.slice 9 (.string s) (some (.int .i64 (i : Int))) (some (.int .i64 ((i : Int) + (n : Int)))) none).run Tryz.prog W = .ok (.string ⟨(cut s i (i + n)).toArray⟩) W := by
  have hu : Tryz.prog.underlying 9 = some .string := by kernel_rfl
  have hr := run_slice_string (P := Tryz.prog) W 9 s .i64 .i64 (i : Int) ((i : Int) + (n : Int)) hu (by omega) (by omega) (by omega)
  rw [hr]
  have e1 : ((i : Int)).toNat = i := by omega
  have e2 : ((i : Int) + (n : Int)).toNat = i + n := by omega
  rw [e1, e2, ext_cut]

set_option maxRecDepth 10000 in
set_option maxHeartbeats 1000000 in
theorem textI (w : World) (r : Nat) (s : ByteArray) (a : Nat) (bad : Bool) (n : Nat) (hn : n ≤ 65535) (h : In w r s a bad) :
    Calls Tryz.prog 176 #[.pointer (some ⟨r, 0, none⟩), .int .i64 n] w fun e w' => ∃ x : ByteArray, e = .returned (.string x) ∧ Hid (x.size ≤ 512 ∧ OutI (pText s n) w w' r s a bad x) := by
  have HR := hide h
  have hs := h.small
  have ha := h.le
  have hcl := h.cell
  have hfr := h.frozen
  clear h
  have HF : Hid (∀ k, In ((w.drewN k).setCell ⟨r, 2, none⟩ (.bool true)) r s a true ∧ w.grownBy ((w.drewN k).setCell ⟨r, 2, none⟩ (.bool true)) (some r)) := fun k => ⟨(HR.out.drewN k).setBad true, grownBy_trans (grownBy_drewN _ k _) (grownBy_setCell _ _ _ _)⟩
  cases bad
  · by_cases hlt : s.size < a + n
    · have hd : decide ((s.size : Int) < (a : Int) + (n : Int)) = true := by simp; omega
      go_enter Tryz.func176, Tryz.ntmps176
      go_wp2_with fail
      go_quiet (fail)
      go_wp2_with fail
      go_ret
      exact ⟨⟨#[]⟩, rfl, by decide, a, true, (HF.out nq).1, (HF.out nq).2, Ran.fail (by unfold pText; rw [if_neg (by omega)]) _⟩
    · have hd : decide ((s.size : Int) < (a : Int) + (n : Int)) = false := by simp; omega
      have hsl := slc s a n (by omega)
      have hw1 : IntKind.i64.wrap ((a : Int) + (n : Int)) = (a : Int) + (n : Int) := by rw [IntKind.wrap_i64]; omega
      go_enter Tryz.func176, Tryz.ntmps176
      go_wp2_with fail
      go_quiet (fail)
      go_wp2_with fail
      go_quiet (fail)
      go_wp2_with fail
      go_ret
      refine ⟨_, rfl, ?_, a + n, false, (HR.out.drewN _).setAt (by omega), grownBy_trans (grownBy_drewN _ _ _) (grownBy_setCell _ _ _ _), Ran.good (r := ((⟨(cut s a (a + n)).toArray⟩ : ByteArray), a + n)) ?_⟩
      · show (cut s a (a + n)).toArray.size ≤ 512
        rw [List.size_toArray, cut_length (by omega)]
        omega
      · unfold pText
        rw [if_pos (by omega)]
  · go_enter Tryz.func176, Tryz.ntmps176
    go_wp2_with fail
    go_quiet (fail)
    go_wp2_with fail
    go_ret
    exact ⟨⟨#[]⟩, rfl, by decide, a, true, (HF.out nq).1, (HF.out nq).2, Ran.bad _ _⟩
end Go.Proofs.YtafoepfhepdcoaaGreat
