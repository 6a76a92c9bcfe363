/- Contracts of the leaves: functions of plain values. -/
import Derived.Test.YtafoepfhepdcoaaGreatProg
import Derived.Test.YtafoepfhepdcoaaGreatSpec
import Derived.WalkKit
import Derived.WalkSpells
import Derived.WalkLawsBesides
import Derived.Outline
namespace Go.Proofs.YtafoepfhepdcoaaGreat
open Go.RowKit Go.Trawl

theorem ret_bool {a b : Bool} (h : a = b) : Ending.returned (.bool a) = .returned (.bool b) := by rw [h]
theorem ret_int {k : IntKind} {a b : Int} (h : a = b) : Ending.returned (.int k a) = .returned (.int k b) := by rw [h]

set_option maxHeartbeats 400000 in
theorem refFlag_any (b : Bool) (n : Int) (w : World) :
    Calls Tryz.prog 45 #[.bool b, .int .i64 n] w fun e w' => e = .returned (.int .i64 (bit b n)) ∧ w' = w := by
  cases b
  all_goals
    go_enter Tryz.func45, Tryz.ntmps45
    go_wp2
    go_ret
    exact ⟨rfl, rfl⟩

theorem named_or (n : Int) : (n == 2 || n == 5) = named n := by
  unfold named
  by_cases h : n = 2 <;> by_cases h' : n = 5 <;> simp [h, h']

set_option maxHeartbeats 400000 in
theorem isNamed_any (n : Int) (w : World) :
    Calls Tryz.prog 48 #[.int .u16 n] w fun e w' => e = .returned (.bool (named n)) ∧ w' = w := by
  have hn := named_or n
  have Hn : Hid ((n == 2 || n == 5) = named n) := hn
  clear hn
  go_enter Tryz.func48, Tryz.ntmps48
  go_wp2
  · go_ret
    exact ⟨ret_bool (by rw [← Hn.out]; simp [*]), rfl⟩
  · go_ret
    exact ⟨ret_bool Hn.out, rfl⟩

set_option maxHeartbeats 400000 in
theorem isNameType_any (n : Int) (w : World) :
    Calls Tryz.prog 141 #[.int .u16 n] w fun e w' => e = .returned (.bool (named n)) ∧ w' = w := by
  have hn := named_or n
  have Hn : Hid ((n == 2 || n == 5) = named n) := hn
  clear hn
  go_enter Tryz.func141, Tryz.ntmps141
  go_wp2
  · go_ret
    exact ⟨ret_bool (by rw [← Hn.out]; simp [*]), rfl⟩
  · go_ret
    exact ⟨ret_bool Hn.out, rfl⟩

/-- One step of the way through the labels, as the walk tells it. -/
theorem lab_next {s : ByteArray} {k : Nat} (h : k < s.size) (h1 : 0 < s[k].toNat) (h2 : (s[k].toNat : Int) ≤ 63) : behind s k = behind s (k + 1 + s[k].toNat) := by
  rw [at8_eq s k h] at *
  exact behind_next s k h h1 (by omega)
theorem lab_stop1 {s : ByteArray} {k : Nat} (h : k < s.size) (h2 : 63 < (s[k].toNat : Int)) : behind s k = k := by
  rw [at8_eq s k h] at *
  exact behind_stop s k (by omega)
theorem lab_stop2 {s : ByteArray} {k : Nat} (h : k < s.size) (h2 : ¬ 0 < s[k].toNat) : behind s k = k := by
  rw [at8_eq s k h] at *
  exact behind_stop s k (by omega)
theorem lab_stop3 {s : ByteArray} {k : Nat} (h : ¬ k < s.size) : behind s k = k := behind_stop s k (by omega)

theorem name_no {s : ByteArray} {k : Nat} (hb : behind s 0 = k) (h : ¬ (k : Int) = (s.size : Int) - 1) : nameB s = false := by
  unfold nameB
  rw [hb]
  simp only [decide_eq_false_iff_not]
  omega
theorem name_long {s : ByteArray} (h : ¬ s.size ≤ 255) : nameB s = false := by
  unfold nameB
  simp only [decide_eq_false_iff_not]
  omega
theorem name_yes {s : ByteArray} {k : Nat} (hb : behind s 0 = k) (hs : s.size ≤ 255) (hk : (k : Int) = (s.size : Int) - 1) (h : s.size - 1 < s.size) : ((s[s.size - 1].toNat : Int) == 0) = nameB s := by
  rw [at8_eq s (s.size - 1) h]
  have e : s.size - 1 = behind s 0 := by omega
  unfold nameB
  rw [e]
  by_cases h0 : at8 s (behind s 0) = 0
  · simp [h0]; omega
  · have : ¬ ((at8 s (behind s 0) : Int) = 0) := by omega
    simp [h0]

set_option maxHeartbeats 1000000 in
theorem refIsName_any (s : ByteArray) (w : World) (hs : s.size ≤ maxLen) :
    Calls Tryz.prog 47 #[.string s] w fun e w' => e = .returned (.bool (nameB s)) ∧ w' = w := by
  unfold maxLen at hs
  by_cases h : s.size ≤ 255
  · go_enter Tryz.func47, Tryz.ntmps47
    go_wp2
    go_loop [3] (fun i => ∃ k : Nat, i = .int .i64 k ∧ k ≤ 1000 ∧ Hid (behind s 0 = behind s k)) (fun i => s.size - (intOf i).toNat)
    case atStart => exact ⟨0, rfl, by omega, rfl⟩
    case round =>
      obtain ⟨k, rfl, hk, hb⟩ := hrel
      by_cases hlt : k < s.size
      · go_wp2
        · have h1 : 0 < s[k].toNat := by assumption
          have h2 : (s[k].toNat : Int) ≤ 63 := by assumption
          exact ⟨⟨k + 1 + s[k].toNat, by go_num, by omega, hb.out.trans (lab_next hlt h1 h2)⟩, by simp [intOf]; omega⟩
        · go_ret
          exact ⟨ret_bool (name_yes (hb.out.trans (lab_stop1 hlt (by assumption))) h (by assumption) (by omega)), rfl⟩
        · go_ret
          exact ⟨ret_bool (name_no (hb.out.trans (lab_stop1 hlt (by assumption))) (by assumption)).symm, rfl⟩
        · go_ret
          exact ⟨ret_bool (name_yes (hb.out.trans (lab_stop2 hlt (by assumption))) h (by assumption) (by omega)), rfl⟩
        · go_ret
          exact ⟨ret_bool (name_no (hb.out.trans (lab_stop2 hlt (by assumption))) (by assumption)).symm, rfl⟩
      · go_wp2
        go_ret
        exact ⟨ret_bool (name_no (hb.out.trans (lab_stop3 hlt)) (by assumption)).symm, rfl⟩
  · have HN : Hid (nameB s = false) := name_long h
    go_enter Tryz.func47, Tryz.ntmps47
    go_wp2
    go_ret
    exact ⟨ret_bool HN.out.symm, rfl⟩
end Go.Proofs.YtafoepfhepdcoaaGreat
