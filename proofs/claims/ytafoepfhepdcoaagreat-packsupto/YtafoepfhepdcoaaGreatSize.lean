/- Contracts: how many bytes a message has. -/
import Derived.Test.YtafoepfhepdcoaaGreatLeaf
import Derived.Deep.QuietTactic
import Derived.BigQuiet
namespace Go.Proofs.YtafoepfhepdcoaaGreat
open Go.RowKit Go.Trawl

theorem lab_next' {s : ByteArray} {k : Nat} (h : k < s.size) (h1 : 1 ≤ (s[k].toNat : Int)) (h2 : (s[k].toNat : Int) ≤ 63) : behind s k = behind s (k + (1 + s[k].toNat)) := by
  rw [← Nat.add_assoc]; exact lab_next h (by omega) h2
theorem lab_stop2' {s : ByteArray} {k : Nat} (h : k < s.size) (h2 : (s[k].toNat : Int) < 1) : behind s k = k := lab_stop2 h (by omega)
theorem ret_nat {a b : Nat} (h : a = b) : Ending.returned (.int .i64 (a : Int)) = .returned (.int .i64 (b : Int)) := by rw [h]

set_option maxHeartbeats 1000000 in
theorem behS_any (s : ByteArray) (w : World) (hs : s.size ≤ 255) :
    Calls Tryz.prog 167 #[.string s, .int .i64 0] w fun e w' => e = .returned (.int .i64 (behind s 0)) ∧ w' = w := by
  go_enter Tryz.func167, Tryz.ntmps167
  go_wp2
  go_loop [1] (fun i => ∃ k : Nat, i = .int .i64 k ∧ k ≤ 1000 ∧ Hid (behind s 0 = behind s k)) (fun i => s.size - (intOf i).toNat)
  case atStart => exact ⟨0, rfl, by omega, rfl⟩
  case round =>
    obtain ⟨k, rfl, hk, hb⟩ := hrel
    by_cases hlt : k < s.size
    · go_wp2
      · have h1 : 1 ≤ (s[k].toNat : Int) := by assumption
        have h2 : (s[k].toNat : Int) ≤ 63 := by assumption
        exact ⟨⟨k + (1 + s[k].toNat), by go_num, by omega, hb.out.trans (lab_next' hlt h1 h2)⟩, by simp [intOf]; omega⟩
      · go_ret
        exact ⟨ret_nat (hb.out.trans (lab_stop1 hlt (by assumption))).symm, rfl⟩
      · go_ret
        exact ⟨ret_nat (hb.out.trans (lab_stop2' hlt (by assumption))).symm, rfl⟩
    · go_wp2
      go_ret
      exact ⟨ret_nat (hb.out.trans (lab_stop3 hlt)).symm, rfl⟩

set_option maxHeartbeats 1000000 in
theorem isName_any (s : ByteArray) (w : World) (hs : s.size ≤ maxLen) :
    Calls Tryz.prog 140 #[.string s] w fun e w' => e = .returned (.bool (nameB s)) ∧ w' = w := by
  unfold maxLen at hs
  by_cases h : s.size ≤ 255
  · by_cases hb : (behind s 0 : Int) = (s.size : Int) - 1
    · have h1 : 1 ≤ s.size := by omega
      have hlt : s.size - 1 < s.size := Nat.sub_lt h1 Nat.one_pos
      have HY : Hid (((s[s.size - 1].toNat : Int) == 0) = nameB s) := name_yes rfl h hb hlt
      have hbb : ((behind s 0 : Int) == (s.size : Int) - 1) = true := by simpa using hb
      clear hb
      go_enter Tryz.func140, Tryz.ntmps140
      go_wp2_with (go_at_call 167; refine (behS_any _ _ h).mono ?_; rintro e w' ⟨rfl, rfl⟩)
      go_ret
      exact ⟨ret_bool HY.out, rfl⟩
    · have HN : Hid (nameB s = false) := name_no rfl hb
      have hbb : ((behind s 0 : Int) == (s.size : Int) - 1) = false := by simpa using hb
      clear hb
      go_enter Tryz.func140, Tryz.ntmps140
      go_wp2_with (go_at_call 167; refine (behS_any _ _ h).mono ?_; rintro e w' ⟨rfl, rfl⟩)
      go_ret
      exact ⟨ret_bool HN.out.symm, rfl⟩
  · have HN : Hid (nameB s = false) := name_long h
    go_enter Tryz.func140, Tryz.ntmps140
    go_wp2
    go_ret
    exact ⟨ret_bool HN.out.symm, rfl⟩

set_option maxHeartbeats 400000 in
theorem flag_any (b : Bool) (n : Int) (w : World) :
    Calls Tryz.prog 97 #[.bool b, .int .u16 n] w fun e w' => e = .returned (.int .u16 (bit b n)) ∧ w' = w := by
  cases b
  all_goals
    go_enter Tryz.func97, Tryz.ntmps97
    go_wp2
    go_ret
    exact ⟨rfl, rfl⟩

set_option maxHeartbeats 400000 in
theorem countQ_any (a : Option Addr) (n c : Nat) (hn : n ≤ 65535) (w : World) :
    Calls Tryz.prog 62 #[.slice a n c] w fun e w' => e = .returned (.int .u16 n) ∧ w' = w := by
  go_enter Tryz.func62, Tryz.ntmps62
  go_wp2
  go_ret
  exact ⟨ret_int (by omega), rfl⟩
set_option maxHeartbeats 400000 in
theorem countR_any (a : Option Addr) (n c : Nat) (hn : n ≤ 65535) (w : World) :
    Calls Tryz.prog 63 #[.slice a n c] w fun e w' => e = .returned (.int .u16 n) ∧ w' = w := by
  go_enter Tryz.func63, Tryz.ntmps63
  go_wp2
  go_ret
  exact ⟨ret_int (by omega), rfl⟩

/-- What withQuestion answers. -/
def withQ (size : Int) (q : Qn) : Value := if nameB q.name then .tuple #[.int .i64 (size + (q.name.size + 4)), .bool (decide (size + (q.name.size + 4) ≤ 512))] else .tuple #[.int .i64 0, .bool false]

set_option maxHeartbeats 400000 in
theorem withQ_any (size : Int) (s : ByteArray) (k c : Int) (w : World) (h0 : 0 ≤ size) (h1 : size ≤ 512) (hs : s.size ≤ maxLen) :
    Calls Tryz.prog 95 #[.int .i64 size, .agg #[.string s, .int .u16 k, .int .u16 c]] w fun e w' => e = .returned (withQ size ⟨s, k, c⟩) ∧ Below w.heap.size w w' := by
  by_cases hn : nameB s = true
  · have hz := nameB_size hn
    have HQ : Hid (withQ size ⟨s, k, c⟩ = .tuple #[.int .i64 (size + (s.size + 4)), .bool (decide (size + (s.size + 4) ≤ 512))]) := by unfold withQ; rw [if_pos hn]; rfl
    go_enter Tryz.func95, Tryz.ntmps95
    go_wp2_with (go_at_call 140; refine (isName_any _ _ hs).mono ?_; rintro e w' ⟨rfl, rfl⟩)
    go_ret2
    exact ⟨by rw [HQ.out]; rfl, (Below.refl _ _).alloc (Nat.le_refl _) _⟩
  · have hn' : nameB s = false := by simpa using hn
    clear hn
    have HQ : Hid (withQ size ⟨s, k, c⟩ = .tuple #[.int .i64 0, .bool false]) := by unfold withQ; rw [hn']; rfl
    go_enter Tryz.func95, Tryz.ntmps95
    go_wp2_with (go_at_call 140; refine (isName_any _ _ hs).mono ?_; rintro e w' ⟨rfl, rfl⟩)
    go_ret2
    exact ⟨by rw [HQ.out]; rfl, (Below.refl _ _).alloc (Nat.le_refl _) _⟩

/-- What withRecord answers. -/
def withR (size : Int) (r : Rc) : Value :=
  if okR r && decide (r.data.size ≤ 512) then .tuple #[.int .i64 (size + (r.name.size + 10 + r.data.size)), .bool (decide (size + (r.name.size + 10 + r.data.size) ≤ 512))] else .tuple #[.int .i64 0, .bool false]

set_option maxHeartbeats 1000000 in
theorem withR_any (size : Int) (s : ByteArray) (k c t : Int) (d : ByteArray) (w : World) (h0 : 0 ≤ size) (h1 : size ≤ 512) (hs : s.size ≤ maxLen) (hd : d.size ≤ maxLen) :
    Calls Tryz.prog 96 #[.int .i64 size, .agg #[.string s, .int .u16 k, .int .u16 c, .int .u32 t, .string d]] w fun e w' => e = .returned (withR size ⟨s, k, c, t, d⟩) ∧ Below w.heap.size w w' := by
  have hd' : d.size ≤ 9223372036854775807 := by unfold maxLen at hd; omega
  cases hn : nameB s with
  | false =>
    have HQ : Hid (withR size ⟨s, k, c, t, d⟩ = .tuple #[.int .i64 0, .bool false]) := by show _ = _; unfold withR okR; simp [hn]
    go_enter Tryz.func96, Tryz.ntmps96
    go_wp2_with (go_at_call 140; refine (isName_any _ _ hs).mono ?_; rintro e w' ⟨rfl, rfl⟩)
    go_ret2
    exact ⟨by rw [HQ.out]; rfl, (Below.refl _ _).alloc (Nat.le_refl _) _⟩
  | true =>
    have hz := nameB_size hn
    by_cases hb : d.size ≤ 512
    · cases hk : named k with
      | false =>
        have HQ : Hid (withR size ⟨s, k, c, t, d⟩ = .tuple #[.int .i64 (size + (s.size + 10 + d.size)), .bool (decide (size + (s.size + 10 + d.size) ≤ 512))]) := by show _ = _; unfold withR okR; simp [hn, hb, hk]
        go_enter Tryz.func96, Tryz.ntmps96
        go_wp2_with (first | (go_at_call 140; refine (isName_any _ _ hs).mono ?_; rintro e w' ⟨rfl, rfl⟩) | (go_at_call 141; refine (isNameType_any _ _).mono ?_; rintro e w' ⟨rfl, rfl⟩))
        go_ret2
        exact ⟨by rw [HQ.out]; rfl, (Below.refl _ _).alloc (Nat.le_refl _) _⟩
      | true =>
        cases hm : nameB d with
        | false =>
          have HQ : Hid (withR size ⟨s, k, c, t, d⟩ = .tuple #[.int .i64 0, .bool false]) := by show _ = _; unfold withR okR; simp [hm, hk]
          go_enter Tryz.func96, Tryz.ntmps96
          go_wp2_with fail
          refine (isName_any _ _ hs).mono ?_
          rintro e w' ⟨rfl, rfl⟩
          go_wp2_with (go_at_call 141; refine (isNameType_any _ _).mono ?_; rintro e w' ⟨rfl, rfl⟩)
          refine (isName_any _ _ hd).mono ?_
          rintro e w' ⟨rfl, rfl⟩
          go_wp2
          go_ret2
          exact ⟨by rw [HQ.out]; rfl, (Below.refl _ _).alloc (Nat.le_refl _) _⟩
        | true =>
          have HQ : Hid (withR size ⟨s, k, c, t, d⟩ = .tuple #[.int .i64 (size + (s.size + 10 + d.size)), .bool (decide (size + (s.size + 10 + d.size) ≤ 512))]) := by show _ = _; unfold withR okR; simp [hn, hb, hm]
          go_enter Tryz.func96, Tryz.ntmps96
          go_wp2_with fail
          refine (isName_any _ _ hs).mono ?_
          rintro e w' ⟨rfl, rfl⟩
          go_wp2_with (go_at_call 141; refine (isNameType_any _ _).mono ?_; rintro e w' ⟨rfl, rfl⟩)
          refine (isName_any _ _ hd).mono ?_
          rintro e w' ⟨rfl, rfl⟩
          go_wp2
          go_ret2
          exact ⟨by rw [HQ.out]; rfl, (Below.refl _ _).alloc (Nat.le_refl _) _⟩
    · have HQ : Hid (withR size ⟨s, k, c, t, d⟩ = .tuple #[.int .i64 0, .bool false]) := by show _ = _; unfold withR; simp [hb]
      go_enter Tryz.func96, Tryz.ntmps96
      go_wp2_with (go_at_call 140; refine (isName_any _ _ hs).mono ?_; rintro e w' ⟨rfl, rfl⟩)
      go_ret2
      exact ⟨by rw [HQ.out]; rfl, (Below.refl _ _).alloc (Nat.le_refl _) _⟩

/-- The flags as the program lays them together. -/
theorem flags_fin : ∀ (op code : Fin 16) (r o c wt a : Bool),
    bits BinOp.or IntKind.u16 (bits BinOp.or IntKind.u16 (bits BinOp.or IntKind.u16 (bits BinOp.or IntKind.u16 (bits BinOp.or IntKind.u16 (bits BinOp.or IntKind.u16 (bit r 32768) ((op.val : Int) * 2048)) (bit o 1024)) (bit c 512)) (bit wt 256)) (bit a 128)) (code.val : Int)
      = bit r 32768 + 2048 * (op.val : Int) + bit o 1024 + bit c 512 + bit wt 256 + bit a 128 + (code.val : Int) := by
  decide +kernel

theorem flags_or (op code : Int) (r o c wt a : Bool) (h0 : 0 ≤ op) (h1 : op ≤ 15) (h2 : 0 ≤ code) (h3 : code ≤ 15) :
    bits BinOp.or IntKind.u16 (bits BinOp.or IntKind.u16 (bits BinOp.or IntKind.u16 (bits BinOp.or IntKind.u16 (bits BinOp.or IntKind.u16 (bits BinOp.or IntKind.u16 (bit r 32768) (op * 2048)) (bit o 1024)) (bit c 512)) (bit wt 256)) (bit a 128)) code
      = bit r 32768 + 2048 * op + bit o 1024 + bit c 512 + bit wt 256 + bit a 128 + code := by
  have := flags_fin ⟨op.toNat, by omega⟩ ⟨code.toNat, by omega⟩ r o c wt a
  simp only [Int.toNat_of_nonneg h0, Int.toNat_of_nonneg h2] at this
  exact this

set_option maxHeartbeats 1000000 in
theorem packFlags_any (id op code : Int) (r o c wt a : Bool) (q1 q2 q3 q4 : Value) (w : World) (h0 : 0 ≤ op) (h1 : op ≤ 15) (h2 : 0 ≤ code) (h3 : code ≤ 15) :
    Calls Tryz.prog 61 #[.agg #[.int .u16 id, .bool r, .int .i64 op, .bool o, .bool c, .bool wt, .bool a, .int .i64 code, q1, q2, q3, q4]] w fun e w' => e = .returned (.int .u16 (bit r 32768 + 2048 * op + bit o 1024 + bit c 512 + bit wt 256 + bit a 128 + code)) ∧ ∃ n, w' = (w.alloc (.cells #[.int .u16 id, .bool r, .int .i64 op, .bool o, .bool c, .bool wt, .bool a, .int .i64 code, q1, q2, q3, q4] 30)).drewN n := by
  have HF : Hid _ := flags_or op code r o c wt a h0 h1 h2 h3
  go_enter Tryz.func61, Tryz.ntmps61
  go_wp2
  go_quiet ((go_at_call 97; exact Calls.quiet_of_same (flag_any _ _ _)))
  go_wp2
  go_ret
  exact ⟨ret_int HF.out, _, rfl⟩
end Go.Proofs.YtafoepfhepdcoaaGreat
