/- Reading a message. -/
import Derived.Test.YtafoepfhepdcoaaGreatUList
namespace Go.Proofs.YtafoepfhepdcoaaGreat
open Go.RowKit Go.Trawl

theorem and_pow (f k : Nat) : f &&& 2 ^ k = f / 2 ^ k % 2 * 2 ^ k := by
  have hb := Nat.testBit_eq_decide_div_mod_eq (x := f) (i := k)
  rcases Nat.mod_two_eq_zero_or_one (f / 2 ^ k) with h | h
  · rw [h] at hb ⊢
    refine Nat.eq_of_testBit_eq fun i => ?_
    rw [Nat.testBit_and, Nat.testBit_two_pow, Nat.zero_mul, Nat.zero_testBit]
    by_cases e : k = i
    · subst e; rw [hb]; simp
    · simp [e]
  · rw [h] at hb ⊢
    refine Nat.eq_of_testBit_eq fun i => ?_
    rw [Nat.testBit_and, Nat.testBit_two_pow, Nat.one_mul, Nat.testBit_two_pow]
    by_cases e : k = i
    · subst e; rw [hb]; simp
    · simp [e]
theorem and_bit {f : Nat} (hf : f ≤ 65535) (k : Nat) (hk : 2 ^ k ≤ 32768) : bits BinOp.and IntKind.u16 (f : Int) ((2 ^ k : Nat) : Int) = ((f / 2 ^ k % 2 * 2 ^ k : Nat) : Int) := by
  rw [u16_and_nat f (2 ^ k) (by omega) (by omega), and_pow]
theorem bit_set {f : Nat} (hf : f ≤ 65535) (k : Nat) (hk : 2 ^ k ≤ 32768) (hp : 0 < 2 ^ k) : (bits BinOp.and IntKind.u16 (f : Int) ((2 ^ k : Nat) : Int) != 0) = decide ((f : Int) / ((2 ^ k : Nat) : Int) % 2 = 1) := by
  rw [and_bit hf k hk]
  have h := Nat.mod_two_eq_zero_or_one (f / 2 ^ k)
  have e : (f : Int) / ((2 ^ k : Nat) : Int) % 2 = ((f / 2 ^ k % 2 : Nat) : Int) := by omega
  rw [e]
  rcases h with h | h
  · rw [h]; simp
  · rw [h, Nat.one_mul]
    have h2 : ((2 ^ k : Nat) : Int) ≠ 0 := by omega
    rw [show (((2 ^ k : Nat) : Int) != 0) = true from bne_iff_ne.2 h2]
    rfl
theorem and15 {f : Nat} (hf : f ≤ 65535) : bits BinOp.and IntKind.u16 (f : Int) 15 = (f : Int) % 16 := by
  have := u16_and_nat f 15 (by omega) (by omega)
  rw [show ((15 : Nat) : Int) = 15 from rfl] at this
  rw [this, show (15 : Nat) = 2 ^ 4 - 1 from rfl, Nat.and_two_pow_sub_one_eq_mod]
  omega
set_option maxRecDepth 10000 in
set_option maxHeartbeats 1000000 in
theorem unpackFlags_any (w : World) (p : Nat) (f : Nat) (hf : f ≤ 65535) (id : Int) (h : w.heap[p]? = some (.cells (msgCells ⟨id, false, 0, false, false, false, false, 0, [], [], [], []⟩ (.slice none 0 0) (.slice none 0 0) (.slice none 0 0) (.slice none 0 0)) 30)) :
    Calls Tryz.prog 68 #[.pointer (some ⟨p, 0, none⟩), .int .u16 f] w fun e w' => ∃ v, e = .returned v ∧ Hid (w'.heap[p]? = some (.cells (msgCells (flagged id f [] [] [] []) (.slice none 0 0) (.slice none 0 0) (.slice none 0 0) (.slice none 0 0)) 30) ∧ w.grownBy w' (some p)) := by
  have H := hide h
  have hc := box_cells h
  have hfz := frozen_of_block h
  simp only [msgCells] at hc
  clear h
  go_enter Tryz.func68, Tryz.ntmps68
  go_wp2_with fail
  go_end0
  refine ⟨_, rfl, ?_, ?_⟩
  · have e1 := bit_set hf 15 (by decide) (by decide)
    have e2 := bit_set hf 10 (by decide) (by decide)
    have e3 := bit_set hf 9 (by decide) (by decide)
    have e4 := bit_set hf 8 (by decide) (by decide)
    have e5 := bit_set hf 7 (by decide) (by decide)
    have e6 := and15 hf
    have e7 := and15 (f := f / 2048) (by omega)
    have c1 : ((f / 2048 : Nat) : Int) = (f : Int) / 2048 := by omega
    rw [c1] at e7
    simp only [Nat.reducePow] at e1 e2 e3 e4 e5
    rw [show ((32768 : Nat) : Int) = 32768 from rfl] at e1
    rw [show ((1024 : Nat) : Int) = 1024 from rfl] at e2
    rw [show ((512 : Nat) : Int) = 512 from rfl] at e3
    rw [show ((256 : Nat) : Int) = 256 from rfl] at e4
    rw [show ((128 : Nat) : Int) = 128 from rfl] at e5
    rw [e1, e2, e3, e4, e5, e6, e7]
    have w1 : wrap64 ((f : Int) / 2048 % 16) = (f : Int) / 2048 % 16 := by unfold wrap64; omega
    have w2 : wrap64 ((f : Int) % 16) = (f : Int) % 16 := by unfold wrap64; omega
    rw [w1, w2]
    rw [heap_setCell_eq (heap_setCell_eq (heap_setCell_eq (heap_setCell_eq (heap_setCell_eq (heap_setCell_eq (heap_setCell_eq H.out _) _) _) _) _) _) _]
    rfl
  · exact grownBy_trans (grownBy_trans (grownBy_trans (grownBy_trans (grownBy_trans (grownBy_trans (grownBy_setCell _ _ _ _) (grownBy_setCell _ _ _ _)) (grownBy_setCell _ _ _ _)) (grownBy_setCell _ _ _ _)) (grownBy_setCell _ _ _ _)) (grownBy_setCell _ _ _ _)) (grownBy_setCell _ _ _ _)
end Go.Proofs.YtafoepfhepdcoaaGreat
