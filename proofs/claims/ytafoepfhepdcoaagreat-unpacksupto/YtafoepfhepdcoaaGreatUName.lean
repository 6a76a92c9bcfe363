/- Reading a name. -/
import Derived.Test.YtafoepfhepdcoaaGreatUSpec
import Derived.Test.YtafoepfhepdcoaaGreatLeaf
import Derived.Test.YtafoepfhepdcoaaGreatRef
import Derived.BigQuiet
import Derived.Deep.QuietTactic
import Derived.WalkMore
import Derived.ScopeJumps
namespace Go.Proofs.YtafoepfhepdcoaaGreat
open Go.RowKit Go.Trawl

/-- A block holds these bytes. -/
def Bytes (w : World) (b : Nat) (s : ByteArray) : Prop := ∀ k, k < s.size → w.cell? ⟨b, k, none⟩ = some (.int .u8 (at8 s k))

set_option maxHeartbeats 1000000 in
theorem behindB (w : World) (b c : Nat) (s : ByteArray) (a0 : Nat) (hs : s.size ≤ 512) (ha : a0 ≤ 1000) (hc : Bytes w b s) :
    Calls Tryz.prog 168 #[.slice (some ⟨b, 0, none⟩) s.size c, .int .i64 a0] w fun e w' => e = .returned (.int .i64 (behind s a0)) ∧ w' = w := by
  have HC := hide hc
  clear hc
  go_enter Tryz.func168, Tryz.ntmps168
  go_wp2
  go_loop [1] (fun i => ∃ k : Nat, i = .int .i64 k ∧ k ≤ 1000 ∧ Hid (behind s a0 = behind s k)) (fun i => 2000 - (intOf i).toNat)
  case atStart => exact ⟨a0, rfl, ha, rfl⟩
  case round =>
    obtain ⟨k, rfl, hk, hb⟩ := hrel
    by_cases hlt : k < s.size
    · have hcell := HC.out k hlt
      have hl8 := at8_lt s k
      by_cases h1 : 0 < at8 s k
      · by_cases h2 : at8 s k ≤ 63
        · have HE : Hid (behind s k = behind s (k + 1 + at8 s k)) := behind_next s k hlt h1 h2
          go_wp2
          exact ⟨⟨k + 1 + at8 s k, by go_num, by omega, hb.out.trans HE.out⟩, by simp [intOf]; omega⟩
        · have HE : Hid (behind s k = k) := behind_stop s k (by omega)
          go_wp2
          go_ret
          exact ⟨ret_int (by rw [hb.out, HE.out]), rfl⟩
      · have HE : Hid (behind s k = k) := behind_stop s k (by omega)
        go_wp2
        go_ret
        exact ⟨ret_int (by rw [hb.out, HE.out]), rfl⟩
    · have HE : Hid (behind s k = k) := behind_stop s k (by omega)
      go_wp2
      go_ret
      exact ⟨ret_int (by rw [hb.out, HE.out]), rfl⟩

set_option maxHeartbeats 1000000 in
theorem behindPiece_any (w : World) (i : Nat) (p : Bool) (hi : i ≤ 512) :
    Calls Tryz.prog 170 #[.int .i64 i, .bool p] w fun e w' => e = .returned (.int .i64 ((if p then i + 2 else i + 1 : Nat) : Int)) ∧ w' = w := by
  cases p
  all_goals
    go_enter Tryz.func170, Tryz.ntmps170
    go_wp2
    go_ret
    exact ⟨rfl, rfl⟩

def isPtr (s : ByteArray) (i : Nat) : Bool := decide (i + 1 < s.size ∧ 192 ≤ at8 s i)
set_option maxHeartbeats 1000000 in
theorem pointerAt_at (w : World) (b c : Nat) (s : ByteArray) (i : Nat) (hs : s.size ≤ 512) (hi : i < s.size) (hc : Bytes w b s) (v : Int) (p : Bool) (hp : Hid (isPtr s i = p)) (hv : Hid (v = if isPtr s i then (ptr s i : Int) else 0)) :
    Calls Tryz.prog 169 #[.slice (some ⟨b, 0, none⟩) s.size c, .int .i64 i] w fun e w' =>
      e = .returned (.tuple #[.int .i64 v, .bool p]) ∧ ∃ n, w' = w.drewN n := by
  have h0 := hc i hi
  have hl8 := at8_lt s i
  by_cases h1 : i + 1 < s.size
  · have h2 := hc (i + 1) h1
    have hl9 := at8_lt s (i + 1)
    clear hc
    by_cases h3 : 192 ≤ at8 s i
    · have HP : Hid (true = p) := (show isPtr s i = true from decide_eq_true ⟨h1, h3⟩).symm.trans hp.out
      have HV : Hid ((at8 s i : Int) * 256 + (at8 s (i + 1) : Int) - 49152 = v) := by
        unfold Hid
        rw [hv.out, if_pos (show isPtr s i = true from decide_eq_true ⟨h1, h3⟩)]
        unfold ptr
        omega
      clear hp hv
      go_enter Tryz.func169, Tryz.ntmps169
      go_wp2_with fail
      go_quiet (fail)
      go_wp2_with fail
      go_ret2
      exact ⟨by rw [← HV.out, ← HP.out]; rfl, nq, rfl⟩
    · have HP : Hid (false = p) := (show isPtr s i = false from decide_eq_false (by omega)).symm.trans hp.out
      have HV : Hid (0 = v) := by
        unfold Hid
        rw [hv.out, if_neg (by rw [show isPtr s i = false from decide_eq_false (by omega)]; decide)]
      clear hp hv
      go_enter Tryz.func169, Tryz.ntmps169
      go_wp2_with fail
      go_ret2
      exact ⟨by rw [← HV.out, ← HP.out]; rfl, 0, rfl⟩
  · clear hc
    have HP : Hid (false = p) := (show isPtr s i = false from decide_eq_false (by omega)).symm.trans hp.out
    have HV : Hid (0 = v) := by
      unfold Hid
      rw [hv.out, if_neg (by rw [show isPtr s i = false from decide_eq_false (by omega)]; decide)]
    clear hp hv
    go_enter Tryz.func169, Tryz.ntmps169
    go_wp2_with fail
    go_ret2
    exact ⟨by rw [← HV.out, ← HP.out]; rfl, 0, rfl⟩
end Go.Proofs.YtafoepfhepdcoaaGreat
