/- Contracts of the reference's small functions. -/
import Derived.Test.YtafoepfhepdcoaaGreatLeaf
import Derived.Test.YtafoepfhepdcoaaGreatRead
import Derived.Lib.QuietBelow
namespace Go.Proofs.YtafoepfhepdcoaaGreat
open Go.RowKit Go.Trawl

theorem und_bytes' : Tryz.prog.underlying 32 = some (.slice 5) := by kernel_rfl
theorem und_u8' : Tryz.prog.underlying 5 = some (.int .u8) := by kernel_rfl
theorem und_string' : Tryz.prog.underlying 9 = some .string := by kernel_rfl

/-- Bytes as a string. -/
def str (l : List UInt8) : ByteArray := ⟨l.toArray⟩

theorem conv2 (w : World) (a b : Int) : (convert 32 9 (.slice (some ⟨w.heap.size, 0, none⟩) 2 2)).run Tryz.prog (w.alloc (.cells #[.int .u8 a, .int .u8 b] 5)) = .ok (.string (str [UInt8.ofNat a.toNat, UInt8.ofNat b.toNat])) (w.alloc (.cells #[.int .u8 a, .int .u8 b] 5)) := by
  rw [run_convert_bytes_string _ _ _ 5 _ _ _ und_bytes' und_u8' und_string']
  refine run_bytesToString _ _ 2 2 [a, b] ?_
  exact run_loadCells_list _ ⟨w.heap.size, 0, none⟩ [.int .u8 a, .int .u8 b] (cell_two_new _ _ _ _)

set_option maxRecDepth 10000 in
set_option maxHeartbeats 400000 in
theorem two_any (n : Int) (h0 : 0 ≤ n) (h1 : n ≤ 4194304) (w : World) :
    Calls Tryz.prog 46 #[.int .i64 n] w fun e w' => e = .returned (.string (str (two n))) ∧ Below w.heap.size w w' := by
  have hc := conv2 w
  go_enter Tryz.func46, Tryz.ntmps46
  go_wp2
  go_ret
  exact ⟨rfl, (Below.refl _ _).alloc (Nat.le_refl _) _⟩

theorem str_append (a b : List UInt8) : str a ++ str b = str (a ++ b) := by
  apply ByteArray.ext
  simp [str]
theorem str_size (a : List UInt8) : (str a).size = a.length := rfl

theorem tdiv32 {n : Int} (h0 : 0 ≤ n) (h1 : n ≤ 4294967295) : n.tdiv 65536 % 4294967296 = n / 65536 := by
  rw [Int.tdiv_eq_ediv_of_nonneg h0]; omega

set_option maxRecDepth 10000 in
set_option maxHeartbeats 400000 in
theorem four_any (n : Int) (h0 : 0 ≤ n) (h1 : n ≤ 4294967295) (w : World) :
    Calls Tryz.prog 49 #[.int .u32 n] w fun e w' => e = .returned (.string (str (two (n / 65536) ++ two (n % 65536)))) ∧ Below w.heap.size w w' := by
  have H1 : Hid (n ≤ 4294967295) := h1
  clear h1
  go_enter Tryz.func49, Tryz.ntmps49
  go_wp2_with fail
  rw [tdiv32 h0 H1.out]
  refine (two_any _ (by omega) (by have := H1.out; omega) _).mono ?_
  rintro e w1 ⟨rfl, hb1⟩
  have hz1 := hb1.size
  go_wp2_with fail
  refine (two_any _ (by omega) (by omega) _).mono ?_
  rintro e w2 ⟨rfl, hb2⟩
  have hs1 : (str (two (n / 65536))).size = 2 := rfl
  have hs2 : (str (two (n % 65536))).size = 2 := rfl
  go_wp2_with fail
  go_ret
  exact ⟨by rw [← str_append]; rfl, hb1.trans (hb2.mono (by omega))⟩
end Go.Proofs.YtafoepfhepdcoaaGreat
