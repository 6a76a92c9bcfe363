/- How questions and records are built, and what '==' says of two. -/
import Derived.Test.YtafoepfhepdcoaaGreatLeaf
import Derived.Test.YtafoepfhepdcoaaGreatRead
import Derived.Laws.StructEq
namespace Go.Proofs.YtafoepfhepdcoaaGreat
open Go.RowKit Go.Trawl

theorem undQ : Tryz.prog.underlying 41 = some (.struct (Tryz.prog.fieldsOf 41)) := by kernel_rfl
theorem stQ : Tryz.prog.stoodInHeld 41 = false := by kernel_rfl
theorem egQ : Tryz.prog.eqGuardType Tryz.prog.depth 41 = false := by kernel_rfl
theorem undR : Tryz.prog.underlying 69 = some (.struct (Tryz.prog.fieldsOf 69)) := by kernel_rfl
theorem stR : Tryz.prog.stoodInHeld 69 = false := by kernel_rfl
theorem egR : Tryz.prog.eqGuardType Tryz.prog.depth 69 = false := by kernel_rfl

theorem equalQ (s t : ByteArray) (a b c d : Int) (W : World) : (Op.equalIn 10000 41 (.agg #[.string s, .int .u16 a, .int .u16 b]) (.agg #[.string t, .int .u16 c, .int .u16 d])).run Tryz.prog W = .ok (s.toList == t.toList && (a == c && b == d)) W := by
  rw [run_equalIn_struct W 9999 41 _ _ undQ stQ]
  simp only [Program.fieldsOf, Tryz.underlying41]
  go_simp
  by_cases h1 : s.toList = t.toList <;> by_cases h2 : a = c <;> by_cases h3 : b = d <;> simp [h1, h2, h3]
theorem equalR (s t s' t' : ByteArray) (a b c d e f : Int) (W : World) : (Op.equalIn 10000 69 (.agg #[.string s, .int .u16 a, .int .u16 b, .int .u32 c, .string t]) (.agg #[.string s', .int .u16 d, .int .u16 e, .int .u32 f, .string t'])).run Tryz.prog W = .ok (s.toList == s'.toList && (a == d && (b == e && (c == f && t.toList == t'.toList)))) W := by
  rw [run_equalIn_struct W 9999 69 _ _ undR stR]
  simp only [Program.fieldsOf, Tryz.underlying69]
  go_simp
  by_cases h1 : s.toList = s'.toList <;> by_cases h2 : a = d <;> by_cases h3 : b = e <;> by_cases h4 : c = f <;> by_cases h5 : t.toList = t'.toList <;> simp [h1, h2, h3, h4, h5]
theorem guardQ (op : BinOp) (x y : Operand) (xs ys : Array Value) (W : World) : (eqGuard op 41 x y (.agg xs) (.agg ys)).run Tryz.prog W = .ok () W := run_eqGuard_agg W op _ x y xs ys egQ
theorem guardR (op : BinOp) (x y : Operand) (xs ys : Array Value) (W : World) : (eqGuard op 69 x y (.agg xs) (.agg ys)).run Tryz.prog W = .ok () W := run_eqGuard_agg W op _ x y xs ys egR
theorem buildQ (s : ByteArray) (a : Int) (W : World) : (Instr.build 41 #[(0, .string s), (1, .int .u16 a)]).run Tryz.prog W = .ok (.agg #[.string s, .int .u16 a, .int .u16 0]) W := run_build W _ _ _ (by kernel_rfl)
theorem buildR (s : ByteArray) (a : Int) (W : World) : (Instr.build 69 #[(0, .string s), (3, .int .u32 a)]).run Tryz.prog W = .ok (.agg #[.string s, .int .u16 0, .int .u16 0, .int .u32 a, .string ⟨#[]⟩]) W := run_build W _ _ _ (by kernel_rfl)
theorem buildQ0 (W : World) : (Instr.build 41 #[]).run Tryz.prog W = .ok (.agg #[.string ⟨#[]⟩, .int .u16 0, .int .u16 0]) W := run_build W _ _ _ (by kernel_rfl)
theorem buildR0 (W : World) : (Instr.build 69 #[]).run Tryz.prog W = .ok (.agg #[.string ⟨#[]⟩, .int .u16 0, .int .u16 0, .int .u32 0, .string ⟨#[]⟩]) W := run_build W _ _ _ (by kernel_rfl)
end Go.Proofs.YtafoepfhepdcoaaGreat
