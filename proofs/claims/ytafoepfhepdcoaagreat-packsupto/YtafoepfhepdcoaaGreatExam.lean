/- example: the document's examples, as a script. -/
import Derived.Test.YtafoepfhepdcoaaGreatUpTo
import Derived.Great.BuildSlice
namespace Go.Proofs.YtafoepfhepdcoaaGreat
open Go.RowKit Go.Trawl

def nilE : Value := .slice none 0 0
def zM : Msg := ⟨0, false, 0, false, false, false, false, 0, [], [], [], []⟩
def nmA : ByteArray := ⟨#[1, 97, 0]⟩
def mQ : Msg := ⟨1, false, 0, false, false, false, false, 0, [⟨nmA, 1, 1⟩], [], [], []⟩
def mR : Msg := ⟨1, true, 0, true, false, false, false, 0, [⟨nmA, 1, 1⟩], [⟨nmA, 1, 1, 0, ⟨#[1, 2, 3, 4]⟩⟩], [], []⟩
def m16 : Msg := ⟨0, false, 16, false, false, false, false, 0, [], [], [], []⟩
def opM (k : Int) (m : Msg) (vq va vu vx : Value) : OpV := ⟨k, 0, m, vq, va, vu, vx, ⟨#[]⟩, 0, 0, 0, 0, 0, .slice none 0 0, []⟩
def opS (k f : Int) (s : ByteArray) : OpV := ⟨k, 0, zM, .slice none 0 0, .slice none 0 0, .slice none 0 0, .slice none 0 0, s, f, 0, 0, 0, 0, .slice none 0 0, []⟩
def opC (b d c t : Int) (vr : Value) (rs : List Int) : OpV := ⟨3, 0, zM, .slice none 0 0, .slice none 0 0, .slice none 0 0, .slice none 0 0, ⟨#[]⟩, 0, b, d, c, t, vr, rs⟩

theorem buildQ3 (s : ByteArray) (a b : Int) (W : World) : (Instr.build 41 #[(0, .string s), (1, .int .u16 a), (2, .int .u16 b)]).run Tryz.prog W = .ok (.agg #[.string s, .int .u16 a, .int .u16 b]) W := run_build W _ _ _ (by kernel_rfl)
theorem buildR4 (s t : ByteArray) (a b : Int) (W : World) : (Instr.build 69 #[(0, .string s), (1, .int .u16 a), (2, .int .u16 b), (4, .string t)]).run Tryz.prog W = .ok (.agg #[.string s, .int .u16 a, .int .u16 b, .int .u32 0, .string t]) W := run_build W _ _ _ (by kernel_rfl)
theorem buildM1 (i : Int) (a : Option Addr) (n c : Nat) (W : World) : (Instr.build 30 #[(0, .int .u16 i), (8, .slice a n c)]).run Tryz.prog W = .ok (.agg #[.int .u16 i, .bool false, .int .i64 0, .bool false, .bool false, .bool false, .bool false, .int .i64 0, .slice a n c, .slice none 0 0, .slice none 0 0, .slice none 0 0]) W := run_build W _ _ _ (by kernel_rfl)
theorem buildM16 (i : Int) (W : World) : (Instr.build 30 #[(2, .int .i64 i)]).run Tryz.prog W = .ok (.agg #[.int .u16 0, .bool false, .int .i64 i, .bool false, .bool false, .bool false, .bool false, .int .i64 0, .slice none 0 0, .slice none 0 0, .slice none 0 0, .slice none 0 0]) W := run_build W _ _ _ (by kernel_rfl)
theorem buildC5 (x y z t : Int) (a : Option Addr) (n c : Nat) (W : World) : (Instr.build 57 #[(0, .int .i64 x), (1, .int .i64 y), (2, .int .i64 z), (3, .int .i64 t), (4, .slice a n c)]).run Tryz.prog W = .ok (.agg #[.int .i64 x, .int .i64 y, .int .i64 z, .int .i64 t, .slice a n c]) W := run_build W _ _ _ (by kernel_rfl)
theorem buildOM (k i o d : Int) (r w' c' w2 ab : Bool) (a1 a2 a3 a4 : Option Addr) (n1 n2 n3 n4 c1 c2 c3 c4 : Nat) (q : List Qn) (x y z : List Rc) (W : World) :
    (Instr.build 79 #[(0, .int .i64 k), (2, .agg #[.int .u16 i, .bool r, .int .i64 o, .bool w', .bool c', .bool w2, .bool ab, .int .i64 d, .slice a1 n1 c1, .slice a2 n2 c2, .slice a3 n3 c3, .slice a4 n4 c4])]).run Tryz.prog W =
      .ok (.agg (opM k ⟨i, r, o, w', c', w2, ab, d, q, x, y, z⟩ (.slice a1 n1 c1) (.slice a2 n2 c2) (.slice a3 n3 c3) (.slice a4 n4 c4)).arr) W := run_build W _ _ _ (by kernel_rfl)
theorem buildOQ (a1 : Option Addr) (n1 c1 : Nat) (W : World) : (Instr.build 79 #[(0, .int .i64 1), (2, .agg #[.int .u16 1, .bool false, .int .i64 0, .bool false, .bool false, .bool false, .bool false, .int .i64 0, .slice a1 n1 c1, .slice none 0 0, .slice none 0 0, .slice none 0 0])]).run Tryz.prog W =
      .ok (.agg (opM 1 mQ (.slice a1 n1 c1) (.slice none 0 0) (.slice none 0 0) (.slice none 0 0)).arr) W := run_build W _ _ _ (by kernel_rfl)
theorem buildOR (a1 a2 : Option Addr) (n1 c1 n2 c2 : Nat) (W : World) : (Instr.build 79 #[(0, .int .i64 1), (2, .agg #[.int .u16 1, .bool true, .int .i64 0, .bool true, .bool false, .bool false, .bool false, .int .i64 0, .slice a1 n1 c1, .slice a2 n2 c2, .slice none 0 0, .slice none 0 0])]).run Tryz.prog W =
      .ok (.agg (opM 1 mR (.slice a1 n1 c1) (.slice a2 n2 c2) (.slice none 0 0) (.slice none 0 0)).arr) W := run_build W _ _ _ (by kernel_rfl)
theorem buildO16 (W : World) : (Instr.build 79 #[(0, .int .i64 1), (2, .agg #[.int .u16 0, .bool false, .int .i64 16, .bool false, .bool false, .bool false, .bool false, .int .i64 0, .slice none 0 0, .slice none 0 0, .slice none 0 0, .slice none 0 0])]).run Tryz.prog W =
      .ok (.agg (opM 1 m16 (.slice none 0 0) (.slice none 0 0) (.slice none 0 0) (.slice none 0 0)).arr) W := run_build W _ _ _ (by kernel_rfl)
theorem buildOS (k : Int) (s : ByteArray) (W : World) : (Instr.build 79 #[(0, .int .i64 k), (3, .string s)]).run Tryz.prog W = .ok (.agg (opS k 0 s).arr) W := run_build W _ _ _ (by kernel_rfl)
theorem buildOF (k f : Int) (s : ByteArray) (W : World) : (Instr.build 79 #[(0, .int .i64 k), (4, .int .u32 f), (3, .string s)]).run Tryz.prog W = .ok (.agg (opS k f s).arr) W := run_build W _ _ _ (by kernel_rfl)
theorem buildO0 (k : Int) (W : World) : (Instr.build 79 #[(0, .int .i64 k)]).run Tryz.prog W = .ok (.agg (opS k 0 ⟨#[]⟩).arr) W := run_build W _ _ _ (by kernel_rfl)
theorem buildOC (b d x t : Int) (a : Option Addr) (n c : Nat) (W : World) : (Instr.build 79 #[(0, .int .i64 3), (5, .agg #[.int .i64 b, .int .i64 d, .int .i64 x, .int .i64 t, .slice a n c])]).run Tryz.prog W = .ok (.agg (opC b d x t (.slice a n c) [7]).arr) W := run_build W _ _ _ (by kernel_rfl)

theorem oI3 : (Tryz.prog.info? 79).map (fun i => (i.zero, i.size, i.bytes)) = some (some (.agg (opS 0 0 ⟨#[]⟩).arr), 21, 224) := by kernel_rfl
theorem uO : Tryz.prog.underlying 22 = some (.slice 79) := by kernel_rfl
theorem fill14 (o0 o1 o2 o3 o4 o5 o6 o7 o8 o9 o10 o11 o12 o13 : OpV) :
    Instr.fill (fun i => some (i * 21, 21)) ((Array.range (14 * 21)).map ((Value.agg (opS 0 0 ⟨#[]⟩).arr).cells[· % (Value.agg (opS 0 0 ⟨#[]⟩).arr).cells.size]!))
      [(0, .agg o0.arr), (1, .agg o1.arr), (2, .agg o2.arr), (3, .agg o3.arr), (4, .agg o4.arr), (5, .agg o5.arr), (6, .agg o6.arr), (7, .agg o7.arr), (8, .agg o8.arr), (9, .agg o9.arr), (10, .agg o10.arr), (11, .agg o11.arr), (12, .agg o12.arr), (13, .agg o13.arr)] =
      some (([o0, o1, o2, o3, o4, o5, o6, o7, o8, o9, o10, o11, o12, o13].map OpV.cells).flatten.toArray) := by kernel_rfl

theorem wpList_script {ops : Array Oper} {rest : List Oper} {o : Oper} {a : Act} {w : World} {Q : Exit → Act → World → Prop} (hgd : o.guard = none) (x0 x1 x2 x3 x4 x5 x6 x7 x8 x9 x10 x11 x12 x13 : Operand)
    (ho : o.op = .buildSlice 22 14 #[(0, x0), (1, x1), (2, x2), (3, x3), (4, x4), (5, x5), (6, x6), (7, x7), (8, x8), (9, x9), (10, x10), (11, x11), (12, x12), (13, x13)]) (o0 o1 o2 o3 o4 o5 o6 o7 o8 o9 o10 o11 o12 o13 : OpV)
    (h0 : a.eval x0 = .agg o0.arr) (h1 : a.eval x1 = .agg o1.arr) (h2 : a.eval x2 = .agg o2.arr) (h3 : a.eval x3 = .agg o3.arr) (h4 : a.eval x4 = .agg o4.arr) (h5 : a.eval x5 = .agg o5.arr) (h6 : a.eval x6 = .agg o6.arr) (h7 : a.eval x7 = .agg o7.arr) (h8 : a.eval x8 = .agg o8.arr) (h9 : a.eval x9 = .agg o9.arr) (h10 : a.eval x10 = .agg o10.arr) (h11 : a.eval x11 = .agg o11.arr) (h12 : a.eval x12 = .agg o12.arr) (h13 : a.eval x13 = .agg o13.arr)
    (h : wpList Tryz.prog ops Q rest (a.put o.dst (.slice (some ⟨w.heap.size, 0, none⟩) 14 14)) (w.alloc (.cells (([o0, o1, o2, o3, o4, o5, o6, o7, o8, o9, o10, o11, o12, o13].map OpV.cells).flatten.toArray) 79))) : wpList Tryz.prog ops Q (o :: rest) a w := by
  obtain ⟨io, io0, io1, io2, io3⟩ := info_parts oI3
  refine wpList_buildSlice hgd 22 79 14 _ ho _ io _ uO io0 io1 (by rw [io2]; decide) (by rw [io2]; decide) ?_ h
  rw [io2]
  simp only [List.map_toArray, List.map_cons, List.map_nil, h0, h1, h2, h3, h4, h5, h6, h7, h8, h9, h10, h11, h12, h13]
  exact fill14 o0 o1 o2 o3 o4 o5 o6 o7 o8 o9 o10 o11 o12 o13
end Go.Proofs.YtafoepfhepdcoaaGreat
