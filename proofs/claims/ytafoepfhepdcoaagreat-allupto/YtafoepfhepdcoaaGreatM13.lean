import Derived.Test.YtafoepfhepdcoaaGreatM12
import Derived.Great.BuildSlice
import Derived.Test.YtafoepfhepdcoaaGreatM1
import Derived.Test.YtafoepfhepdcoaaGreatM10
import Derived.BigQuiet
import Derived.Deep.QuietTactic
import Derived.WalkMore
import Derived.ScopeJumps
set_option maxRecDepth 100000
set_option maxHeartbeats 8000000
namespace Go.Proofs.YtafoepfhepdcoaaGreat
open Go.RowKit Go.Trawl
theorem buildW (W : World) : (Instr.build 84 #[]).run Tryz.prog W = .ok (.agg #[.slice none 0 0, .slice none 0 0]) W := run_build W _ _ _ (by kernel_rfl)
attribute [local go_sem] buildW
theorem St.start (w : World) : St w.heap.size (fun _ => False) (w.alloc (.cells #[.slice none 0 0, .slice none 0 0] 84)) w.heap.size (.slice none 0 0) [] (.slice none 0 0) := by
 refine ⟨⟨hn_ _ _, World.ownsRow_nil _ _ _ _, (fun k hk => by cases hk), (fun h hh => by cases hh)⟩, fun k hk => hk.elim, Nat.le_refl _, by rw [as_]; omega⟩
theorem scr_at {w : World} {a : Option Addr} {n c : Nat} {os : List OpV} (h : Lies w 21 (.slice a n c) (os.map OpV.cells)) {k : Nat} {o : OpV} (ho : os[k]? = some o) :
  ∃ b off, a = some ⟨b, off, none⟩ ∧ w.cell? ⟨b, off + k * 21, none⟩ = some (.int .i64 o.kind) ∧ ∀ j v, o.arr.toList[j]? = some v → w.cell? ((⟨b, off + k * 21, none⟩ : Addr).add j) = some v := by
 obtain ⟨_, _, hv, _, hc⟩ := h
 rcases hc with he | ⟨b, off, he, _, hc⟩
 ·exfalso
  have h1 := congrArg List.length he
  simp at h1
  rw [h1] at ho
  simp at ho
 ·subst he
  injection hv with hv
  have h2 := hc k o.cells (by simp [ho])
  refine ⟨b, off, hv, h2 0 _ rfl, fun j v hj => ?_⟩
  have e1 : (⟨b, off + k * 21, none⟩ : Addr).add j = ⟨b, off + k * 21 + j, none⟩ := by simp [Addr.add]
  rw [e1]
  exact h2 j v hj
end Go.Proofs.YtafoepfhepdcoaaGreat
namespace Go.Proofs.YtafoepfhepdcoaaGreat
open Go.RowKit Go.Trawl
def zM : Msg := ⟨0, false, 0, false, false, false, false, 0, [], [], [], []⟩
def nmA : ByteArray := ⟨#[1, 97, 0]⟩
def mQ : Msg := ⟨1, false, 0, false, false, false, false, 0, [⟨nmA, 1, 1⟩], [], [], []⟩
def mR : Msg := ⟨1, true, 0, true, false, false, false, 0, [⟨nmA, 1, 1⟩], [⟨nmA, 1, 1, 0, ⟨#[1, 2, 3, 4]⟩⟩], [], []⟩
def m16 : Msg := ⟨0, false, 16, false, false, false, false, 0, [], [], [], []⟩
def opM (k : Int) (m : Msg) (vq va vu vx : Value) : OpV := ⟨k, 0, m, vq, va, vu, vx, ⟨#[]⟩, 0, 0, 0, 0, 0, .slice none 0 0, []⟩
def opS (k f : Int) (s : ByteArray) : OpV := ⟨k, 0, zM, .slice none 0 0, .slice none 0 0, .slice none 0 0, .slice none 0 0, s, f, 0, 0, 0, 0, .slice none 0 0, []⟩
def opC (b d c t : Int) (vr : Value) (rs : List Int) : OpV := ⟨3, 0, zM, .slice none 0 0, .slice none 0 0, .slice none 0 0, .slice none 0 0, ⟨#[]⟩, 0, b, d, c, t, vr, rs⟩
theorem buildQ3 (s : ByteArray) (a b : Int) (W : World) : (Instr.build 41 #[(0, .string s), (1, .int .u16 a), (2, .int .u16 b)]).run Tryz.prog W = .ok (.agg #[.string s, .int .u16 a, .int .u16 b]) W := run_build W _ _ _ (by kernel_rfl)
theorem buildR4 (s t : ByteArray) (a b : Int) (W : World) : (Instr.build 69 #[(0, .string s), (1, .int .u16 a), (2, .int .u16 b), (4, .string t)]).run Tryz.prog W = .ok (.agg #[.string s, .int .u16 a, .int .u16 b, .int .u32 0, .string t]) W := run_build W _ _ _ (by kernel_rfl)
theorem buildM1 (i : Int) (a : Option Addr) (n c : Nat) (W : World) : (Instr.build 30 #[(0, .int .u16 i), (8, .slice a n c)]).run Tryz.prog W = .ok (.agg #[.int .u16 i, .bool false, .int .i64 0, .bool false, .bool false, .bool false, .bool false, .int .i64 0, .slice a n c, .slice none 0 0, .slice none 0 0, .slice none 0 0]) W := run_build W _ _ _ (by kernel_rfl)
theorem buildM16 (i : Int) (W : World) : (Instr.build 30 #[(2, .int .i64 i)]).run Tryz.prog W = .ok (.agg #[.int .u16 0, .bool false, .int .i64 i, .bool false, .bool false, .bool false, .bool false, .int .i64 0, .slice none 0 0, .slice none 0 0, .slice none 0 0, .slice none 0 0]) W := run_build W _ _ _ (by kernel_rfl)
theorem buildC5 (x y z t : Int) (a : Option Addr) (n c : Nat) (W : World) : (Instr.build 57 #[(0, .int .i64 x), (1, .int .i64 y), (2, .int .i64 z), (3, .int .i64 t), (4, .slice a n c)]).run Tryz.prog W = .ok (.agg #[.int .i64 x, .int .i64 y, .int .i64 z, .int .i64 t, .slice a n c]) W := run_build W _ _ _ (by kernel_rfl)
theorem buildOQ (a1 : Option Addr) (n1 c1 : Nat) (W : World) : (Instr.build 79 #[(0, .int .i64 1), (2, .agg #[.int .u16 1, .bool false, .int .i64 0, .bool false, .bool false, .bool false, .bool false, .int .i64 0, .slice a1 n1 c1, .slice none 0 0, .slice none 0 0, .slice none 0 0])]).run Tryz.prog W =
   .ok (.agg (opM 1 mQ (.slice a1 n1 c1) (.slice none 0 0) (.slice none 0 0) (.slice none 0 0)).arr) W := run_build W _ _ _ (by kernel_rfl)
theorem buildOR (a1 a2 : Option Addr) (n1 c1 n2 c2 : Nat) (W : World) : (Instr.build 79 #[(0, .int .i64 1), (2, .agg #[.int .u16 1, .bool true, .int .i64 0, .bool true, .bool false, .bool false, .bool false, .int .i64 0, .slice a1 n1 c1, .slice a2 n2 c2, .slice none 0 0, .slice none 0 0])]).run Tryz.prog W =
   .ok (.agg (opM 1 mR (.slice a1 n1 c1) (.slice a2 n2 c2) (.slice none 0 0) (.slice none 0 0)).arr) W := run_build W _ _ _ (by kernel_rfl)
theorem buildO16 (W : World) : (Instr.build 79 #[(0, .int .i64 1), (2, .agg #[.int .u16 0, .bool false, .int .i64 16, .bool false, .bool false, .bool false, .bool false, .int .i64 0, .slice none 0 0, .slice none 0 0, .slice none 0 0, .slice none 0 0])]).run Tryz.prog W =
   .ok (.agg (opM 1 m16 (.slice none 0 0) (.slice none 0 0) (.slice none 0 0) (.slice none 0 0)).arr) W := run_build W _ _ _ (by kernel_rfl)
theorem buildOS (k : Int) (s : ByteArray) (W : World) : (Instr.build 79 #[(0, .int .i64 k), (3, .string s)]).run Tryz.prog W = .ok (.agg (opS k 0 s).arr) W := run_build W _ _ _ (by kernel_rfl)
theorem buildOF (k f : Int) (s : ByteArray) (W : World) : (Instr.build 79 #[(0, .int .i64 k), (4, .int .u32 f), (3, .string s)]).run Tryz.prog W = .ok (.agg (opS k f s).arr) W := run_build W _ _ _ (by kernel_rfl)
theorem buildO0 (k : Int) (W : World) : (Instr.build 79 #[(0, .int .i64 k)]).run Tryz.prog W = .ok (.agg (opS k 0 ⟨#[]⟩).arr) W := run_build W _ _ _ (by kernel_rfl)
theorem buildOC (b d x t : Int) (a : Option Addr) (n c : Nat) (W : World) : (Instr.build 79 #[(0, .int .i64 3), (5, .agg #[.int .i64 b, .int .i64 d, .int .i64 x, .int .i64 t, .slice a n c])]).run Tryz.prog W = .ok (.agg (opC b d x t (.slice a n c) [7]).arr) W := run_build W _ _ _ (by kernel_rfl)
theorem oI3 : (Tryz.prog.info? 79).map (fun i => (i.zero, i.size, i.bytes)) = some (some (.agg (opS 0 0 ⟨#[]⟩).arr), 21, 224) := by kernel_rfl
theorem uO : Tryz.prog.underlying 22 = some (.slice 79) := by kernel_rfl
theorem fill14 (o0 o1 o2 o3 o4 o5 o6 o7 o8 o9 o10 o11 o12 o13 : OpV) :
  Instr.fill (fun i => some (i * 21, 21)) ((Array.range (14 * 21)).map ((Value.agg (opS 0 0 ⟨#[]⟩).arr).cells[· % (Value.agg (opS 0 0 ⟨#[]⟩).arr).cells.size]!))
   [(0, .agg o0.arr), (1, .agg o1.arr), (2, .agg o2.arr), (3, .agg o3.arr), (4, .agg o4.arr), (5, .agg o5.arr), (6, .agg o6.arr), (7, .agg o7.arr), (8, .agg o8.arr), (9, .agg o9.arr), (10, .agg o10.arr), (11, .agg o11.arr), (12, .agg o12.arr), (13, .agg o13.arr)] =
   some (([o0, o1, o2, o3, o4, o5, o6, o7, o8, o9, o10, o11, o12, o13].map OpV.cells).flatten.toArray) := by kernel_rfl
theorem wpList_script {ops : Array Oper} {rest : List Oper} {o : Oper} {a : Act} {w : World} {Q : Exit → Act → World → Prop} (hgd : o.guard = none) (x0 x1 x2 x3 x4 x5 x6 x7 x8 x9 x10 x11 x12 x13 : Operand)
  (ho : o.op = .buildSlice 22 14 #[(0, x0), (1, x1), (2, x2), (3, x3), (4, x4), (5, x5), (6, x6), (7, x7), (8, x8), (9, x9), (10, x10), (11, x11), (12, x12), (13, x13)]) (o0 o1 o2 o3 o4 o5 o6 o7 o8 o9 o10 o11 o12 o13 : OpV)
  (h0 : a.eval x0 = .agg o0.arr) (h1 : a.eval x1 = .agg o1.arr) (h2 : a.eval x2 = .agg o2.arr) (h3 : a.eval x3 = .agg o3.arr) (h4 : a.eval x4 = .agg o4.arr) (h5 : a.eval x5 = .agg o5.arr) (h6 : a.eval x6 = .agg o6.arr) (h7 : a.eval x7 = .agg o7.arr) (h8 : a.eval x8 = .agg o8.arr) (h9 : a.eval x9 = .agg o9.arr) (h10 : a.eval x10 = .agg o10.arr) (h11 : a.eval x11 = .agg o11.arr) (h12 : a.eval x12 = .agg o12.arr) (h13 : a.eval x13 = .agg o13.arr)
  (h : wpList Tryz.prog ops Q rest (a.put o.dst (.slice (some ⟨w.heap.size, 0, none⟩) 14 14)) (w.alloc (.cells (([o0, o1, o2, o3, o4, o5, o6, o7, o8, o9, o10, o11, o12, o13].map OpV.cells).flatten.toArray) 79))) : wpList Tryz.prog ops Q (o :: rest) a w := by
 obtain ⟨io, io0, io1, io2, io3⟩ := info_parts oI3
 refine wpList_buildSlice hgd 22 79 14 _ ho _ io _ uO io0 io1 (by rw [io2]; decide) (by rw [io2]; decide) ?_ h
 rw [io2]
 simp only [List.map_toArray, List.map_cons, List.map_nil, h0, h1, h2, h3, h4, h5, h6, h7, h8, h9, h10, h11, h12, h13]
 exact fill14 o0 o1 o2 o3 o4 o5 o6 o7 o8 o9 o10 o11 o12 o13
structure EX (w W : World) : Prop where
 below : Below w.heap.size w W
 h0 : W.heap[w.heap.size]? = some (.cells #[.string { data := #[1, 97, 0] }, .int .u16 1, .int .u16 1] 41)
 h1 : W.heap[w.heap.size + 1]? = some (.cells #[.int .u16 1, .bool false, .int .i64 0, .bool false, .bool false, .bool false, .bool false, .int .i64 0,
  Value.slice (some { block := w.heap.size, off := 0 }) 1 1, .slice none 0 0, .slice none 0 0, .slice none 0 0] 30)
 h2 : W.heap[w.heap.size + 1 + 1]? = some (.cells #[.int .u16 1, .bool true, .int .i64 0, .bool true, .bool false, .bool false, .bool false, .int .i64 0,
  Value.slice (some { block := w.heap.size, off := 0 }) 1 1, .slice (some { block := w.heap.size + 1 + 1 + 1, off := 0 }) 1 1, .slice none 0 0, .slice none 0 0] 30)
 h3 : W.heap[w.heap.size + 1 + 1 + 1]? = some (.cells #[.string { data := #[1, 97, 0] }, .int .u16 1, .int .u16 1, .int .u32 0, .string { data := #[1, 2, 3, 4] }] 69)
theorem EX.move {w W W' : World} (h : EX w W) (hb : Below W.heap.size W W') : EX w W' :=
 ⟨h.below.trans (hb.mono h.below.size), (hb.block _ (hl_ h.h0)).trans h.h0, (hb.block _ (hl_ h.h1)).trans h.h1, (hb.block _ (hl_ h.h2)).trans h.h2, (hb.block _ (hl_ h.h3)).trans h.h3⟩
theorem lies_nil (w : World) (sz : Nat) : Lies w sz (.slice none 0 0) [] := ⟨none, 0, rfl, fun _ => rfl, .inl rfl⟩
theorem lies_one {w : World} {sz b : Nat} {cs : Array Value} {t : TypeId} (h : w.heap[b]? = some (.cells cs t)) {l : List Value} (hl : l = cs.toList) : Lies w sz (.slice (some ⟨b, 0, none⟩) 1 1) [l] := by
 subst hl
 refine ⟨some ⟨b, 0, none⟩, 1, rfl, (fun h => by cases h), .inr ⟨b, 0, rfl, hl_ h, fun i e hi j u hj => ?_⟩⟩
 cases i with
 | zero =>
  simp at hi
  subst hi
  rw [bc_ h]
  simpa using hj
 | succ i => simp at hi
theorem EX.atQ {w W : World} (h : EX w W) : MsgAt W mQ (.slice (some ⟨w.heap.size, 0, none⟩) 1 1) (.slice none 0 0) (.slice none 0 0) (.slice none 0 0) :=
 ⟨lies_one h.h0 rfl, lies_nil _ _, lies_nil _ _, lies_nil _ _⟩
theorem EX.atR {w W : World} (h : EX w W) : MsgAt W mR (.slice (some ⟨w.heap.size, 0, none⟩) 1 1) (.slice (some ⟨w.heap.size + 1 + 1 + 1, 0, none⟩) 1 1) (.slice none 0 0) (.slice none 0 0) :=
 ⟨lies_one h.h0 rfl, lies_one h.h3 rfl, lies_nil _ _, lies_nil _ _⟩
theorem at0 (W : World) (m : Msg) (h1 : m.qs = []) (h2 : m.an = []) (h3 : m.au = []) (h4 : m.ex = []) : MsgAt W m (.slice none 0 0) (.slice none 0 0) (.slice none 0 0) (.slice none 0 0) := by
 refine ⟨?_, ?_, ?_, ?_⟩
 ·rw [h1]; exact lies_nil _ _
 ·rw [h2]; exact lies_nil _ _
 ·rw [h3]; exact lies_nil _ _
 ·rw [h4]; exact lies_nil _ _
theorem wf0 (m : Msg) (h1 : m.qs = []) (h2 : m.an = []) (h3 : m.au = []) (h4 : m.ex = []) (i0 : 0 ≤ m.id) (i1 : m.id ≤ 65535) (o0 : 0 ≤ m.op) (o1 : m.op ≤ 100) (c0 : m.code = 0) : WfM m := by
 refine ⟨i0, i1, by omega, by omega, by omega, by omega, by rw [h1]; decide, by rw [h2]; decide, by rw [h3]; decide, by rw [h4]; decide, fun q hq => ?_, fun r hr => ?_⟩
 ·rw [h1] at hq; cases hq
 ·unfold recs at hr; rw [h2, h3, h4] at hr; cases hr
theorem wfQ : WfM mQ := by
 refine ⟨by decide, by decide, by decide, by decide, by decide, by decide, by decide, by decide, by decide, by decide, fun q hq => ?_, fun r hr => ?_⟩
 ·simp [mQ] at hq; subst hq; exact ⟨by decide, by decide, by decide, by decide, by decide⟩
 ·simp [mQ, recs] at hr
theorem wfR : WfM mR := by
 refine ⟨by decide, by decide, by decide, by decide, by decide, by decide, by decide, by decide, by decide, by decide, fun q hq => ?_, fun r hr => ?_⟩
 ·simp [mR] at hq; subst hq; exact ⟨by decide, by decide, by decide, by decide, by decide⟩
 ·simp [mR, recs] at hr; subst hr; exact ⟨by decide, by decide, by decide, by decide, by decide, by decide, by decide, by decide⟩
theorem opM_at {W : World} {m : Msg} {vq va vu vx : Value} (hw : WfM m) (h : MsgAt W m vq va vu vx) : OpAt W (opM 1 m vq va vu vx) := by
 unfold opM
 constructor
 case wf => exact hw
 case msg => exact h
 case r => exact lies_nil _ _
 case rs => intro x hx; cases hx
 all_goals (dsimp only; decide)
theorem zM_wf : WfM zM := wf0 _ rfl rfl rfl rfl (by decide) (by decide) (by decide) (by decide) rfl
theorem opS_at (W : World) {k f : Int} {s : ByteArray} (h0 : 0 ≤ k) (h1 : k ≤ 6) (f0 : 0 ≤ f) (f1 : f ≤ 8) (hs : s.size ≤ 2097152) : OpAt W (opS k f s) := by
 unfold opS
 constructor
 case wf => exact zM_wf
 case msg => exact at0 _ _ rfl rfl rfl rfl
 case r => exact lies_nil _ _
 case rs => intro x hx; cases hx
 case s => exact hs
 case f0 => exact f0
 all_goals (dsimp only; first | decide | omega)
theorem opC_at {W : World} {vr : Value} (h : Lies W 1 vr [[.int .u32 7]]) : OpAt W (opC 9 1 1 2 vr [7]) := by
 unfold opC
 constructor
 case wf => exact zM_wf
 case msg => exact at0 _ _ rfl rfl rfl rfl
 case r => exact h
 case rs => intro x hx; simp at hx; omega
 all_goals (dsimp only; decide)
def exOps (N R : Nat) (s t : ByteArray) : List OpV :=
  [opM 1 mQ (.slice (some ⟨N, 0, none⟩) 1 1) (.slice none 0 0) (.slice none 0 0) (.slice none 0 0),
   opM 1 mR (.slice (some ⟨N, 0, none⟩) 1 1) (.slice (some ⟨N + 1 + 1 + 1, 0, none⟩) 1 1) (.slice none 0 0) (.slice none 0 0),
   opM 1 m16 (.slice none 0 0) (.slice none 0 0) (.slice none 0 0) (.slice none 0 0),
   opS 2 0 t, opS 2 0 (t ++ ⟨#[120]⟩), opC 9 1 1 2 (.slice (some ⟨R, 0, none⟩) 1 1) [7],
   opS 4 0 s, opS 5 8 t, opS 5 7 t, opS 4 0 s, opS 4 0 s, opS 6 0 ⟨#[]⟩, opS 6 0 ⟨#[]⟩, opS 6 0 ⟨#[]⟩]
theorem exOps_at {w W : World} {R : Nat} {s t : ByteArray} (h : EX w W) (hR : W.heap[R]? = some (.cells #[.int .u32 7] 54)) (hs : s.size ≤ 512) (ht : t.size ≤ 512) : ∀ o ∈ exOps w.heap.size R s t, OpAt W o := by
 have hx : (t ++ ⟨#[120]⟩ : ByteArray).size ≤ 2097152 := by
  rw [ByteArray.size_append]
  have : (⟨#[120]⟩ : ByteArray).size = 1 := rfl
  omega
 intro o ho
 simp only [exOps, List.mem_cons, List.not_mem_nil, or_false] at ho
 rcases ho with rfl | rfl | rfl | rfl | rfl | rfl | rfl | rfl | rfl | rfl | rfl | rfl | rfl | rfl
 ·exact opM_at wfQ h.atQ
 ·exact opM_at wfR h.atR
 ·exact opM_at (wf0 _ rfl rfl rfl rfl (by decide) (by decide) (by decide) (by decide) rfl) (at0 _ _ rfl rfl rfl rfl)
 ·exact opS_at _ (by decide) (by decide) (by decide) (by decide) (by omega)
 ·exact opS_at _ (by decide) (by decide) (by decide) (by decide) hx
 ·exact opC_at (lies_one hR rfl)
 ·exact opS_at _ (by decide) (by decide) (by decide) (by decide) (by omega)
 ·exact opS_at _ (by decide) (by decide) (by decide) (by decide) (by omega)
 ·exact opS_at _ (by decide) (by decide) (by decide) (by decide) (by omega)
 ·exact opS_at _ (by decide) (by decide) (by decide) (by decide) (by omega)
 ·exact opS_at _ (by decide) (by decide) (by decide) (by decide) (by omega)
 ·exact opS_at _ (by decide) (by decide) (by decide) (by decide) (by decide)
 ·exact opS_at _ (by decide) (by decide) (by decide) (by decide) (by decide)
 ·exact opS_at _ (by decide) (by decide) (by decide) (by decide) (by decide)
theorem lies_flat {w : World} {b n : Nat} {os : List OpV} {t : TypeId} (h : w.heap[b]? = some (.cells ((os.map OpV.cells).flatten.toArray) t)) (hn : os.length = n) : Lies w 21 (.slice (some ⟨b, 0, none⟩) n n) (os.map OpV.cells) := by
 have hlen : ∀ x ∈ os.map OpV.cells, x.length = 21 := by intro x hx; obtain ⟨o, _, rfl⟩ := List.mem_map.1 hx; rfl
 refine ⟨some ⟨b, 0, none⟩, n, by rw [List.length_map, hn], (fun h => by cases h), .inr ⟨b, 0, rfl, hl_ h, fun i e hi j u hj => ?_⟩⟩
 have h2 := flat_at (sz := 21) _ hlen i e j u hi hj
 rw [bc_ h, Nat.zero_add]
 simpa using h2
attribute [local go_sem] buildQ3 buildR4 buildM1 buildM16 buildC5 buildOQ buildOR buildO16 buildOS buildOF buildO0 buildOC
end Go.Proofs.YtafoepfhepdcoaaGreat
namespace Go.Trawl
def cut (s : ByteArray) (i j : Nat) : List UInt8 := (s.data.toList.drop i).take (j - i)
theorem cut_length {s : ByteArray} {i j : Nat} (h : j ≤ s.size) : (cut s i j).length = j - i := by
 have h2 : s.data.toList.length = s.size := by simp
 unfold cut
 rw [List.length_take, List.length_drop, h2]
 omega
theorem cut_nil (s : ByteArray) (i : Nat) : cut s i i = [] := by
 unfold cut
 rw [Nat.sub_self]
 rfl
theorem cut_join {s : ByteArray} {i j k : Nat} (h1 : i ≤ j) (h2 : j ≤ k) : cut s i j ++ cut s j k = cut s i k := by
 unfold cut
 have e : k - i = (j - i) + (k - j) := by omega
 have e2 : s.data.toList.drop j = (s.data.toList.drop i).drop (j - i) := by rw [List.drop_drop]; congr 1; omega
 rw [e, List.take_add, e2]
theorem le_behind (s : ByteArray) (k : Nat) : k ≤ behind s k := le_beh s _ k
def ptr (s : ByteArray) (i : Nat) : Nat := (at8 s i - 192) * 256 + at8 s (i + 1)
def pieces (s : ByteArray) : Nat → Nat → Option (List UInt8 × Nat)
 | 0, _ => none
 | n + 1, k =>
  if behind s k < s.size then
   if at8 s (behind s k) = 0 then some (cut s k (behind s k) ++ [0], behind s k + 1)
   else if 192 ≤ at8 s (behind s k) ∧ behind s k + 1 < s.size ∧ ptr s (behind s k) < k then
    (pieces s n (ptr s (behind s k))).map fun r => (cut s k (behind s k) ++ r.1, behind s k + 2)
   else none
  else none
theorem pieces_enough (s : ByteArray) : ∀ n m k, k < n → k < m → pieces s n k = pieces s m k
 | 0, _, k, h, _ => by omega
 | _, 0, k, _, h => by omega
 | n + 1, m + 1, k, h, h' => by
  unfold pieces
  split
  ·split
   ·rfl
   ·split
    ·rename_i h3
     rw [pieces_enough s n m _ (by omega) (by omega)]
    ·rfl
  ·rfl
def whole (s : ByteArray) (k : Nat) : Option (List UInt8 × Nat) := pieces s (k + 1) k
theorem whole_end {s : ByteArray} {k : Nat} (h1 : behind s k < s.size) (h2 : at8 s (behind s k) = 0) : whole s k = some (cut s k (behind s k) ++ [0], behind s k + 1) := by
 unfold whole pieces
 rw [if_pos h1, if_pos h2]
theorem whole_on {s : ByteArray} {k : Nat} (h1 : behind s k < s.size) (h2 : 192 ≤ at8 s (behind s k)) (h3 : behind s k + 1 < s.size) (h4 : ptr s (behind s k) < k) :
  whole s k = (whole s (ptr s (behind s k))).map fun r => (cut s k (behind s k) ++ r.1, behind s k + 2) := by
 have h0 : ¬ at8 s (behind s k) = 0 := by omega
 unfold whole
 conv => lhs; unfold pieces
 rw [if_pos h1, if_neg h0, if_pos ⟨h2, h3, h4⟩, pieces_enough s k (ptr s (behind s k) + 1) _ h4 (by omega)]
theorem whole_no {s : ByteArray} {k : Nat} (h : ¬ (behind s k < s.size ∧ (at8 s (behind s k) = 0 ∨ 192 ≤ at8 s (behind s k) ∧ behind s k + 1 < s.size ∧ ptr s (behind s k) < k))) : whole s k = none := by
 unfold whole pieces
 split
 ·rename_i h1
  split
  ·rename_i h2
   exact absurd ⟨h1, .inl h2⟩ h
  ·split
   ·rename_i h3
    exact absurd ⟨h1, .inr h3⟩ h
   ·rfl
 ·rfl
theorem whole_ends {s : ByteArray} {k : Nat} {r : List UInt8 × Nat} (h : whole s k = some r) : r.2 ≤ s.size ∧ k < r.2 ∧ 0 < r.1.length := by
 by_cases hh : behind s k < s.size ∧ (at8 s (behind s k) = 0 ∨ 192 ≤ at8 s (behind s k) ∧ behind s k + 1 < s.size ∧ ptr s (behind s k) < k)
 ·have hk := le_behind s k
  obtain ⟨h1, h2 | ⟨h2, h3, h4⟩⟩ := hh
  ·rw [whole_end h1 h2] at h
   injection h with h
   subst h
   exact ⟨by dsimp only; omega, by dsimp only; omega, by simp⟩
  ·rw [whole_on h1 h2 h3 h4] at h
   cases hr : whole s (ptr s (behind s k)) with
   | none => rw [hr] at h; cases h
   | some r2 =>
    have ih := whole_ends hr
    rw [hr] at h
    simp only [Option.map_some, Option.some.injEq] at h
    subst h
    refine ⟨by dsimp only; omega, by dsimp only; omega, ?_⟩
    dsimp only
    rw [List.length_append]
    omega
 ·rw [whole_no hh] at h
  cases h
termination_by k
decreasing_by exact h4
abbrev Par (α : Type) : Type := Nat → Option (α × Nat)
def Par.bind {α β : Type} (p : Par α) (f : α → Par β) : Par β := fun a => (p a).bind fun r => f r.1 r.2
def Par.pure {α : Type} (x : α) : Par α := fun a => some (x, a)
def Par.many {α : Type} (p : Par α) : Nat → Par (List α)
 | 0 => Par.pure []
 | n + 1 => (p.many n).bind fun xs => p.bind fun x => Par.pure (xs ++ [x])
def Ran {α : Type} (p : Par α) (st : Option Nat) (x : α) (st' : Option Nat) : Prop := st' = (st.bind p).map (·.2) ∧ ∀ r, st.bind p = some r → r.1 = x
theorem Ran.pure {α : Type} (x : α) (st : Option Nat) : Ran (Par.pure x) st x st := by
 cases st with
 | none => exact ⟨rfl, fun r h => by cases h⟩
 | some a => exact ⟨rfl, fun r h => by cases h; rfl⟩
theorem Ran.bind {α β : Type} {p : Par α} {f : α → Par β} {st st1 st2 : Option Nat} {x : α} {y : β} (h : Ran p st x st1) (k : Ran (f x) st1 y st2) : Ran (p.bind f) st y st2 := by
 obtain ⟨rfl, h2⟩ := h
 obtain ⟨rfl, k2⟩ := k
 cases st with
 | none => exact ⟨rfl, fun r h => by cases h⟩
 | some a =>
  simp only [Option.bind_some] at h2 k2 ⊢
  cases hp : p a with
  | none =>
   have e : (p.bind f) a = none := by unfold Par.bind; rw [hp]; rfl
   exact ⟨by simp [e], fun r h => by simp [e] at h⟩
  | some r =>
   have hx := h2 r hp
   have e : (p.bind f) a = f x r.2 := by unfold Par.bind; rw [hp, ← hx]; rfl
   rw [hp] at k2
   simp only [Option.map_some, Option.bind_some] at k2
   refine ⟨by simp [e], fun q hq => k2 q ?_⟩
   simpa [e] using hq
theorem Ran.none_of {α : Type} {p : Par α} {x : α} {st' : Option Nat} (h : Ran p none x st') : st' = none := h.1
theorem Ran.bad {α : Type} (p : Par α) (x : α) : Ran p none x none := ⟨rfl, fun r h => by cases h⟩
theorem Ran.good {α : Type} {p : Par α} {a : Nat} {r : α × Nat} (h : p a = some r) : Ran p (some a) r.1 (some r.2) := ⟨by simp [h], fun q hq => by simp [h] at hq; rw [← hq]⟩
theorem Ran.fail {α : Type} {p : Par α} {a : Nat} (h : p a = none) (x : α) : Ran p (some a) x none := ⟨by simp [h], fun q hq => by simp [h] at hq⟩
theorem many_none {α : Type} {p : Par α} {i : Nat} {a : Nat} (h : p.many i a = none) : ∀ n, i ≤ n → p.many n a = none
 | 0, hn => by
  have : i = 0 := by omega
  subst this
  exact h
 | n + 1, hn => by
  by_cases e : i = n + 1
  ·subst e; exact h
  ·have := many_none h n (by omega)
   show (p.many n).bind _ a = none
   unfold Par.bind
   rw [this]
   rfl
theorem Ran.stop {α : Type} {p : Par α} {i n : Nat} {st : Option Nat} {xs : List α} (h : Ran (p.many i) st xs none) (hn : i ≤ n) (ys : List α) : Ran (p.many n) st ys none := by
 cases st with
 | none => exact Ran.bad _ _
 | some a =>
  have h1 := h.1
  simp only [Option.bind_some] at h1
  have h2 : p.many i a = none := by
   cases hp : p.many i a with
   | none => rfl
   | some r => rw [hp] at h1; cases h1
  exact Ran.fail (many_none h2 n hn) ys
theorem Ran.more {α : Type} {p : Par α} {i : Nat} {st st1 st2 : Option Nat} {xs : List α} {x : α} (h : Ran (p.many i) st xs st1) (k : Ran p st1 x st2) : Ran (p.many (i + 1)) st (xs ++ [x]) st2 :=
 h.bind (k.bind (Ran.pure _ _))
theorem Ran.same {α : Type} {p : Par α} {st st1 st2 : Option Nat} {x y : α} (h : Ran p st x st1) (k : Ran p st y st2) : st1 = st2 ∧ (∀ a, st1 = some a → x = y) := by
 refine ⟨h.1.trans k.1.symm, fun a ha => ?_⟩
 cases hr : st.bind p with
 | none => rw [h.1, hr] at ha; cases ha
 | some r => exact (h.2 r hr).symm.trans (k.2 r hr)
theorem Ran.le {α : Type} {p : Par α} {st : Option Nat} {x : α} {st' : Option Nat} (h : Ran p st x st') : ∀ a', st' = some a' → ∃ a, st = some a ∧ p a = some (x, a') := by
 intro a' h'
 rw [h'] at h
 have h1 := h.1
 cases st with
 | none => cases h1
 | some a =>
  simp only [Option.bind_some] at h1
  cases hp : p a with
  | none => rw [hp] at h1; cases h1
  | some r =>
   rw [hp] at h1
   have h2 := h.2 r (by simp [hp])
   refine ⟨a, rfl, ?_⟩
   rw [hp]
   injection h1 with h1
   rw [h1, ← h2]
def n2 (s : ByteArray) (a : Nat) : Nat := at8 s a * 256 + at8 s (a + 1)
def n4 (s : ByteArray) (a : Nat) : Nat := n2 s a * 65536 + n2 s (a + 2)
def num2 (s : ByteArray) : Par Int := fun a => if a + 2 ≤ s.size then some ((n2 s a : Int), a + 2) else none
def num4 (s : ByteArray) : Par Int := fun a => if a + 4 ≤ s.size then some ((n4 s a : Int), a + 4) else none
def pName (s : ByteArray) : Par ByteArray := fun a => (whole s a).bind fun r => if r.1.length ≤ 255 then some (⟨r.1.toArray⟩, r.2) else none
def pText (s : ByteArray) (n : Nat) : Par ByteArray := fun a => if a + n ≤ s.size then some (⟨(cut s a (a + n)).toArray⟩, a + n) else none
def pData (s : ByteArray) (k : Int) (n : Nat) : Par ByteArray := fun a => if named k then (pName s a).bind fun r => if r.2 = a + n then some r else none else pText s n a
def pQ (s : ByteArray) : Par Qn := (pName s).bind fun n => (num2 s).bind fun t => (num2 s).bind fun c => Par.pure ⟨n, t, c⟩
def pR (s : ByteArray) : Par Rc := (pName s).bind fun n => (num2 s).bind fun t => (num2 s).bind fun c => (num4 s).bind fun l => (num2 s).bind fun k => (pData s t k.toNat).bind fun d => Par.pure ⟨n, t, c, l, d⟩
def flagged (id f : Int) (qs : List Qn) (an au ex : List Rc) : Msg :=
 ⟨id, decide (f / 32768 % 2 = 1), f / 2048 % 16, decide (f / 1024 % 2 = 1), decide (f / 512 % 2 = 1), decide (f / 256 % 2 = 1), decide (f / 128 % 2 = 1), f % 16, qs, an, au, ex⟩
def pM (s : ByteArray) : Par Msg := (num2 s).bind fun id => (num2 s).bind fun f => (num2 s).bind fun q => (num2 s).bind fun a => (num2 s).bind fun u => (num2 s).bind fun x =>
 ((pQ s).many q.toNat).bind fun qs => ((pR s).many a.toNat).bind fun an => ((pR s).many u.toNat).bind fun au => ((pR s).many x.toNat).bind fun ex => Par.pure (flagged id f qs an au ex)
def unpack (s : ByteArray) : Option Msg := if s.size ≤ 512 then (pM s 0).bind fun r => if r.2 = s.size then some r.1 else none else none
theorem at8_lt (s : ByteArray) (k : Nat) : at8 s k < 256 := (s.data.getD k 0).toNat_lt
theorem n2_lt (s : ByteArray) (a : Nat) : n2 s a ≤ 65535 := by
 have h1 := at8_lt s a
 have h2 := at8_lt s (a + 1)
 unfold n2
 omega
theorem n4_lt (s : ByteArray) (a : Nat) : n4 s a ≤ 4294967295 := by
 have h1 := n2_lt s a
 have h2 := n2_lt s (a + 2)
 unfold n4
 omega
theorem pName_ends {s : ByteArray} {a : Nat} {r : ByteArray × Nat} (h : pName s a = some r) : r.2 ≤ s.size ∧ a < r.2 ∧ r.1.size ≤ 255 := by
 unfold pName at h
 cases hw : whole s a with
 | none => rw [hw] at h; cases h
 | some q =>
  rw [hw] at h
  simp only [Option.bind_some] at h
  split at h
  ·have := whole_ends hw
   cases h
   exact ⟨this.1, this.2.1, by assumption⟩
  ·cases h
end Go.Trawl
namespace Go.Proofs.YtafoepfhepdcoaaGreat
open Go.RowKit Go.Trawl
def Bytes (w : World) (b : Nat) (s : ByteArray) : Prop := ∀ k, k < s.size → w.cell? ⟨b, k, none⟩ = some (.int .u8 (at8 s k))
theorem behindB (w : World) (b c : Nat) (s : ByteArray) (a0 : Nat) (hs : s.size ≤ 512) (ha : a0 ≤ 1000) (hc : Bytes w b s) :
  Calls Tryz.prog 168 #[.slice (some ⟨b, 0, none⟩) s.size c, .int .i64 a0] w fun e w' => e = .returned (.int .i64 (behind s a0)) ∧ w' = w := by
 have HC := hide hc
 clear hc
 go_enter Tryz.func168, Tryz.ntmps168
 go_wp2
 go_loop [1] (fun i => ∃ k : Nat, i = .int .i64 k ∧ k ≤ 1000 ∧ Hid (behind s a0 = behind s k)) (fun i => 2000 - (intOf i).toNat)
 case atStart => exact ⟨a0, rfl, ha, rfl⟩
 case round =>
  obtain ⟨k, rfl, hk, hb⟩ := hrel
  by_cases hlt : k < s.size
  ·have hcell := HC.out k hlt
   have hl8 := at8_lt s k
   by_cases h1 : 0 < at8 s k
   ·by_cases h2 : at8 s k ≤ 63
    ·have HE : Hid (behind s k = behind s (k + 1 + at8 s k)) := behind_next s k hlt h1 h2
     go_wp2
     exact ⟨⟨k + 1 + at8 s k, by go_num, by omega, hb.out.trans HE.out⟩, by simp [intOf]; omega⟩
    ·have HE : Hid (behind s k = k) := behind_stop s k (by omega)
     go_wp2
     go_ret
     exact ⟨ret_int (by rw [hb.out, HE.out]), rfl⟩
   ·have HE : Hid (behind s k = k) := behind_stop s k (by omega)
    go_wp2
    go_ret
    exact ⟨ret_int (by rw [hb.out, HE.out]), rfl⟩
  ·have HE : Hid (behind s k = k) := behind_stop s k (by omega)
   go_wp2
   go_ret
   exact ⟨ret_int (by rw [hb.out, HE.out]), rfl⟩
theorem behindPiece_any (w : World) (i : Nat) (p : Bool) (hi : i ≤ 512) :
  Calls Tryz.prog 170 #[.int .i64 i, .bool p] w fun e w' => e = .returned (.int .i64 ((if p then i + 2 else i + 1 : Nat) : Int)) ∧ w' = w := by
 cases p
 all_goals
  go_enter Tryz.func170, Tryz.ntmps170
  go_wp2
  go_ret
  exact ⟨rfl, rfl⟩
def isPtr (s : ByteArray) (i : Nat) : Bool := decide (i + 1 < s.size ∧ 192 ≤ at8 s i)
theorem pointerAt_at (w : World) (b c : Nat) (s : ByteArray) (i : Nat) (hs : s.size ≤ 512) (hi : i < s.size) (hc : Bytes w b s) (v : Int) (p : Bool) (hp : Hid (isPtr s i = p)) (hv : Hid (v = if isPtr s i then (ptr s i : Int) else 0)) :
  Calls Tryz.prog 169 #[.slice (some ⟨b, 0, none⟩) s.size c, .int .i64 i] w fun e w' =>
   e = .returned (.tuple #[.int .i64 v, .bool p]) ∧ ∃ n, w' = w.drewN n := by
 have h0 := hc i hi
 have hl8 := at8_lt s i
 by_cases h1 : i + 1 < s.size
 ·have h2 := hc (i + 1) h1
  have hl9 := at8_lt s (i + 1)
  clear hc
  by_cases h3 : 192 ≤ at8 s i
  ·have HP : Hid (true = p) := (show isPtr s i = true from decide_eq_true ⟨h1, h3⟩).symm.trans hp.out
   have HV : Hid ((at8 s i : Int) * 256 + (at8 s (i + 1) : Int) - 49152 = v) := by
    unfold Hid
    rw [hv.out, if_pos (show isPtr s i = true from decide_eq_true ⟨h1, h3⟩)]
    unfold ptr
    omega
   clear hp hv
   go_enter Tryz.func169, Tryz.ntmps169
   go_wp2_with fail
   go_quiet (fail)
   go_wp2_with fail
   go_ret2
   exact ⟨by rw [← HV.out, ← HP.out]; rfl, nq, rfl⟩
  ·have HP : Hid (false = p) := (show isPtr s i = false from decide_eq_false (by omega)).symm.trans hp.out
   have HV : Hid (0 = v) := by
    unfold Hid
    rw [hv.out, if_neg (by rw [show isPtr s i = false from decide_eq_false (by omega)]; decide)]
   clear hp hv
   go_enter Tryz.func169, Tryz.ntmps169
   go_wp2_with fail
   go_ret2
   exact ⟨by rw [← HV.out, ← HP.out]; rfl, 0, rfl⟩
 ·clear hc
  have HP : Hid (false = p) := (show isPtr s i = false from decide_eq_false (by omega)).symm.trans hp.out
  have HV : Hid (0 = v) := by
   unfold Hid
   rw [hv.out, if_neg (by rw [show isPtr s i = false from decide_eq_false (by omega)]; decide)]
  clear hp hv
  go_enter Tryz.func169, Tryz.ntmps169
  go_wp2_with fail
  go_ret2
  exact ⟨by rw [← HV.out, ← HP.out]; rfl, 0, rfl⟩
end Go.Proofs.YtafoepfhepdcoaaGreat
