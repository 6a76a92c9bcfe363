import Derived.Test.YtafoepfhepdcoaaGreatM8
import Derived.Test.YtafoepfhepdcoaaGreatM10
import Derived.Test.YtafoepfhepdcoaaGreatM11
import Derived.Great.BuildSlice
set_option maxRecDepth 100000
set_option maxHeartbeats 8000000
namespace Go.Proofs.YtafoepfhepdcoaaGreat
open Go.RowKit Go.Trawl
theorem buildH0 (a : Option Addr) (n c : Nat) (W : World) : (Instr.build 121 #[(0, .slice a n c)]).run Tryz.prog W = .ok (.agg #[.slice a n c, .slice none 0 0, .slice none 0 0, .slice none 0 0, .int .i64 0]) W := run_build W _ _ _ (by kernel_rfl)
theorem buildH2 (a : Option Addr) (n c : Nat) (W : World) : (Instr.build 121 #[(2, .slice a n c)]).run Tryz.prog W = .ok (.agg #[.slice none 0 0, .slice none 0 0, .slice a n c, .slice none 0 0, .int .i64 0]) W := run_build W _ _ _ (by kernel_rfl)
theorem buildH3 (a : Option Addr) (n c : Nat) (W : World) : (Instr.build 121 #[(3, .slice a n c)]).run Tryz.prog W = .ok (.agg #[.slice none 0 0, .slice none 0 0, .slice none 0 0, .slice a n c, .int .i64 0]) W := run_build W _ _ _ (by kernel_rfl)
attribute [local go_sem] selfQ selfR guardQ guardR buildQ0 buildR0 buildH0 buildH2 buildH3
theorem Kept.not {B : Nat} {U : Nat → Prop} {w w' : World} {ws : Nat} {vps : Value} {hs : List Nat} {vb vr vq vc : Value} {U' : Nat → Prop} {hs' : List Nat} {vh vh' : Value} (K : Kept B U w w' ws vps hs vb vr vq vc U' hs' vh vh') {k : Nat} (h : ¬ U k)
  (n1 : vb.ownBlock ≠ some k) (n2 : vr.ownBlock ≠ some k) (n3 : vq.ownBlock ≠ some k) (n4 : vc.ownBlock ≠ some k) (hlt : k < w.heap.size) : ¬ U' k := by
 intro hu
 rcases K.use k hu with e | e | e | e | e | e
 ·exact h e
 ·exact n1 e
 ·exact n2 e
 ·exact n3 e
 ·exact n4 e
 ·omega
theorem nil_block (k : Nat) : (Value.slice none 0 0).ownBlock ≠ some k := by simp [Value.ownBlock]
theorem nil_free {p : Nat → Prop} : ∀ k, (Value.slice none 0 0).ownBlock = some k → p k := by intro k hk; cases hk
theorem own_nilx (w : World) (e : TypeId) (sz : Nat) : ∃ x, w.ownsRow 0 e sz (.slice none 0 0) 0 x := ⟨[], World.ownsRow_nil _ _ _ _⟩
theorem new_ne {g n c k : Nat} (h : g ≠ k) : (Value.slice (some ⟨g, 0, none⟩) n c).ownBlock ≠ some k := by simp [Value.ownBlock, h]
theorem new_free {p : Nat → Prop} {g n c : Nat} (h : p g) : ∀ k, (Value.slice (some ⟨g, 0, none⟩) n c).ownBlock = some k → p k := by
 intro k hk; have : g = k := Option.some.inj hk; subst this; exact h
structure PS (w0 w : World) (m : Msg) (vq va vu vx : Value) (q a u e : Nat) : Prop where
 below : Below w0.heap.size w0 w
 box : w.heap[w0.heap.size]? = some (.cells (msgCells m vq va vu vx) 30)
 rq : w.ownsRow 0 41 3 (newV q (m.qs.length + 8)) (m.qs.length + 8) ((lentQ m.qs).map Qn.cells).flatten
 ra : w.ownsRow 0 69 5 (newV a (m.an.length + 8)) (m.an.length + 8) ((lentR m.an).map Rc.cells).flatten
 ru : w.ownsRow 0 69 5 (newV u (m.au.length + 8)) (m.au.length + 8) ((lentR m.au).map Rc.cells).flatten
 rx : w.ownsRow 0 69 5 (newV e (m.ex.length + 8)) (m.ex.length + 8) ((lentR m.ex).map Rc.cells).flatten
 lq : w0.heap.size < q
 la : q < a
 lu : a < u
 lx : u < e
 le : e < w.heap.size
theorem PS.move {w0 w w' : World} {m : Msg} {vq va vu vx : Value} {q a u e : Nat} (h : PS w0 w m vq va vu vx q a u e) (hb : Below w.heap.size w w') : PS w0 w' m vq va vu vx q a u e := by
 have hs := h.below.size
 have h1 := h.lq
 have h2 := h.la
 have h3 := h.lu
 have h4 := h.lx
 have h5 := h.le
 exact ⟨h.below.trans (hb.mono hs), by rw [hb.block _ (heap_lt h.box)]; exact h.box, own_below h.rq hb, own_below h.ra hb, own_below h.ru hb, own_below h.rx hb, h1, h2, h3, h4, Nat.lt_of_lt_of_le h5 hb.size⟩
theorem own_zero {w : World} {base : Nat} {e : TypeId} {sz : Nat} {v : Value} {n : Nat} {x : List Value} (h : w.ownsRow base e sz v n x) : w.ownsRow 0 e sz v n x := by
 refine ⟨h.1, ?_⟩
 rcases h.2 with h2 | ⟨g, cap, cur, h3, _, r⟩
 ·exact .inl h2
 ·exact .inr ⟨g, cap, cur, h3, Nat.zero_le _, r⟩
def packL (m : Msg) : List UInt8 := if packOk m then pack m else []
def packE (m : Msg) : Int := if packOk m then 0 else 1
theorem rpack2 (m : Msg) (vq va vu vx : Value) (w : World) (hwf : WfM m) (hat : MsgAt w m vq va vu vx) :
  Calls Tryz.prog 27 #[.agg (msgCells m vq va vu vx)] w fun e w' => Below w.heap.size w w' ∧ e = .returned (.tuple #[.string (str (packL m)), .int .i64 (packE m)]) := by
 refine (refPack_any m vq va vu vx w hwf hat).mono ?_
 rintro e w' ⟨hb, hno, hyes⟩
 refine ⟨hb, ?_⟩
 unfold packL packE
 by_cases hp : packOk m = true
 ·rw [hyes hp]; simp only [hp, if_true]
 ·have hp' : packOk m = false := by simpa using hp
  rw [hno hp']; simp only [hp']; rfl
theorem packL_length (m : Msg) : (packL m).length ≤ 512 := by
 unfold packL
 split
 ·rename_i h
  unfold packOk at h
  simp only [Bool.and_eq_true, decide_eq_true_eq] at h
  unfold pack
  rw [List.length_append, ← shorts_head, two_length]
  simp only [shorts, List.length_cons, List.length_nil]
  omega
 ·simp
theorem conv_own (w : World) (base : Nat) (a : Option Addr) (c : Nat) (l : List UInt8) (h : w.ownsRow base 5 1 (.slice a l.length c) l.length (bytesV l)) :
  (convert 32 9 (.slice a l.length c)).run Tryz.prog w = .ok (.string (str l)) w := by
 rw [run_convert_bytes_string _ _ _ 5 _ _ _ und_bytes' und_u8' und_string']
 rcases h.2 with ⟨h1, h2⟩ | ⟨g, cap, cur, h1, _, hg, _, _, _, htake⟩
 ·have hl : l = [] := List.eq_nil_of_length_eq_zero h2
  subst hl
  injection h1 with h1 _ h3
  subst h1 h3
  rfl
 ·injection h1 with h1 _ h3
  subst h1 h3
  have hload := run_loadCells_list (P := Tryz.prog) w ⟨g, 0, none⟩ (bytesV l) (fun j u hj => h.cells (g := g) rfl j u hj)
  rw [bytesV_length] at hload
  have e1 : bytesV l = (l.map fun b => (b.toNat : Int)).map (Value.int .u8) := by simp [bytesV]
  rw [e1] at hload
  rw [run_bytesToString w ⟨g, 0, none⟩ l.length c _ hload]
  congr 2
  have key : ∀ (l : List UInt8) (r : ByteArray), (l.map fun b => (b.toNat : Int)).foldl (fun r n => r.push (UInt8.ofNat n.toNat)) r = ⟨r.data ++ l.toArray⟩ := by
   intro l
   induction l with
   | nil => intro r; simp
   | cons b l ih =>
    intro r
    rw [List.map_cons, List.foldl_cons, ih]
    simp [ByteArray.push]
  rw [key]
  simp [str]
end Go.Proofs.YtafoepfhepdcoaaGreat
namespace Go.Proofs.YtafoepfhepdcoaaGreat
open Go.RowKit Go.Trawl
structure OpV where
 kind : Int
 n : Int
 m : Msg
 vq : Value
 va : Value
 vu : Value
 vx : Value
 s : ByteArray
 frm : Int
 b : Int
 d : Int
 c : Int
 t : Int
 vr : Value
 rs : List Int
def OpV.arr (o : OpV) : Array Value :=
 #[.int .i64 o.kind, .int .i64 o.n, .int .u16 o.m.id, .bool o.m.resp, .int .i64 o.m.op, .bool o.m.own, .bool o.m.cut, .bool o.m.wanted, .bool o.m.able, .int .i64 o.m.code, o.vq, o.va, o.vu, o.vx,
  .string o.s, .int .u32 o.frm, .int .i64 o.b, .int .i64 o.d, .int .i64 o.c, .int .i64 o.t, o.vr]
def OpV.cells (o : OpV) : List Value := o.arr.toList
structure OpAt (w : World) (o : OpV) : Prop where
 k0 : -9223372036854775808 ≤ o.kind
 k1 : o.kind ≤ 9223372036854775807
 n0 : -9223372036854775808 ≤ o.n
 n1 : o.n ≤ 9223372036854775807
 wf : WfM o.m
 msg : MsgAt w o.m o.vq o.va o.vu o.vx
 s : o.s.size ≤ 2097152
 f0 : 0 ≤ o.frm
 f1 : o.frm ≤ 4294967295
 r : Lies w 1 o.vr (o.rs.map fun x => [.int .u32 x])
 rn : o.rs.length ≤ 2097152
 b0 : -9223372036854775808 ≤ o.b
 b1 : o.b ≤ 9223372036854775807
 d0 : -9223372036854775808 ≤ o.d
 d1 : o.d ≤ 9223372036854775807
 c0 : -9223372036854775808 ≤ o.c
 c1 : o.c ≤ 9223372036854775807
 t0 : -9223372036854775808 ≤ o.t
 t1 : o.t ≤ 9223372036854775807
 rs : ∀ x ∈ o.rs, 0 ≤ x ∧ x ≤ 4294967295
theorem OpAt.below {w w' : World} {o : OpV} (h : OpAt w o) (hb : Below w.heap.size w w') : OpAt w' o :=
 { h with msg := h.msg.below hb, r := h.r.below hb }
theorem wpList_load_cells {P : Program} (w : World) {ops : Array Oper} {rest : List Oper} {o : Oper} {a : Act} {Q : Exit → Act → World → Prop} (hgd : o.guard = none) (ty : TypeId) (x : Operand) (ho : o.op = .load ty x)
  (ad : Addr) (hx : a.eval x = .pointer (some ad)) (cs : Array Value) (d : TypeDesc) (hu : P.underlying ty = some d) (hd : (match d with | .struct _ | .array _ _ => true | _ => false) = true) (hi : (P.info? ty).map (·.size) = some cs.size)
  (hc : ∀ j v, cs.toList[j]? = some v → w.cell? (ad.add j) = some v)
  (h : wpList P ops Q rest (a.put o.dst (.agg cs)) w) : wpList P ops Q (o :: rest) a w := by
 refine wpList_plain hgd fun K hK => ?_
 have hl := run_loadCells_list (P := P) w ad cs.toList hc
 have hr : (loadVar ty ad).run P w = .ok (.agg cs) w := by
  cases hq : P.info? ty with
  | none => simp [hq] at hi
  | some i =>
   have hs : i.size = cs.size := by simpa [hq] using hi
   have hagg : (isAgg ty).run P w = .ok true w := by
    unfold isAgg
    rw [Sem.run_bind, run_underlying hu w]
    cases d <;> simp_all
   simp only [Array.length_toList, Array.toArray_toList] at hl
   simp [loadVar, Sem.run_bind, hagg, sizeOf, typeInfo, hq, hs, hl]
 unfold Oper.wp execOp
 simp only [ho, hx, Instr.loadAt, Instr.sureAddr, Sem.run_bind, Sem.run_pure, Result.andThen_ok, hr]
 exact hK _ _ h
theorem undO : Tryz.prog.underlying 79 = some (.struct (Tryz.prog.fieldsOf 79)) := by kernel_rfl
theorem oI : (Tryz.prog.info? 79).map (·.size) = some 21 := by kernel_rfl
theorem buildW (W : World) : (Instr.build 84 #[]).run Tryz.prog W = .ok (.agg #[.slice none 0 0, .slice none 0 0]) W := run_build W _ _ _ (by kernel_rfl)
attribute [local go_sem] buildW
theorem St.start (w : World) : St w.heap.size (fun _ => False) (w.alloc (.cells #[.slice none 0 0, .slice none 0 0] 84)) w.heap.size (.slice none 0 0) [] (.slice none 0 0) := by
 refine ⟨⟨heap_new _ _, World.ownsRow_nil _ _ _ _, (fun k hk => by cases hk), (fun h hh => by cases hh)⟩, fun k hk => hk.elim, Nat.le_refl _, by rw [alloc_size]; omega⟩
theorem scr_at {w : World} {a : Option Addr} {n c : Nat} {os : List OpV} (h : Lies w 21 (.slice a n c) (os.map OpV.cells)) {k : Nat} {o : OpV} (ho : os[k]? = some o) :
  ∃ b off, a = some ⟨b, off, none⟩ ∧ w.cell? ⟨b, off + k * 21, none⟩ = some (.int .i64 o.kind) ∧ ∀ j v, o.arr.toList[j]? = some v → w.cell? ((⟨b, off + k * 21, none⟩ : Addr).add j) = some v := by
 obtain ⟨_, _, hv, _, hc⟩ := h
 rcases hc with he | ⟨b, off, he, _, hc⟩
 ·exfalso
  have h1 := congrArg List.length he
  simp at h1
  rw [h1] at ho
  simp at ho
 ·subst he
  injection hv with hv
  have h2 := hc k o.cells (by simp [ho])
  refine ⟨b, off, hv, h2 0 _ rfl, fun j v hj => ?_⟩
  have e1 : (⟨b, off + k * 21, none⟩ : Addr).add j = ⟨b, off + k * 21 + j, none⟩ := by simp [Addr.add]
  rw [e1]
  exact h2 j v hj
end Go.Proofs.YtafoepfhepdcoaaGreat
namespace Go.Proofs.YtafoepfhepdcoaaGreat
open Go.RowKit Go.Trawl
def zM : Msg := ⟨0, false, 0, false, false, false, false, 0, [], [], [], []⟩
def nmA : ByteArray := ⟨#[1, 97, 0]⟩
def mQ : Msg := ⟨1, false, 0, false, false, false, false, 0, [⟨nmA, 1, 1⟩], [], [], []⟩
def mR : Msg := ⟨1, true, 0, true, false, false, false, 0, [⟨nmA, 1, 1⟩], [⟨nmA, 1, 1, 0, ⟨#[1, 2, 3, 4]⟩⟩], [], []⟩
def m16 : Msg := ⟨0, false, 16, false, false, false, false, 0, [], [], [], []⟩
def opM (k : Int) (m : Msg) (vq va vu vx : Value) : OpV := ⟨k, 0, m, vq, va, vu, vx, ⟨#[]⟩, 0, 0, 0, 0, 0, .slice none 0 0, []⟩
def opS (k f : Int) (s : ByteArray) : OpV := ⟨k, 0, zM, .slice none 0 0, .slice none 0 0, .slice none 0 0, .slice none 0 0, s, f, 0, 0, 0, 0, .slice none 0 0, []⟩
def opC (b d c t : Int) (vr : Value) (rs : List Int) : OpV := ⟨3, 0, zM, .slice none 0 0, .slice none 0 0, .slice none 0 0, .slice none 0 0, ⟨#[]⟩, 0, b, d, c, t, vr, rs⟩
theorem buildQ3 (s : ByteArray) (a b : Int) (W : World) : (Instr.build 41 #[(0, .string s), (1, .int .u16 a), (2, .int .u16 b)]).run Tryz.prog W = .ok (.agg #[.string s, .int .u16 a, .int .u16 b]) W := run_build W _ _ _ (by kernel_rfl)
theorem buildR4 (s t : ByteArray) (a b : Int) (W : World) : (Instr.build 69 #[(0, .string s), (1, .int .u16 a), (2, .int .u16 b), (4, .string t)]).run Tryz.prog W = .ok (.agg #[.string s, .int .u16 a, .int .u16 b, .int .u32 0, .string t]) W := run_build W _ _ _ (by kernel_rfl)
theorem buildM1 (i : Int) (a : Option Addr) (n c : Nat) (W : World) : (Instr.build 30 #[(0, .int .u16 i), (8, .slice a n c)]).run Tryz.prog W = .ok (.agg #[.int .u16 i, .bool false, .int .i64 0, .bool false, .bool false, .bool false, .bool false, .int .i64 0, .slice a n c, .slice none 0 0, .slice none 0 0, .slice none 0 0]) W := run_build W _ _ _ (by kernel_rfl)
theorem buildM16 (i : Int) (W : World) : (Instr.build 30 #[(2, .int .i64 i)]).run Tryz.prog W = .ok (.agg #[.int .u16 0, .bool false, .int .i64 i, .bool false, .bool false, .bool false, .bool false, .int .i64 0, .slice none 0 0, .slice none 0 0, .slice none 0 0, .slice none 0 0]) W := run_build W _ _ _ (by kernel_rfl)
theorem buildC5 (x y z t : Int) (a : Option Addr) (n c : Nat) (W : World) : (Instr.build 57 #[(0, .int .i64 x), (1, .int .i64 y), (2, .int .i64 z), (3, .int .i64 t), (4, .slice a n c)]).run Tryz.prog W = .ok (.agg #[.int .i64 x, .int .i64 y, .int .i64 z, .int .i64 t, .slice a n c]) W := run_build W _ _ _ (by kernel_rfl)
theorem buildOQ (a1 : Option Addr) (n1 c1 : Nat) (W : World) : (Instr.build 79 #[(0, .int .i64 1), (2, .agg #[.int .u16 1, .bool false, .int .i64 0, .bool false, .bool false, .bool false, .bool false, .int .i64 0, .slice a1 n1 c1, .slice none 0 0, .slice none 0 0, .slice none 0 0])]).run Tryz.prog W =
   .ok (.agg (opM 1 mQ (.slice a1 n1 c1) (.slice none 0 0) (.slice none 0 0) (.slice none 0 0)).arr) W := run_build W _ _ _ (by kernel_rfl)
theorem buildOR (a1 a2 : Option Addr) (n1 c1 n2 c2 : Nat) (W : World) : (Instr.build 79 #[(0, .int .i64 1), (2, .agg #[.int .u16 1, .bool true, .int .i64 0, .bool true, .bool false, .bool false, .bool false, .int .i64 0, .slice a1 n1 c1, .slice a2 n2 c2, .slice none 0 0, .slice none 0 0])]).run Tryz.prog W =
   .ok (.agg (opM 1 mR (.slice a1 n1 c1) (.slice a2 n2 c2) (.slice none 0 0) (.slice none 0 0)).arr) W := run_build W _ _ _ (by kernel_rfl)
theorem buildO16 (W : World) : (Instr.build 79 #[(0, .int .i64 1), (2, .agg #[.int .u16 0, .bool false, .int .i64 16, .bool false, .bool false, .bool false, .bool false, .int .i64 0, .slice none 0 0, .slice none 0 0, .slice none 0 0, .slice none 0 0])]).run Tryz.prog W =
   .ok (.agg (opM 1 m16 (.slice none 0 0) (.slice none 0 0) (.slice none 0 0) (.slice none 0 0)).arr) W := run_build W _ _ _ (by kernel_rfl)
theorem buildOS (k : Int) (s : ByteArray) (W : World) : (Instr.build 79 #[(0, .int .i64 k), (3, .string s)]).run Tryz.prog W = .ok (.agg (opS k 0 s).arr) W := run_build W _ _ _ (by kernel_rfl)
theorem buildOF (k f : Int) (s : ByteArray) (W : World) : (Instr.build 79 #[(0, .int .i64 k), (4, .int .u32 f), (3, .string s)]).run Tryz.prog W = .ok (.agg (opS k f s).arr) W := run_build W _ _ _ (by kernel_rfl)
theorem buildO0 (k : Int) (W : World) : (Instr.build 79 #[(0, .int .i64 k)]).run Tryz.prog W = .ok (.agg (opS k 0 ⟨#[]⟩).arr) W := run_build W _ _ _ (by kernel_rfl)
theorem buildOC (b d x t : Int) (a : Option Addr) (n c : Nat) (W : World) : (Instr.build 79 #[(0, .int .i64 3), (5, .agg #[.int .i64 b, .int .i64 d, .int .i64 x, .int .i64 t, .slice a n c])]).run Tryz.prog W = .ok (.agg (opC b d x t (.slice a n c) [7]).arr) W := run_build W _ _ _ (by kernel_rfl)
theorem oI3 : (Tryz.prog.info? 79).map (fun i => (i.zero, i.size, i.bytes)) = some (some (.agg (opS 0 0 ⟨#[]⟩).arr), 21, 224) := by kernel_rfl
theorem uO : Tryz.prog.underlying 22 = some (.slice 79) := by kernel_rfl
theorem fill14 (o0 o1 o2 o3 o4 o5 o6 o7 o8 o9 o10 o11 o12 o13 : OpV) :
  Instr.fill (fun i => some (i * 21, 21)) ((Array.range (14 * 21)).map ((Value.agg (opS 0 0 ⟨#[]⟩).arr).cells[· % (Value.agg (opS 0 0 ⟨#[]⟩).arr).cells.size]!))
   [(0, .agg o0.arr), (1, .agg o1.arr), (2, .agg o2.arr), (3, .agg o3.arr), (4, .agg o4.arr), (5, .agg o5.arr), (6, .agg o6.arr), (7, .agg o7.arr), (8, .agg o8.arr), (9, .agg o9.arr), (10, .agg o10.arr), (11, .agg o11.arr), (12, .agg o12.arr), (13, .agg o13.arr)] =
   some (([o0, o1, o2, o3, o4, o5, o6, o7, o8, o9, o10, o11, o12, o13].map OpV.cells).flatten.toArray) := by kernel_rfl
theorem wpList_script {ops : Array Oper} {rest : List Oper} {o : Oper} {a : Act} {w : World} {Q : Exit → Act → World → Prop} (hgd : o.guard = none) (x0 x1 x2 x3 x4 x5 x6 x7 x8 x9 x10 x11 x12 x13 : Operand)
  (ho : o.op = .buildSlice 22 14 #[(0, x0), (1, x1), (2, x2), (3, x3), (4, x4), (5, x5), (6, x6), (7, x7), (8, x8), (9, x9), (10, x10), (11, x11), (12, x12), (13, x13)]) (o0 o1 o2 o3 o4 o5 o6 o7 o8 o9 o10 o11 o12 o13 : OpV)
  (h0 : a.eval x0 = .agg o0.arr) (h1 : a.eval x1 = .agg o1.arr) (h2 : a.eval x2 = .agg o2.arr) (h3 : a.eval x3 = .agg o3.arr) (h4 : a.eval x4 = .agg o4.arr) (h5 : a.eval x5 = .agg o5.arr) (h6 : a.eval x6 = .agg o6.arr) (h7 : a.eval x7 = .agg o7.arr) (h8 : a.eval x8 = .agg o8.arr) (h9 : a.eval x9 = .agg o9.arr) (h10 : a.eval x10 = .agg o10.arr) (h11 : a.eval x11 = .agg o11.arr) (h12 : a.eval x12 = .agg o12.arr) (h13 : a.eval x13 = .agg o13.arr)
  (h : wpList Tryz.prog ops Q rest (a.put o.dst (.slice (some ⟨w.heap.size, 0, none⟩) 14 14)) (w.alloc (.cells (([o0, o1, o2, o3, o4, o5, o6, o7, o8, o9, o10, o11, o12, o13].map OpV.cells).flatten.toArray) 79))) : wpList Tryz.prog ops Q (o :: rest) a w := by
 obtain ⟨io, io0, io1, io2, io3⟩ := info_parts oI3
 refine wpList_buildSlice hgd 22 79 14 _ ho _ io _ uO io0 io1 (by rw [io2]; decide) (by rw [io2]; decide) ?_ h
 rw [io2]
 simp only [List.map_toArray, List.map_cons, List.map_nil, h0, h1, h2, h3, h4, h5, h6, h7, h8, h9, h10, h11, h12, h13]
 exact fill14 o0 o1 o2 o3 o4 o5 o6 o7 o8 o9 o10 o11 o12 o13
structure EX (w W : World) : Prop where
 below : Below w.heap.size w W
 h0 : W.heap[w.heap.size]? = some (.cells #[.string { data := #[1, 97, 0] }, .int .u16 1, .int .u16 1] 41)
 h1 : W.heap[w.heap.size + 1]? = some (.cells #[.int .u16 1, .bool false, .int .i64 0, .bool false, .bool false, .bool false, .bool false, .int .i64 0,
  Value.slice (some { block := w.heap.size, off := 0 }) 1 1, .slice none 0 0, .slice none 0 0, .slice none 0 0] 30)
 h2 : W.heap[w.heap.size + 1 + 1]? = some (.cells #[.int .u16 1, .bool true, .int .i64 0, .bool true, .bool false, .bool false, .bool false, .int .i64 0,
  Value.slice (some { block := w.heap.size, off := 0 }) 1 1, .slice (some { block := w.heap.size + 1 + 1 + 1, off := 0 }) 1 1, .slice none 0 0, .slice none 0 0] 30)
 h3 : W.heap[w.heap.size + 1 + 1 + 1]? = some (.cells #[.string { data := #[1, 97, 0] }, .int .u16 1, .int .u16 1, .int .u32 0, .string { data := #[1, 2, 3, 4] }] 69)
theorem EX.move {w W W' : World} (h : EX w W) (hb : Below W.heap.size W W') : EX w W' :=
 ⟨h.below.trans (hb.mono h.below.size), (hb.block _ (heap_lt h.h0)).trans h.h0, (hb.block _ (heap_lt h.h1)).trans h.h1, (hb.block _ (heap_lt h.h2)).trans h.h2, (hb.block _ (heap_lt h.h3)).trans h.h3⟩
theorem lies_nil (w : World) (sz : Nat) : Lies w sz (.slice none 0 0) [] := ⟨none, 0, rfl, fun _ => rfl, .inl rfl⟩
theorem lies_one {w : World} {sz b : Nat} {cs : Array Value} {t : TypeId} (h : w.heap[b]? = some (.cells cs t)) {l : List Value} (hl : l = cs.toList) : Lies w sz (.slice (some ⟨b, 0, none⟩) 1 1) [l] := by
 subst hl
 refine ⟨some ⟨b, 0, none⟩, 1, rfl, (fun h => by cases h), .inr ⟨b, 0, rfl, heap_lt h, fun i e hi j u hj => ?_⟩⟩
 cases i with
 | zero =>
  simp at hi
  subst hi
  rw [box_cells h]
  simpa using hj
 | succ i => simp at hi
theorem EX.atQ {w W : World} (h : EX w W) : MsgAt W mQ (.slice (some ⟨w.heap.size, 0, none⟩) 1 1) (.slice none 0 0) (.slice none 0 0) (.slice none 0 0) :=
 ⟨lies_one h.h0 rfl, lies_nil _ _, lies_nil _ _, lies_nil _ _⟩
theorem EX.atR {w W : World} (h : EX w W) : MsgAt W mR (.slice (some ⟨w.heap.size, 0, none⟩) 1 1) (.slice (some ⟨w.heap.size + 1 + 1 + 1, 0, none⟩) 1 1) (.slice none 0 0) (.slice none 0 0) :=
 ⟨lies_one h.h0 rfl, lies_one h.h3 rfl, lies_nil _ _, lies_nil _ _⟩
theorem at0 (W : World) (m : Msg) (h1 : m.qs = []) (h2 : m.an = []) (h3 : m.au = []) (h4 : m.ex = []) : MsgAt W m (.slice none 0 0) (.slice none 0 0) (.slice none 0 0) (.slice none 0 0) := by
 refine ⟨?_, ?_, ?_, ?_⟩
 ·rw [h1]; exact lies_nil _ _
 ·rw [h2]; exact lies_nil _ _
 ·rw [h3]; exact lies_nil _ _
 ·rw [h4]; exact lies_nil _ _
theorem wf0 (m : Msg) (h1 : m.qs = []) (h2 : m.an = []) (h3 : m.au = []) (h4 : m.ex = []) (i0 : 0 ≤ m.id) (i1 : m.id ≤ 65535) (o0 : 0 ≤ m.op) (o1 : m.op ≤ 100) (c0 : m.code = 0) : WfM m := by
 refine ⟨i0, i1, by omega, by omega, by omega, by omega, by rw [h1]; decide, by rw [h2]; decide, by rw [h3]; decide, by rw [h4]; decide, fun q hq => ?_, fun r hr => ?_⟩
 ·rw [h1] at hq; cases hq
 ·unfold recs at hr; rw [h2, h3, h4] at hr; cases hr
theorem wfQ : WfM mQ := by
 refine ⟨by decide, by decide, by decide, by decide, by decide, by decide, by decide, by decide, by decide, by decide, fun q hq => ?_, fun r hr => ?_⟩
 ·simp [mQ] at hq; subst hq; exact ⟨by decide, by decide, by decide, by decide, by decide⟩
 ·simp [mQ, recs] at hr
theorem wfR : WfM mR := by
 refine ⟨by decide, by decide, by decide, by decide, by decide, by decide, by decide, by decide, by decide, by decide, fun q hq => ?_, fun r hr => ?_⟩
 ·simp [mR] at hq; subst hq; exact ⟨by decide, by decide, by decide, by decide, by decide⟩
 ·simp [mR, recs] at hr; subst hr; exact ⟨by decide, by decide, by decide, by decide, by decide, by decide, by decide, by decide⟩
theorem opM_at {W : World} {m : Msg} {vq va vu vx : Value} (hw : WfM m) (h : MsgAt W m vq va vu vx) : OpAt W (opM 1 m vq va vu vx) := by
 unfold opM
 constructor
 case wf => exact hw
 case msg => exact h
 case r => exact lies_nil _ _
 case rs => intro x hx; cases hx
 all_goals (dsimp only; decide)
theorem zM_wf : WfM zM := wf0 _ rfl rfl rfl rfl (by decide) (by decide) (by decide) (by decide) rfl
theorem opS_at (W : World) {k f : Int} {s : ByteArray} (h0 : 0 ≤ k) (h1 : k ≤ 6) (f0 : 0 ≤ f) (f1 : f ≤ 8) (hs : s.size ≤ 2097152) : OpAt W (opS k f s) := by
 unfold opS
 constructor
 case wf => exact zM_wf
 case msg => exact at0 _ _ rfl rfl rfl rfl
 case r => exact lies_nil _ _
 case rs => intro x hx; cases hx
 case s => exact hs
 case f0 => exact f0
 all_goals (dsimp only; first | decide | omega)
theorem opC_at {W : World} {vr : Value} (h : Lies W 1 vr [[.int .u32 7]]) : OpAt W (opC 9 1 1 2 vr [7]) := by
 unfold opC
 constructor
 case wf => exact zM_wf
 case msg => exact at0 _ _ rfl rfl rfl rfl
 case r => exact h
 case rs => intro x hx; simp at hx; omega
 all_goals (dsimp only; decide)
def exOps (N R : Nat) (s t : ByteArray) : List OpV :=
  [opM 1 mQ (.slice (some ⟨N, 0, none⟩) 1 1) (.slice none 0 0) (.slice none 0 0) (.slice none 0 0),
   opM 1 mR (.slice (some ⟨N, 0, none⟩) 1 1) (.slice (some ⟨N + 1 + 1 + 1, 0, none⟩) 1 1) (.slice none 0 0) (.slice none 0 0),
   opM 1 m16 (.slice none 0 0) (.slice none 0 0) (.slice none 0 0) (.slice none 0 0),
   opS 2 0 t, opS 2 0 (t ++ ⟨#[120]⟩), opC 9 1 1 2 (.slice (some ⟨R, 0, none⟩) 1 1) [7],
   opS 4 0 s, opS 5 8 t, opS 5 7 t, opS 4 0 s, opS 4 0 s, opS 6 0 ⟨#[]⟩, opS 6 0 ⟨#[]⟩, opS 6 0 ⟨#[]⟩]
theorem exOps_at {w W : World} {R : Nat} {s t : ByteArray} (h : EX w W) (hR : W.heap[R]? = some (.cells #[.int .u32 7] 54)) (hs : s.size ≤ 512) (ht : t.size ≤ 512) : ∀ o ∈ exOps w.heap.size R s t, OpAt W o := by
 have hx : (t ++ ⟨#[120]⟩ : ByteArray).size ≤ 2097152 := by
  rw [ByteArray.size_append]
  have : (⟨#[120]⟩ : ByteArray).size = 1 := rfl
  omega
 intro o ho
 simp only [exOps, List.mem_cons, List.not_mem_nil, or_false] at ho
 rcases ho with rfl | rfl | rfl | rfl | rfl | rfl | rfl | rfl | rfl | rfl | rfl | rfl | rfl | rfl
 ·exact opM_at wfQ h.atQ
 ·exact opM_at wfR h.atR
 ·exact opM_at (wf0 _ rfl rfl rfl rfl (by decide) (by decide) (by decide) (by decide) rfl) (at0 _ _ rfl rfl rfl rfl)
 ·exact opS_at _ (by decide) (by decide) (by decide) (by decide) (by omega)
 ·exact opS_at _ (by decide) (by decide) (by decide) (by decide) hx
 ·exact opC_at (lies_one hR rfl)
 ·exact opS_at _ (by decide) (by decide) (by decide) (by decide) (by omega)
 ·exact opS_at _ (by decide) (by decide) (by decide) (by decide) (by omega)
 ·exact opS_at _ (by decide) (by decide) (by decide) (by decide) (by omega)
 ·exact opS_at _ (by decide) (by decide) (by decide) (by decide) (by omega)
 ·exact opS_at _ (by decide) (by decide) (by decide) (by decide) (by omega)
 ·exact opS_at _ (by decide) (by decide) (by decide) (by decide) (by decide)
 ·exact opS_at _ (by decide) (by decide) (by decide) (by decide) (by decide)
 ·exact opS_at _ (by decide) (by decide) (by decide) (by decide) (by decide)
theorem lies_flat {w : World} {b n : Nat} {os : List OpV} {t : TypeId} (h : w.heap[b]? = some (.cells ((os.map OpV.cells).flatten.toArray) t)) (hn : os.length = n) : Lies w 21 (.slice (some ⟨b, 0, none⟩) n n) (os.map OpV.cells) := by
 have hlen : ∀ x ∈ os.map OpV.cells, x.length = 21 := by intro x hx; obtain ⟨o, _, rfl⟩ := List.mem_map.1 hx; rfl
 refine ⟨some ⟨b, 0, none⟩, n, by rw [List.length_map, hn], (fun h => by cases h), .inr ⟨b, 0, rfl, heap_lt h, fun i e hi j u hj => ?_⟩⟩
 have h2 := flat_at (sz := 21) _ hlen i e j u hi hj
 rw [box_cells h, Nat.zero_add]
 simpa using h2
attribute [local go_sem] buildQ3 buildR4 buildM1 buildM16 buildC5 buildOQ buildOR buildO16 buildOS buildOF buildO0 buildOC
end Go.Proofs.YtafoepfhepdcoaaGreat
