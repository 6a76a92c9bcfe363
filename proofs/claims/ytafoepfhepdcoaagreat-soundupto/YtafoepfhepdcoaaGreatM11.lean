import Derived.Test.YtafoepfhepdcoaaGreatM10
import Derived.Test.YtafoepfhepdcoaaGreatM9
import Derived.Test.YtafoepfhepdcoaaGreatM3
import Derived.Test.YtafoepfhepdcoaaGreatM5
set_option maxRecDepth 100000
set_option maxHeartbeats 8000000
namespace Go.Proofs.YtafoepfhepdcoaaGreat
open Go.RowKit Go.Trawl
structure ChOk (c : Ch) : Prop where
 name : c.name.size ≤ 2097152
 kind0 : 0 ≤ c.kind
 kind1 : c.kind ≤ 65535
 zone : c.zone.size ≤ 2097152
 servers : c.servers.length ≤ 4294967295
 sent : c.sent ≤ 1000
 names : c.names.length ≤ 1000000
 texts : ∀ x ∈ c.names, x.size ≤ 2097152
structure StOk (st : RSt) : Prop where
 b0 : 1 ≤ st.b
 b1 : st.b ≤ 200
 d0 : 0 ≤ st.d
 d1 : st.d ≤ 6
 c0 : 0 ≤ st.c
 c1 : st.c ≤ 10
 t0 : 1 ≤ st.t
 t1 : st.t ≤ 8
 r0 : 1 ≤ st.roots.length
 r1 : st.roots.length ≤ 8
 id0 : 0 ≤ st.id
 id1 : st.id ≤ 65535
 asked : WfM st.asked
 kept : st.kept.length ≤ 1000
 recs : ∀ r ∈ st.kept, WfR r
 seen : st.seen.length ≤ 1000
 texts : ∀ x ∈ st.seen, x.size ≤ 2097152
 len : st.l.length ≤ 1000
 chs : ∀ c ∈ st.l, ChOk c
 spent : st.spent ≤ 1000
attribute [local go_sem] Stg.upon
def askM (id : Int) (c : Ch) : Msg := ⟨id, false, 0, false, false, false, false, 0, [⟨c.name, c.kind, 1⟩], [], [], []⟩
def toOf (c : Ch) : Int := c.servers.getD (c.sent % c.servers.length) 0
def nextId (i : Int) : Int := (i + 1) % 65536
def askSt (st : RSt) (r : List Ch) (c : Ch) : RSt := { st with to := toOf c, id := nextId st.id, spent := st.spent + 1, l := r ++ [{ c with sent := c.sent + 1 }] }
def askStep (st : RSt) (c : Ch) : Value := stepV 1 (toOf c) (str (packL (askM (nextId st.id) c)))
theorem lex_at {P : Program} {ops : Array Oper} {C : Nat → World → Prop} {S : List Nat} {Q : Act → Prop} {i : Nat} {o : Oper} {l : List Oper} {a : Act} (hS : (!S.contains i && o.guard.isNone) = true) (v : Value)
  (h : ∀ j w, C j w → (execOp a.eval o).run P w = .ok (.value v) w) (hn : Stg.lex P ops C S Q l (i + 1) (a.put o.dst v)) : Stg.lex P ops C S Q (o :: l) i a := by
 simp only [Bool.and_eq_true, Option.isNone_iff_eq_none, Bool.not_eq_true'] at hS
 obtain ⟨h1, h4⟩ := hS
 refine ⟨v, .inl ⟨by simp [Region.wanted, h4], fun j w hj hj' hC => ?_⟩, hn⟩
 have hi : Stg.inc S i = 0 := by unfold Stg.inc; rw [if_neg (by rw [h1]; exact Bool.false_ne_true)]
 rw [hi, h j w hC]
 exact ⟨rfl, hC⟩
theorem buildQ1 (n : ByteArray) (k : Int) (W : World) : (Instr.build 41 #[(0, .string n), (1, .int .u16 k), (2, .int .u16 1)]).run Tryz.prog W = .ok (.agg #[.string n, .int .u16 k, .int .u16 1]) W := run_build W _ _ _ (by kernel_rfl)
theorem buildMq (i : Int) (a : Option Addr) (n c : Nat) (W : World) : (Instr.build 30 #[(0, .int .u16 i), (8, .slice a n c)]).run Tryz.prog W = .ok (.agg #[.int .u16 i, .bool false, .int .i64 0, .bool false, .bool false, .bool false, .bool false, .int .i64 0, .slice a n c, .slice none 0 0, .slice none 0 0, .slice none 0 0]) W := run_build W _ _ _ (by kernel_rfl)
theorem buildS3 (k t : Int) (s : ByteArray) (W : World) : (Instr.build 111 #[(0, .int .i64 k), (1, .int .u32 t), (2, .string s)]).run Tryz.prog W = .ok (.agg #[.int .i64 k, .int .u32 t, .string s]) W := run_build W _ _ _ (by kernel_rfl)
attribute [local go_sem] buildQ1 buildMq buildS3
end Go.Proofs.YtafoepfhepdcoaaGreat
namespace Go.Proofs.YtafoepfhepdcoaaGreat
open Go.RowKit Go.Trawl
def failP (st : RSt) : RSt × Value := ({ st with busy := false }, stepV 2 0 (str (replyL (doneM st 2 []))))
def askP (st : RSt) (r : List Ch) (c : Ch) : RSt × Value := if st.b ≤ (st.spent : Int) then failP { st with l := r ++ [c] } else (askSt st r c, askStep st c)
theorem Rows4.grow {B r : Nat} {w w' : World} {m : Msg} {vq va vu vx : Value} (h : Rows4 B w m vq va vu vx) (hw : w.grownBy w' (some r)) (hr : r < B) : Rows4 B w' m vq va vu vx := by
 have ap : ∀ v : Value, (∀ g, v.ownBlock = some g → B ≤ g) → v.ownBlock = none ∨ v.ownBlock ≠ some r := by
  intro v hv
  cases h1 : v.ownBlock with
  | none => exact .inl rfl
  | some g =>
   have := hv g h1
   exact .inr (fun e => by have := Option.some.inj e; omega)
 exact { h with q := h.q.kept hw (ap _ h.nq), a := h.a.kept hw (ap _ h.na), u := h.u.kept hw (ap _ h.nu), x := h.x.kept hw (ap _ h.nx) }
theorem tUnpack_no (w : World) (b c : Nat) (s : ByteArray) (hsm : s.size ≤ 2097152) (hsc : s.size ≤ c) (hbl : b < w.heap.size) (hc : Bytes w b s) (hn : unpack s = none) :
  Calls Tryz.prog 16 #[.slice (some ⟨b, 0, none⟩) s.size c] w fun e w' => e = .returned (.tuple #[.agg zM0, .int .i64 1]) ∧ Hid (Below w.heap.size w w') := by
 have hB : Below w.heap.size w (w.alloc (Obj.cells #[.int .u16 0, .bool false, .int .i64 0, .bool false, .bool false, .bool false, .bool false, .int .i64 0, .slice none 0 0, .slice none 0 0, .slice none 0 0, .slice none 0 0] 30)) := (Below.refl _ _).alloc (Nat.le_refl _) _
 have HB := hide hB
 have HC := hide (hc.below hbl hB)
 have HN := hide hn
 clear hc hn hB
 go_enter Tryz.func16, Tryz.ntmps16
 go_wp2_with fail
 refine (wUnpack_any _ b c s hsm hsc (Nat.lt_of_lt_of_le hbl HB.out.size) HC.out).mono ?_
 intro e w1 H1
 obtain ⟨hb1, hno, _⟩ := H1.out
 obtain rfl := hno HN.out
 have HB1 := hide (HB.out.trans (hb1.mono HB.out.size))
 have HZ1 : Hid (w1.heap[w.heap.size]? = some (.cells zM0 30)) := (hb1.block _ (by rw [alloc_size]; omega)).trans (heap_new _ _)
 clear H1 hb1 hno
 have hcz := box_cells HZ1.out
 have hfz := frozen_of_block HZ1.out
 simp only [zM0] at hcz ⊢
 go_wp2_with fail
 clear hcz hfz
 refine bodyPost_ret (results_cell_row2 rfl _ _ w.heap.size _ _ _ _ rfl (put12_box (.int .u16 0) (.bool false) (.int .i64 0) (.bool false) (.bool false) (.bool false) (.bool false) (.int .i64 0) (.slice none 0 0) (.slice none 0 0) (.slice none 0 0) (.slice none 0 0) HZ1.out) undMsg rfl (by kernel_rfl)) rfl ?_
 exact ⟨rfl, below_of_grown HB1.out (Nat.le_refl _) (put12_grown w1 w.heap.size (.int .u16 0) (.bool false) (.int .i64 0) (.bool false) (.bool false) (.bool false) (.bool false) (.int .i64 0) (.slice none 0 0) (.slice none 0 0) (.slice none 0 0) (.slice none 0 0))⟩
theorem tUnpack_yes (w : World) (b c : Nat) (s : ByteArray) (hsm : s.size ≤ 2097152) (hsc : s.size ≤ c) (hbl : b < w.heap.size) (hc : Bytes w b s) (m : Msg) (hn : unpack s = some m) :
  Calls Tryz.prog 16 #[.slice (some ⟨b, 0, none⟩) s.size c] w fun e w' => ∃ vq va vu vx, e = .returned (.tuple #[.agg (msgCells m vq va vu vx), .int .i64 0]) ∧ Hid (Below w.heap.size w w' ∧ WfM m ∧ Rows4 (w.heap.size + 1) w' m vq va vu vx) := by
 have hB : Below w.heap.size w (w.alloc (Obj.cells #[.int .u16 0, .bool false, .int .i64 0, .bool false, .bool false, .bool false, .bool false, .int .i64 0, .slice none 0 0, .slice none 0 0, .slice none 0 0, .slice none 0 0] 30)) := (Below.refl _ _).alloc (Nat.le_refl _) _
 have HB := hide hB
 have HC := hide (hc.below hbl hB)
 have HN := hide hn
 clear hc hn hB
 go_enter Tryz.func16, Tryz.ntmps16
 go_wp2_with fail
 refine (wUnpack_any _ b c s hsm hsc (Nat.lt_of_lt_of_le hbl HB.out.size) HC.out).mono ?_
 intro e w1 H1
 obtain ⟨hb1, _, hyes⟩ := H1.out
 obtain ⟨vq, va, vu, vx, rfl, hwf, hrows⟩ := hyes m HN.out
 rw [alloc_size] at hrows
 have HRW := hide hrows
 have HWF := hide hwf
 have HB1 := hide (HB.out.trans (hb1.mono HB.out.size))
 have HZ1 : Hid (w1.heap[w.heap.size]? = some (.cells zM0 30)) := (hb1.block _ (by rw [alloc_size]; omega)).trans (heap_new _ _)
 obtain ⟨aq, cq, rfl⟩ := own_slice hrows.q
 obtain ⟨aa, ca, rfl⟩ := own_slice hrows.a
 obtain ⟨au, cu, rfl⟩ := own_slice hrows.u
 obtain ⟨ax, cx, rfl⟩ := own_slice hrows.x
 clear H1 hb1 hyes hrows hwf
 have hcz := box_cells HZ1.out
 have hfz := frozen_of_block HZ1.out
 simp only [zM0] at hcz
 simp only [msgCells]
 go_wp2_with fail
 clear hcz hfz
 refine bodyPost_ret (results_cell_row2 rfl _ _ w.heap.size _ _ _ _ rfl (put12_box (.int .u16 m.id) (.bool m.resp) (.int .i64 m.op) (.bool m.own) (.bool m.cut) (.bool m.wanted) (.bool m.able) (.int .i64 m.code) (.slice aq m.qs.length cq) (.slice aa m.an.length ca) (.slice au m.au.length cu) (.slice ax m.ex.length cx) HZ1.out) undMsg rfl (by kernel_rfl)) rfl ?_
 have hG := put12_grown w1 w.heap.size (.int .u16 m.id) (.bool m.resp) (.int .i64 m.op) (.bool m.own) (.bool m.cut) (.bool m.wanted) (.bool m.able) (.int .i64 m.code) (.slice aq m.qs.length cq) (.slice aa m.an.length ca) (.slice au m.au.length cu) (.slice ax m.ex.length cx)
 exact ⟨_, _, _, _, rfl, below_of_grown HB1.out (Nat.le_refl _) hG, HWF.out, HRW.out.grow hG (by omega)⟩
theorem In.after {w w1 : World} {r : Nat} {s : ByteArray} {a : Nat} {bad : Bool} {n : Nat} (h : In w r s a bad) (e : w1 = w.drew.drewN n) : In w1 r s a bad := by
 rw [e]
 exact (h.grow (grownBy_drew w none) (by simp)).drewN n
def Long (s : ByteArray) (a : Nat) : Prop := ∀ r, whole s a = some r → 255 < r.1.length
structure Lab (s : ByteArray) (a : Nat) (t : ByteArray) (k : Nat) (ok : Bool) : Prop where
 yes : ok = true → whole s a = some (t.data.toList, k)
 no : ok = false → Long s a
 size : t.size ≤ 600 * (a + 1)
 le : k ≤ s.size
theorem Lab.bad {s : ByteArray} {a : Nat} (h : Long s a) : Lab s a ⟨#[]⟩ 0 false := ⟨(fun h => by cases h), fun _ => h, Nat.zero_le _, Nat.zero_le _⟩
theorem buildRz (W : World) : (Instr.build 69 #[]).run Tryz.prog W = .ok (.agg #[Value.string { data := #[] }, Value.int IntKind.u16 0, Value.int IntKind.u16 0, Value.int IntKind.u32 0, Value.string { data := #[] }]) W := run_build W _ _ _ (by kernel_rfl)
attribute [local go_sem] buildRz
theorem In.aside {w : World} {r : Nat} {s : ByteArray} {a : Nat} {bad : Bool} (h : In w r s a bad) {g : Nat} (j : Nat) (u : Value) (h1 : g ≠ r) : In (w.setCell ⟨g, j, none⟩ u) r s a bad :=
 h.grow (grownBy_setCell _ _ _ _) (fun e => h1 (Option.some.inj e))
theorem In.new {w w' : World} {r : Nat} {s : ByteArray} {a : Nat} {bad : Bool} (h : In w r s a bad) {B : Nat} (hB : w.heap.size ≤ B) (hw : Below B w w') : In w' r s a bad :=
 h.grow (row := none) ⟨hw.os, hw.tape, hw.output, hw.size, fun i hi _ => hw.block i (by omega)⟩ (by simp)
end Go.Proofs.YtafoepfhepdcoaaGreat
namespace Go.Proofs.YtafoepfhepdcoaaGreat
open Go.RowKit Go.Trawl
structure IL (w wr : World) (r : Nat) (s : ByteArray) (a : Nat) (bad : Bool) (k ar : Nat) (br : Bool) (qs : List Rc) (v : Value) : Prop where
 rd : In wr r s ar br
 grown : w.grownBy wr (some r)
 ran : Ran ((pR s).many k) (stOf a bad) qs (stOf ar br)
 own : wr.ownsRow 0 69 5 v qs.length ((qs.map Rc.cells).flatten)
 new : ∀ g, v.ownBlock = some g → w.heap.size ≤ g
 wf : ∀ q ∈ qs, WfR q
theorem IL.next {w wr w1 w5 : World} {r : Nat} {s : ByteArray} {a : Nat} {bad : Bool} {k ar a1 : Nat} {br bad1 : Bool} {qs : List Rc} {q : Rc} {v v5 : Value} (h : IL w wr r s a bad k ar br qs v) (hrl : r < w.heap.size)
  (G1 : wr.grownBy w1 (some r)) (R1 : In w1 r s a1 bad1) (A1 : Ran (pR s) (stOf ar br) q (stOf a1 bad1)) (wq : WfR q) (o1 o2 : Obj)
  (g : Grew 69 5 ((w1.alloc o1).alloc o2) w5 v v5 (qs.length + 1) ((qs.map Rc.cells).flatten ++ q.cells)) : IL w w5 r s a bad (k + 1) a1 bad1 (qs ++ [q]) v5 := by
 have hb2 : Below w1.heap.size w1 ((w1.alloc o1).alloc o2) := ((Below.refl _ _).alloc (Nat.le_refl _) _).alloc (by rw [alloc_size]; omega) _
 have hz : w.heap.size ≤ ((w1.alloc o1).alloc o2).heap.size := Nat.le_trans (Nat.le_trans h.grown.size G1.size) hb2.size
 refine ⟨(R1.new (Nat.le_refl _) hb2).grow g.grown (ne_row h.new hrl), ?_, h.ran.more A1, ?_, row_new h.new g hz, ?_⟩
 ·exact grownBy_row (grownBy_trans (grownBy_trans h.grown G1) (grownBy_below hb2 _)) g.grown h.new
 ·have e1 : (qs ++ [q]).length = qs.length + 1 := by simp
  have e2 : ((qs ++ [q]).map Rc.cells).flatten = (qs.map Rc.cells).flatten ++ q.cells := by simp
  rw [e1, e2]
  exact g.own
 ·intro y hy
  rcases List.mem_append.1 hy with hy | hy
  ·exact h.wf y hy
  ·simp at hy
   subst hy
   exact wq
theorem buildIn (s : ByteArray) (W : World) : (Instr.build 203 #[(0, .string s)]).run Tryz.prog W = .ok (.agg #[.string s, .int .i64 0, .bool false]) W := run_build W _ _ _ (by kernel_rfl)
theorem buildM8 (i o d : Int) (r w' c' w2 ab : Bool) (W : World) : (Instr.build 30 #[(0, .int .u16 i), (1, .bool r), (2, .int .i64 o), (3, .bool w'), (4, .bool c'), (5, .bool w2), (6, .bool ab), (7, .int .i64 d)]).run Tryz.prog W = .ok (.agg #[.int .u16 i, .bool r, .int .i64 o, .bool w', .bool c', .bool w2, .bool ab, .int .i64 d, .slice none 0 0, .slice none 0 0, .slice none 0 0, .slice none 0 0]) W := run_build W _ _ _ (by kernel_rfl)
attribute [local go_sem] buildM0 buildIn buildM8
theorem qcells_len (l : List Qn) : ∀ x ∈ l.map Qn.cells, x.length = 3 := by
 intro x hx
 obtain ⟨q, _, rfl⟩ := List.mem_map.1 hx
 rfl
theorem rcells_len (l : List Rc) : ∀ x ∈ l.map Rc.cells, x.length = 5 := by
 intro x hx
 obtain ⟨q, _, rfl⟩ := List.mem_map.1 hx
 rfl
structure UR (w W : World) (M : Nat) (s : ByteArray) (a : Nat) (bad : Bool) (m : Msg) (vq va vu vx : Value) : Prop where
 res : W.heap[w.heap.size]? = some (.cells zM0 30)
 non : W.heap[w.heap.size + 1]? = some (.cells zM0 30)
 rd : In W (w.heap.size + 1 + 1) s a bad
 lt : w.heap.size + 1 + 1 < M
 box : W.heap[M]? = some (.cells (msgCells m vq va vu vx) 30)
 below : Below w.heap.size w W
theorem UR.move {w W W' : World} {M : Nat} {s : ByteArray} {a a' : Nat} {bad bad' : Bool} {m : Msg} {vq va vu vx : Value} (h : UR w W M s a bad m vq va vu vx) (hw : W.grownBy W' (some (w.heap.size + 1 + 1))) (hr : In W' (w.heap.size + 1 + 1) s a' bad') : UR w W' M s a' bad' m vq va vu vx := by
 have hl := h.lt
 exact ⟨(hw.block _ (heap_lt h.res) (fun e => by have := Option.some.inj e; omega)).trans h.res, (hw.block _ (heap_lt h.non) (fun e => by have := Option.some.inj e; omega)).trans h.non, hr, hl, (hw.block _ (heap_lt h.box) (fun e => by have := Option.some.inj e; omega)).trans h.box, below_of_grown h.below (by omega) hw⟩
theorem UR.grow {w W W' : World} {M : Nat} {s : ByteArray} {a : Nat} {bad : Bool} {m : Msg} {vq va vu vx : Value} (h : UR w W M s a bad m vq va vu vx) {row : Option Nat} (hw : W.grownBy W' row) (hr : ∀ g, row = some g → M < g) : UR w W' M s a bad m vq va vu vx := by
 have hl := h.lt
 have ne : ∀ k, k ≤ M → some k ≠ row := fun k hk e => by have := hr k e.symm; omega
 refine ⟨(hw.block _ (heap_lt h.res) (ne _ (by omega))).trans h.res, (hw.block _ (heap_lt h.non) (ne _ (by omega))).trans h.non, h.rd.grow hw (Ne.symm (ne _ (by omega))), hl, (hw.block _ (heap_lt h.box) (ne _ (Nat.le_refl _))).trans h.box, ?_⟩
 exact h.below.trans ⟨hw.os, hw.tape, hw.output, hw.size, fun k hk => hw.block k (Nat.lt_of_lt_of_le hk h.below.size) (ne _ (by omega))⟩
theorem UR.set {w W : World} {M : Nat} {s : ByteArray} {a : Nat} {bad : Bool} {m m' : Msg} {vq va vu vx vq' va' vu' vx' : Value} (h : UR w W M s a bad m vq va vu vx) (j : Nat) (u : Value) (he : (msgCells m vq va vu vx).setIfInBounds j u = msgCells m' vq' va' vu' vx') : UR w (W.setCell ⟨M, j, none⟩ u) M s a bad m' vq' va' vu' vx' := by
 have hl := h.lt
 have hw := grownBy_setCell W M j u
 exact ⟨(hw.block _ (heap_lt h.res) (fun e => by have := Option.some.inj e; omega)).trans h.res, (hw.block _ (heap_lt h.non) (fun e => by have := Option.some.inj e; omega)).trans h.non, h.rd.grow hw (fun e => by have := Option.some.inj e; omega), hl, by rw [heap_setCell_eq h.box, he], below_of_grown h.below (by omega) hw⟩
end Go.Proofs.YtafoepfhepdcoaaGreat
namespace Go.Proofs.YtafoepfhepdcoaaGreat
open Go.RowKit Go.Trawl
attribute [local go_sem] selfQ selfR guardQ guardR
end Go.Proofs.YtafoepfhepdcoaaGreat
namespace Go.Proofs.YtafoepfhepdcoaaGreat
open Go.RowKit Go.Trawl
structure OpV where
 kind : Int
 n : Int
 m : Msg
 vq : Value
 va : Value
 vu : Value
 vx : Value
 s : ByteArray
 frm : Int
 b : Int
 d : Int
 c : Int
 t : Int
 vr : Value
 rs : List Int
def OpV.arr (o : OpV) : Array Value :=
 #[.int .i64 o.kind, .int .i64 o.n, .int .u16 o.m.id, .bool o.m.resp, .int .i64 o.m.op, .bool o.m.own, .bool o.m.cut, .bool o.m.wanted, .bool o.m.able, .int .i64 o.m.code, o.vq, o.va, o.vu, o.vx,
  .string o.s, .int .u32 o.frm, .int .i64 o.b, .int .i64 o.d, .int .i64 o.c, .int .i64 o.t, o.vr]
def OpV.cells (o : OpV) : List Value := o.arr.toList
structure OpAt (w : World) (o : OpV) : Prop where
 k0 : -9223372036854775808 ≤ o.kind
 k1 : o.kind ≤ 9223372036854775807
 n0 : -9223372036854775808 ≤ o.n
 n1 : o.n ≤ 9223372036854775807
 wf : WfM o.m
 msg : MsgAt w o.m o.vq o.va o.vu o.vx
 s : o.s.size ≤ 2097152
 f0 : 0 ≤ o.frm
 f1 : o.frm ≤ 4294967295
 r : Lies w 1 o.vr (o.rs.map fun x => [.int .u32 x])
 rn : o.rs.length ≤ 2097152
 b0 : -9223372036854775808 ≤ o.b
 b1 : o.b ≤ 9223372036854775807
 d0 : -9223372036854775808 ≤ o.d
 d1 : o.d ≤ 9223372036854775807
 c0 : -9223372036854775808 ≤ o.c
 c1 : o.c ≤ 9223372036854775807
 t0 : -9223372036854775808 ≤ o.t
 t1 : o.t ≤ 9223372036854775807
 rs : ∀ x ∈ o.rs, 0 ≤ x ∧ x ≤ 4294967295
theorem OpAt.below {w w' : World} {o : OpV} (h : OpAt w o) (hb : Below w.heap.size w w') : OpAt w' o :=
 { h with msg := h.msg.below hb, r := h.r.below hb }
theorem wpList_load_cells {P : Program} (w : World) {ops : Array Oper} {rest : List Oper} {o : Oper} {a : Act} {Q : Exit → Act → World → Prop} (hgd : o.guard = none) (ty : TypeId) (x : Operand) (ho : o.op = .load ty x)
  (ad : Addr) (hx : a.eval x = .pointer (some ad)) (cs : Array Value) (d : TypeDesc) (hu : P.underlying ty = some d) (hd : (match d with | .struct _ | .array _ _ => true | _ => false) = true) (hi : (P.info? ty).map (·.size) = some cs.size)
  (hc : ∀ j v, cs.toList[j]? = some v → w.cell? (ad.add j) = some v)
  (h : wpList P ops Q rest (a.put o.dst (.agg cs)) w) : wpList P ops Q (o :: rest) a w := by
 refine wpList_plain hgd fun K hK => ?_
 have hl := run_loadCells_list (P := P) w ad cs.toList hc
 have hr : (loadVar ty ad).run P w = .ok (.agg cs) w := by
  cases hq : P.info? ty with
  | none => simp [hq] at hi
  | some i =>
   have hs : i.size = cs.size := by simpa [hq] using hi
   have hagg : (isAgg ty).run P w = .ok true w := by
    unfold isAgg
    rw [Sem.run_bind, run_underlying hu w]
    cases d <;> simp_all
   simp only [Array.length_toList, Array.toArray_toList] at hl
   simp [loadVar, Sem.run_bind, hagg, sizeOf, typeInfo, hq, hs, hl]
 unfold Oper.wp execOp
 simp only [ho, hx, Instr.loadAt, Instr.sureAddr, Sem.run_bind, Sem.run_pure, Result.andThen_ok, hr]
 exact hK _ _ h
attribute [local go_sem] buildH0 buildH2 buildH3
def zMsg : Msg := ⟨0, false, 0, false, false, false, false, 0, [], [], [], []⟩
def unM (s : ByteArray) : Msg := (unpack s).getD zMsg
def unE (s : ByteArray) : Int := if (unpack s).isSome then 0 else 1
theorem zMsg_wf : WfM zMsg := ⟨by decide, by decide, by decide, by decide, by decide, by decide, by decide, by decide, by decide, by decide, (fun q hq => by cases hq), (fun r hr => by cases hr)⟩
theorem liesNil (w : World) (sz : Nat) : Lies w sz (.slice none 0 0) [] := ⟨none, 0, rfl, fun _ => rfl, .inl rfl⟩
theorem tUnpack2 (w : World) (b c : Nat) (s : ByteArray) (hsm : s.size ≤ 2097152) (hsc : s.size ≤ c) (hbl : b < w.heap.size) (hc : Bytes w b s) :
  Calls Tryz.prog 16 #[.slice (some ⟨b, 0, none⟩) s.size c] w fun e w' => ∃ (aq : Option Addr) (cq : Nat) (aa : Option Addr) (ca : Nat) (au : Option Addr) (cu : Nat) (ax : Option Addr) (cx : Nat),
   e = .returned (.tuple #[.agg (msgCells (unM s) (.slice aq (unM s).qs.length cq) (.slice aa (unM s).an.length ca) (.slice au (unM s).au.length cu) (.slice ax (unM s).ex.length cx)), .int .i64 (unE s)]) ∧
   Hid (Below w.heap.size w w' ∧ WfM (unM s) ∧ Rows4 (w.heap.size + 1) w' (unM s) (.slice aq (unM s).qs.length cq) (.slice aa (unM s).an.length ca) (.slice au (unM s).au.length cu) (.slice ax (unM s).ex.length cx)) := by
 cases hu : unpack s with
 | none =>
  have e1 : unM s = zMsg := by unfold unM; rw [hu]; rfl
  have e2 : unE s = 1 := by unfold unE; rw [hu]; rfl
  rw [e1, e2]
  refine (tUnpack_no w b c s hsm hsc hbl hc hu).mono ?_
  rintro e w' ⟨rfl, H⟩
  exact ⟨none, 0, none, 0, none, 0, none, 0, rfl, H.out, zMsg_wf, ⟨World.ownsRow_nil _ _ _ _, World.ownsRow_nil _ _ _ _, World.ownsRow_nil _ _ _ _, World.ownsRow_nil _ _ _ _, nil_free, nil_free, nil_free, nil_free, nil_free, nil_free, nil_free, nil_free, nil_free, nil_free⟩⟩
 | some m =>
  have e1 : unM s = m := by unfold unM; rw [hu]; rfl
  have e2 : unE s = 0 := by unfold unE; rw [hu]; rfl
  rw [e1, e2]
  refine (tUnpack_yes w b c s hsm hsc hbl hc m hu).mono ?_
  rintro e w' ⟨vq, va, vu, vx, rfl, H⟩
  obtain ⟨hb, hwf, hr⟩ := H.out
  obtain ⟨aq, cq, rfl⟩ := own_slice hr.q
  obtain ⟨aa, ca, rfl⟩ := own_slice hr.a
  obtain ⟨au, cu, rfl⟩ := own_slice hr.u
  obtain ⟨ax, cx, rfl⟩ := own_slice hr.x
  exact ⟨aq, cq, aa, ca, au, cu, ax, cx, rfl, hb, hwf, hr⟩
def OpBox (w : World) (N : Nat) (s : ByteArray) : Prop := ∃ cs t, w.heap[N]? = some (.cells cs t) ∧ cs[14]? = some (.string s)
theorem OpBox.cell {w : World} {N : Nat} {s : ByteArray} (h : OpBox w N s) : w.cell? ⟨N, 14, none⟩ = some (.string s) := by
 obtain ⟨cs, t, h1, h2⟩ := h
 rw [box_cells h1 14, h2]
theorem OpBox.lt {w : World} {N : Nat} {s : ByteArray} (h : OpBox w N s) : N < w.heap.size := by
 obtain ⟨cs, t, h1, h2⟩ := h
 exact heap_lt h1
theorem OpBox.below {w w' : World} {N : Nat} {s : ByteArray} (h : OpBox w N s) (hb : Below w.heap.size w w') : OpBox w' N s := by
 have hl := h.lt
 obtain ⟨cs, t, h1, h2⟩ := h
 exact ⟨cs, t, (hb.block N hl).trans h1, h2⟩
theorem Rows4.below {B : Nat} {w w' : World} {m : Msg} {vq va vu vx : Value} (h : Rows4 B w m vq va vu vx) (hb : Below w.heap.size w w') : Rows4 B w' m vq va vu vx :=
 { h with q := own_below h.q hb, a := own_below h.a hb, u := own_below h.u hb, x := own_below h.x hb }
theorem Rows4.at {B : Nat} {w : World} {m : Msg} {vq va vu vx : Value} (h : Rows4 B w m vq va vu vx) : MsgAt w m vq va vu vx :=
 ⟨own_lies h.q (qcells_len _) (by simp), own_lies h.a (rcells_len _) (by simp), own_lies h.u (rcells_len _) (by simp), own_lies h.x (rcells_len _) (by simp)⟩
end Go.Proofs.YtafoepfhepdcoaaGreat
namespace Go.Proofs.YtafoepfhepdcoaaGreat
open Go.RowKit Go.Trawl
def confOk (b d c t : Int) (rs : List Int) : Prop := (1 ≤ b ∧ b ≤ 200) ∧ (0 ≤ d ∧ d ≤ 6) ∧ (0 ≤ c ∧ c ≤ 10) ∧ (1 ≤ t ∧ t ≤ 8) ∧ 1 ≤ rs.length ∧ rs.length ≤ 8
instance (b d c t : Int) (rs : List Int) : Decidable (confOk b d c t rs) := by unfold confOk; infer_instance
def newSt (b d c t : Int) (rs : List Int) : RSt := ⟨b, d, c, t, rs, 0, false, zMsg, [], [], [], 0, 0, ⟨#[]⟩⟩
theorem newSt_ok {b d c t : Int} {rs : List Int} (h : confOk b d c t rs) : StOk (newSt b d c t rs) :=
 ⟨h.1.1, h.1.2, h.2.1.1, h.2.1.2, h.2.2.1.1, h.2.2.1.2, h.2.2.2.1.1, h.2.2.2.1.2, h.2.2.2.2.1, h.2.2.2.2.2, by simp [newSt], by simp [newSt], zMsg_wf, by simp [newSt], by simp [newSt], by simp [newSt], by simp [newSt], by simp [newSt], by simp [newSt], by simp [newSt]⟩
def refM (id code : Int) (qs : List Qn) : Msg := ⟨id, false, 0, false, false, false, false, code, qs, [], [], []⟩
def beginSt (st : RSt) (m : Msg) (q : Qn) : RSt := { st with busy := true, asked := m, kept := [], seen := [q.name], l := [freshCh st q.name q.kind], spent := 0 }
def askS (st : RSt) (s : ByteArray) : RSt × Value × Int :=
 if st.busy then (st, stepV 0 0 ⟨#[]⟩, 3)
 else if s.size < 12 then (st, stepV 2 0 ⟨#[]⟩, 0)
 else match unpack s with
  | none => (st, stepV 2 0 (str (replyL (refM (n2 s 0) 1 []))), 0)
  | some m =>
   if m.resp then (st, stepV 2 0 (str (replyL (refM (n2 s 0) 1 []))), 0)
   else match m.qs with
    | [q] => if m.op ≠ 0 ∨ q.cls ≠ 1 then (st, stepV 2 0 (str (replyL (refM m.id 4 [q]))), 0)
     else ((askP (beginSt st m q) [] (freshCh st q.name q.kind)).1, (askP (beginSt st m q) [] (freshCh st q.name q.kind)).2, 0)
    | _ => (st, stepV 2 0 (str (replyL (refM m.id 4 []))), 0)
theorem par_bind {α β : Type} {p : Par α} {f : α → Par β} {a : Nat} {r : β × Nat} (h : p.bind f a = some r) : ∃ q, p a = some q ∧ f q.1 q.2 = some r := by
 unfold Par.bind at h
 cases hp : p a with
 | none => rw [hp] at h; cases h
 | some q => rw [hp] at h; exact ⟨q, rfl, h⟩
theorem unpack_id {s : ByteArray} {m : Msg} (h : unpack s = some m) : m.id = n2 s 0 := by
 unfold unpack at h
 split at h
 ·cases hp : pM s 0 with
  | none => simp [hp] at h
  | some r =>
   simp only [hp, Option.bind_some] at h
   split at h
   ·cases h
    unfold pM at hp
    obtain ⟨q, h1, h2⟩ := par_bind hp
    have e : q.1 = (n2 s 0 : Int) := by
     unfold num2 at h1
     split at h1
     ·cases h1; rfl
     ·cases h1
    have key : ∀ id : Int, Always _ fun m : Msg => m.id = id := fun id =>
     (Always.any (num2 s)).bind fun f _ => (Always.any (num2 s)).bind fun q _ => (Always.any (num2 s)).bind fun a _ => (Always.any (num2 s)).bind fun u _ => (Always.any (num2 s)).bind fun x _ =>
      (Always.any ((pQ s).many q.toNat)).bind fun qs _ => (Always.any ((pR s).many a.toNat)).bind fun an _ => (Always.any ((pR s).many u.toNat)).bind fun au _ => (Always.any ((pR s).many x.toNat)).bind fun ex _ => Always.pure (x := flagged id f qs an au ex) rfl
    rw [← e]
    exact key q.1 q.2 r h2
   ·cases h
 ·cases h
inductive Ph where
 | idle
 | send
 | fail
 | failAll
 | seek
 | finish
structure QSt where
 b : Int
 d : Int
 c : Int
 t : Int
 roots : List Int
 id : Int
 ph : Ph
 ch : List Ch
 sent : Nat
 reply : Msg
abbrev QOut := Int × Int × List UInt8
def noOut : QOut := (0, 0, [])
def newQ (n : ByteArray) (k : Int) : Ch := ⟨n, k, ⟨#[]⟩, [], 0, []⟩
def startQ (s : QSt) (c : Ch) (r : List Ch) : QSt := { s with ph := .send, ch := { c with zone := rootN, servers := s.roots } :: r }
def settleQ (s : QSt) (code : Int) (l : List Rc) : QSt := { s with ph := .finish, reply := { s.reply with code := code, an := if code = 2 then [] else s.reply.an ++ l } }
def endQ (s : QSt) (code : Int) (l : List Rc) : QSt :=
 match s.ch with
 | _ :: a :: r => { s with ph := .seek, ch := { a with servers := addrs l } :: r }
 | _ => settleQ s code l
def sendQ (s : QSt) : QSt × QOut :=
 match s.ch with
 | [] => (s, noOut)
 | c :: r =>
  if (c.sent : Int) = s.t then ({ s with ph := .fail }, noOut)
  else if (s.sent : Int) = s.b then ({ s with ph := .failAll }, noOut)
  else ({ s with ch := { c with sent := c.sent + 1 } :: r, sent := s.sent + 1, id := nextId s.id }, (1, toOf c, packL (askM (nextId s.id) c)))
def seekQ (s : QSt) : QSt :=
 match s.ch with
 | [] => s
 | c :: r =>
  if c.servers ≠ [] then { s with ph := .send, ch := { c with names := [] } :: r }
  else match c.names with
   | [] => { s with ph := .fail }
   | n :: ns => if (r.length : Int) = s.d then { s with ph := .fail } else startQ s (newQ n 1) ({ c with names := ns } :: r)
def idleQ (s : QSt) : QSt := { s with ph := .idle, ch := [], sent := 0, reply := zMsg }
def stepQ (s : QSt) : QSt × QOut :=
 match s.ph with
 | .idle => (s, noOut)
 | .send => sendQ s
 | .fail => (endQ s 2 [], noOut)
 | .failAll => (settleQ s 2 [], noOut)
 | .seek => (seekQ s, noOut)
 | .finish => (idleQ s, (2, 0, replyL s.reply))
def goes : Nat → QSt → Option (QSt × QOut)
 | 0, _ => none
 | n + 1, s => if (stepQ s).2.1 = 0 then goes n (stepQ s).1 else some (stepQ s)
structure QcOk (t : Int) (c : Ch) : Prop where
 name : nameB c.name = true
 k0 : 0 ≤ c.kind
 k1 : c.kind ≤ 65535
 zone : nameB c.zone = true
 servers : c.servers.length ≤ 4294967295
 sent : (c.sent : Int) ≤ t
 names : c.names.length ≤ 2097152
 texts : ∀ x ∈ c.names, nameB x = true
structure QOk (s : QSt) : Prop where
 b0 : 1 ≤ s.b
 b1 : s.b ≤ 200
 d0 : 0 ≤ s.d
 d1 : s.d ≤ 6
 c0 : 0 ≤ s.c
 c1 : s.c ≤ 10
 t0 : 1 ≤ s.t
 t1 : s.t ≤ 8
 r0 : 1 ≤ s.roots.length
 r1 : s.roots.length ≤ 8
 id0 : 0 ≤ s.id
 id1 : s.id ≤ 65535
 sent : (s.sent : Int) ≤ s.b
 chs : ∀ c ∈ s.ch, QcOk s.t c
 len : (s.ch.length : Int) ≤ s.d + 1
 reply : WfM s.reply
 au : s.reply.au = []
 ex : s.reply.ex = []
 few : s.reply.an.length ≤ 1048576
 busy : s.ph ≠ .idle → s.ch ≠ [] ∧ s.reply.resp = true ∧ ∃ q, s.reply.qs = [q] ∧ NamedQ q
 an : s.ph ≠ .finish → (s.reply.an.length : Int) ≤ s.c
 srv : s.ph = .send → ∀ c r, s.ch = c :: r → c.servers ≠ []
theorem rootN_name : nameB rootN = true := by decide
theorem addrs_len (l : List Rc) : (addrs l).length ≤ l.length := by
 unfold addrs
 rw [List.length_map]
 exact List.length_filter_le _ _
theorem startQ_ok {s : QSt} (h : QOk s) (c : Ch) (r : List Ch) (hb : s.reply.resp = true ∧ ∃ q, s.reply.qs = [q] ∧ NamedQ q) (ha : (s.reply.an.length : Int) ≤ s.c) (hn : nameB c.name = true) (k0 : 0 ≤ c.kind) (k1 : c.kind ≤ 65535) (hs : c.sent = 0) (he : c.names = []) (hr : ∀ x ∈ r, QcOk s.t x) (hl : (r.length : Int) ≤ s.d) : QOk (startQ s c r) := by
 have hr0 := h.r0
 have hr1 := h.r1
 have ht := h.t0
 refine { h with chs := fun x hx => ?_, len := by simp only [startQ, List.length_cons]; omega, busy := fun _ => ⟨by simp [startQ], hb⟩, an := fun _ => ha, srv := fun _ x y e => ?_ }
 ·simp only [startQ, List.mem_cons] at hx
  rcases hx with rfl | hx
  ·exact ⟨hn, k0, k1, rootN_name, by dsimp only; omega, by dsimp only [startQ]; omega, by simp [he], by simp [he]⟩
  ·exact hr x hx
 ·simp only [startQ] at e
  injection e with e _
  rw [← e]
  intro e
  have : s.roots = [] := e
  rw [this] at hr0
  simp at hr0
theorem settleQ_ok {s : QSt} (h : QOk s) (hp : s.ph ≠ .idle) (code : Int) (hc : -9223372036854775808 ≤ code ∧ code ≤ 9223372036854775807) (l : List Rc) (hl : l.length ≤ 65535) (hw : ∀ r ∈ l, WfR r) (ha : (s.reply.an.length : Int) ≤ s.c) : QOk (settleQ s code l) := by
 have hc1 := h.c1
 have hm := h.reply
 have hlen : (if code = 2 then [] else s.reply.an ++ l).length ≤ 70000 := by
  split
  ·simp
  ·rw [List.length_append]; omega
 refine { h with reply := ?_, few := by simp only [settleQ]; omega, busy := fun _ => ⟨(h.busy hp).1, (h.busy hp).2⟩, an := fun e => absurd rfl e, srv := fun e => by cases e }
 refine { hm with code0 := hc.1, code1 := hc.2, na := by simp only [settleQ]; omega, rs := fun r hr => ?_ }
 simp only [settleQ, recs, List.mem_append] at hr
 rcases hr with (hr | hr) | hr
 ·split at hr
  ·cases hr
  ·rcases List.mem_append.1 hr with hr | hr
   ·exact hm.rs r (by simp [recs, hr])
   ·exact hw r hr
 ·exact hm.rs r (by simp [recs, hr])
 ·exact hm.rs r (by simp [recs, hr])
theorem endQ_ok {s : QSt} (h : QOk s) (hp : s.ph ≠ .idle) (code : Int) (hc : -9223372036854775808 ≤ code ∧ code ≤ 9223372036854775807) (l : List Rc) (hl : l.length ≤ 65535) (hw : ∀ r ∈ l, WfR r) (ha : (s.reply.an.length : Int) ≤ s.c) : QOk (endQ s code l) := by
 unfold endQ
 split
 ·rename_i c0 a r e
  have hlen := h.len
  have hch := h.chs
  rw [e] at hlen hch
  have hA := hch a (by simp)
  have := addrs_len l
  refine { h with chs := fun x hx => ?_, len := by simp only [List.length_cons] at hlen ⊢; omega, busy := fun _ => ⟨by simp, (h.busy hp).2⟩, an := fun _ => ha, srv := fun e => by cases e }
  simp only [List.mem_cons] at hx
  rcases hx with rfl | hx
  ·exact { hA with servers := by dsimp only; omega }
  ·exact hch x (by simp [hx])
 ·exact settleQ_ok h hp code hc l hl hw ha
theorem stepQ_ok {s : QSt} (h : QOk s) (hp : s.ph ≠ .idle) : QOk (stepQ s).1 := by
 have hb := h.busy hp
 unfold stepQ
 split
 ·rename_i e; exact absurd e hp
 ·rename_i e
  have ha := h.an (by rw [e]; simp)
  unfold sendQ
  split
  ·exact h
  ·rename_i c r ec
   have hch := h.chs
   have hlen := h.len
   rw [ec] at hch hlen
   have hC := hch c (by simp)
   have hs := hC.sent
   have hsb := h.sent
   split
   ·exact { h with busy := fun _ => hb, an := fun _ => ha, srv := fun e => by cases e }
   ·split
    ·exact { h with busy := fun _ => hb, an := fun _ => ha, srv := fun e => by cases e }
    ·refine { h with id0 := by show 0 ≤ nextId s.id; unfold nextId; omega, id1 := by show nextId s.id ≤ 65535; unfold nextId; omega, sent := by dsimp only; omega, chs := fun x hx => ?_, len := by simpa using hlen, busy := fun _ => ⟨by simp, hb.2⟩, an := fun _ => ha, srv := fun _ x y exy => ?_ }
     ·simp only [List.mem_cons] at hx
      rcases hx with rfl | hx
      ·exact { hC with sent := by dsimp only; omega }
      ·exact hch x (by simp [hx])
     ·injection exy with e1 _
      rw [← e1]
      exact h.srv e c r ec
 ·rename_i e
  exact endQ_ok h hp 2 (by decide) [] (by simp) (by simp) (h.an (by rw [e]; simp))
 ·rename_i e
  exact settleQ_ok h hp 2 (by decide) [] (by simp) (by simp) (h.an (by rw [e]; simp))
 ·rename_i e
  have ha := h.an (by rw [e]; simp)
  show QOk (seekQ s)
  unfold seekQ
  split
  ·exact h
  ·rename_i c r ec
   have hch := h.chs
   have hlen := h.len
   rw [ec] at hch hlen
   have hC := hch c (by simp)
   split
   ·rename_i hne
    refine { h with chs := fun x hx => ?_, len := by simpa using hlen, busy := fun _ => ⟨by simp, hb.2⟩, an := fun _ => ha, srv := fun _ x y exy => ?_ }
    ·simp only [List.mem_cons] at hx
     rcases hx with rfl | hx
     ·exact { hC with names := by simp, texts := by simp }
     ·exact hch x (by simp [hx])
    ·injection exy with e1 _
     rw [← e1]
     exact hne
   ·split
    ·exact { h with busy := fun _ => hb, an := fun _ => ha, srv := fun e => by cases e }
    ·rename_i n ns en
     split
     ·exact { h with busy := fun _ => hb, an := fun _ => ha, srv := fun e => by cases e }
     ·rename_i hd
      have h1 := hC.names
      have h2 := hC.texts
      rw [en] at h1 h2
      refine startQ_ok h _ _ hb.2 ha (h2 n (by simp)) (show (0 : Int) ≤ 1 by decide) (show (1 : Int) ≤ 65535 by decide) rfl rfl (fun x hx => ?_) (by simp only [List.length_cons] at hlen ⊢; omega)
      simp only [List.mem_cons] at hx
      rcases hx with rfl | hx
      ·exact { hC with names := by simp only [List.length_cons] at h1; dsimp only; omega, texts := fun x hx => h2 x (by simp [hx]) }
      ·exact hch x (by simp [hx])
 ·refine { h with sent := by have := h.b0; simp only [idleQ]; omega, chs := by simp [idleQ], len := by have := h.d0; simp only [idleQ, List.length_nil]; omega, reply := zMsg_wf, au := rfl, ex := rfl, few := by simp [idleQ, zMsg], busy := fun e => absurd rfl e, an := fun _ => by have := h.c0; simpa [idleQ, zMsg] using this, srv := fun e => by cases e }
end Go.Proofs.YtafoepfhepdcoaaGreat
