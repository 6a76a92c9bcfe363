import Derived.Test.YtafoepfhepdcoaaGreatM11
import Derived.Test.YtafoepfhepdcoaaGreatM12
set_option maxRecDepth 100000
set_option maxHeartbeats 8000000
namespace Go.Proofs.YtafoepfhepdcoaaGreat
open Go.RowKit Go.Trawl
structure QC where
 ch : Ch
 blk : Nat
 vs : Value
 vn : Value
structure QV where
 vR : Value
 vq : Value
 vK : Value
def nextV (sb : Nat) : Ph → Value
 | .idle => .nilFunc
 | .send => .func (.func 162) #[.pointer (some ⟨sb, 0, none⟩)] #[]
 | .fail => .func (.func 163) #[.pointer (some ⟨sb, 0, none⟩)] #[]
 | .failAll => .func (.func 175) #[.pointer (some ⟨sb, 0, none⟩)] #[]
 | .seek => .func (.func 124) #[.pointer (some ⟨sb, 0, none⟩)] #[]
 | .finish => .func (.func 171) #[.pointer (some ⟨sb, 0, none⟩)] #[]
def chPtr : List QC → Value
 | [] => .pointer none
 | c :: _ => .pointer (some ⟨c.blk, 0, none⟩)
def qcCells (c : QC) (r : List QC) : Array Value := #[chPtr r, .int .i64 r.length, .string c.ch.name, .int .u16 c.ch.kind, .string c.ch.zone, c.vn, c.vs, .int .i64 c.ch.sent]
def Chain (w : World) : List QC → Prop
 | [] => True
 | c :: r => w.heap[c.blk]? = some (.cells (qcCells c r) 192) ∧ Lies w 1 c.vs (wordsV c.ch.servers) ∧ Lies w 1 c.vn (textsV c.ch.names) ∧ capOk c.vn ∧ Chain w r
def qCells (s : QSt) (V : QV) (sb : Nat) (cs : List QC) : Array Value :=
 #[.int .i64 s.b, .int .i64 s.d, .int .i64 s.c, .int .i64 s.t, V.vR, .int .u16 s.id, nextV sb s.ph, chPtr cs, .int .i64 s.sent,
  .int .u16 s.reply.id, .bool s.reply.resp, .int .i64 s.reply.op, .bool s.reply.own, .bool s.reply.cut, .bool s.reply.wanted, .bool s.reply.able, .int .i64 s.reply.code, V.vq, V.vK, .slice none 0 0, .slice none 0 0]
def QV.reads (V : QV) (cs : List QC) : List Value := V.vR :: V.vq :: cs.flatMap fun c => [c.vs, c.vn]
def QV.writes (V : QV) (cs : List QC) (sb k : Nat) : Prop := k = sb ∨ V.vK.ownBlock = some k ∨ ∃ c ∈ cs, k = c.blk
def QV.owns (V : QV) (cs : List QC) (sb k : Nat) : Prop := V.writes cs sb k ∨ ∃ v ∈ V.reads cs, v.ownBlock = some k
structure QAt (w : World) (sb : Nat) (s : QSt) (V : QV) (cs : List QC) : Prop where
 box : w.heap[sb]? = some (.cells (qCells s V sb cs) 150)
 chs : cs.map QC.ch = s.ch
 roots : Lies w 1 V.vR (wordsV s.roots)
 qs : Lies w 3 V.vq (s.reply.qs.map Qn.cells)
 kept : w.ownsRow 0 69 5 V.vK s.reply.an.length ((s.reply.an.map Rc.cells).flatten)
 chain : Chain w cs
 nod : (cs.map QC.blk).Nodup
 free : ∀ v ∈ V.reads cs, ∀ k, v.ownBlock = some k → ¬ V.writes cs sb k
 lt : ∀ k, V.owns cs sb k → k < w.heap.size
theorem mem_reads {V : QV} {cs : List QC} {v : Value} : v ∈ V.reads cs ↔ v = V.vR ∨ v = V.vq ∨ ∃ c ∈ cs, v = c.vs ∨ v = c.vn := by
 simp only [QV.reads, List.mem_cons, List.mem_flatMap, List.not_mem_nil, or_false]
theorem Chain.keep {w w' : World} (hs : w.heap.size ≤ w'.heap.size) : ∀ {cs : List QC}, Chain w cs → (∀ c ∈ cs, w'.heap[c.blk]? = w.heap[c.blk]?) → (∀ c ∈ cs, ∀ k, (c.vs.ownBlock = some k ∨ c.vn.ownBlock = some k) → w'.heap[k]? = w.heap[k]?) → Chain w' cs
 | [], _, _, _ => trivial
 | c :: r, h, h1, h2 => ⟨(h1 c (by simp)).trans h.1, h.2.1.keep hs (fun b hb _ => h2 c (by simp) b (.inl hb)), h.2.2.1.keep hs (fun b hb _ => h2 c (by simp) b (.inr hb)), h.2.2.2.1, Chain.keep hs h.2.2.2.2 (fun x hx => h1 x (by simp [hx])) (fun x hx => h2 x (by simp [hx]))⟩
theorem Chain.mem {w : World} : ∀ {cs : List QC}, Chain w cs → ∀ c ∈ cs, (∃ xs, w.heap[c.blk]? = some (.cells xs 192))
 | c :: r, h, x, hx => by
  rcases List.mem_cons.1 hx with rfl | hx
  ·exact ⟨_, h.1⟩
  ·exact Chain.mem h.2.2.2.2 x hx
theorem Chain.nsb {w : World} {cs : List QC} {sb : Nat} {xs : Array Value} (h : Chain w cs) (hb : w.heap[sb]? = some (.cells xs 150)) : ∀ c ∈ cs, c.blk ≠ sb := fun c hc => by
 obtain ⟨ys, hy⟩ := h.mem c hc
 exact type_ne hy hb (by decide)
theorem QAt.at {w w' : World} {sb : Nat} {s : QSt} {V : QV} {cs : List QC} (h : QAt w sb s V cs) (hs : w.heap.size ≤ w'.heap.size) (hk : ∀ k, V.owns cs sb k → w'.heap[k]? = w.heap[k]?) : QAt w' sb s V cs := by
 have hr : ∀ v ∈ V.reads cs, ∀ k, v.ownBlock = some k → w'.heap[k]? = w.heap[k]? := fun v hv k e => hk k (.inr ⟨v, hv, e⟩)
 refine ⟨(hk sb (.inl (.inl rfl))).trans h.box, h.chs, h.roots.keep hs (fun b hb _ => hr _ (mem_reads.2 (.inl rfl)) b hb), h.qs.keep hs (fun b hb _ => hr _ (mem_reads.2 (.inr (.inl rfl))) b hb), own_same_at h.kept (fun k e => hk k (.inl (.inr (.inl e)))), h.chain.keep hs (fun c hc => hk _ (.inl (.inr (.inr ⟨c, hc, rfl⟩)))) (fun c hc k e => ?_), h.nod, h.free, fun k e => Nat.lt_of_lt_of_le (h.lt k e) hs⟩
 rcases e with e | e
 ·exact hr _ (mem_reads.2 (.inr (.inr ⟨c, hc, .inl rfl⟩))) k e
 ·exact hr _ (mem_reads.2 (.inr (.inr ⟨c, hc, .inr rfl⟩))) k e
theorem QAt.below {w w' : World} {sb : Nat} {s : QSt} {V : QV} {cs : List QC} (h : QAt w sb s V cs) (hb : Below w.heap.size w w') : QAt w' sb s V cs := h.at hb.size (fun k hk => hb.block k (h.lt k hk))
theorem QAt.aside {w w' : World} {sb r : Nat} {s : QSt} {V : QV} {cs : List QC} (h : QAt w sb s V cs) (hw : w.grownBy w' (some r)) (hr : ¬ V.owns cs sb r) : QAt w' sb s V cs := h.at hw.size (fun k hk => hw.block k (h.lt k hk) (fun e => hr (by rw [← Option.some.inj e]; exact hk)))
theorem QAt.slt {w : World} {sb : Nat} {s : QSt} {V : QV} {cs : List QC} (h : QAt w sb s V cs) : sb < w.heap.size := heap_lt h.box
theorem QAt.turn {w w' : World} {sb : Nat} {s s' : QSt} {V V' : QV} {cs cs' : List QC} (h : QAt w sb s V cs) (hw : w.grownBy w' (some sb)) (hb : w'.heap[sb]? = some (.cells (qCells s' V' sb cs') 150)) (er : s'.roots = s.roots) (eR : V'.vR = V.vR)
  (hq : Lies w 3 V'.vq (s'.reply.qs.map Qn.cells)) (hK : w.ownsRow 0 69 5 V'.vK s'.reply.an.length ((s'.reply.an.map Rc.cells).flatten)) (hc : cs'.map QC.ch = s'.ch) (hch : Chain w cs') (hn : (cs'.map QC.blk).Nodup)
  (hf : ∀ v ∈ V'.reads cs', ∀ k, v.ownBlock = some k → ¬ V'.writes cs' sb k) (hl : ∀ k, V'.owns cs' sb k → k < w.heap.size) : QAt w' sb s' V' cs' := by
 have keep : ∀ k, k < w.heap.size → k ≠ sb → w'.heap[k]? = w.heap[k]? := fun k h1 h2 => hw.block k h1 (fun e => h2 (Option.some.inj e))
 have hr : ∀ v ∈ V'.reads cs', ∀ k, v.ownBlock = some k → w'.heap[k]? = w.heap[k]? := fun v hv k e => keep k (hl k (.inr ⟨v, hv, e⟩)) (fun e2 => hf v hv k e (.inl e2))
 have hs := hw.size
 refine ⟨hb, hc, ?_, hq.keep hs (fun b hb _ => hr _ (mem_reads.2 (.inr (.inl rfl))) b hb), own_same_at hK (fun k e => keep k (hl k (.inl (.inr (.inl e)))) (fun e2 => own_type_ne hK h.box (by decide) (by rw [← e2]; exact e))), hch.keep hs (fun c hc => keep _ (hl _ (.inl (.inr (.inr ⟨c, hc, rfl⟩)))) (hch.nsb h.box c hc)) (fun c hc k e => ?_), hn, hf, fun k e => Nat.lt_of_lt_of_le (hl k e) hs⟩
 ·rw [er]
  have := h.roots
  rw [← eR] at this
  exact this.keep hs (fun b hb _ => hr _ (mem_reads.2 (.inl rfl)) b hb)
 ·rcases e with e | e
  ·exact hr _ (mem_reads.2 (.inr (.inr ⟨c, hc, .inl rfl⟩))) k e
  ·exact hr _ (mem_reads.2 (.inr (.inr ⟨c, hc, .inr rfl⟩))) k e
theorem QAt.set {w : World} {sb : Nat} {s s' : QSt} {V : QV} {cs : List QC} (h : QAt w sb s V cs) (j : Nat) (u : Value) (he : (qCells s V sb cs).setIfInBounds j u = qCells s' V sb cs) (e1 : s'.ch = s.ch) (e2 : s'.roots = s.roots) (e3 : s'.reply.qs = s.reply.qs) (e4 : s'.reply.an = s.reply.an) : QAt (w.setCell ⟨sb, j, none⟩ u) sb s' V cs :=
 h.turn (grownBy_setCell w sb j u) (by rw [heap_setCell_eq h.box, he]) e2 rfl (by rw [e3]; exact h.qs) (by rw [e4]; exact h.kept) (by rw [e1]; exact h.chs) h.chain h.nod h.free h.lt
theorem QAt.link {w : World} {sb : Nat} {s : QSt} {V : QV} {cs cs' : List QC} (h : QAt w sb s V cs) (hch : Chain w cs') (hn : (cs'.map QC.blk).Nodup) (hf : ∀ v ∈ V.reads cs', ∀ k, v.ownBlock = some k → ¬ V.writes cs' sb k) (hl : ∀ k, V.owns cs' sb k → k < w.heap.size) : QAt (w.setCell ⟨sb, 7, none⟩ (chPtr cs')) sb { s with ch := cs'.map QC.ch } V cs' :=
 h.turn (grownBy_setCell w sb 7 _) (by rw [heap_setCell_eq h.box]; rfl) rfl rfl h.qs h.kept rfl hch hn hf hl
theorem QAt.head {w w' : World} {sb : Nat} {s : QSt} {V : QV} {c c' : QC} {r : List QC} (h : QAt w sb s V (c :: r)) (hb : c'.blk = c.blk) (hw : w.grownBy w' (some c.blk)) (hx : w'.heap[c.blk]? = some (.cells (qcCells c' r) 192)) (h1 : Lies w 1 c'.vs (wordsV c'.ch.servers)) (h2 : Lies w 1 c'.vn (textsV c'.ch.names)) (h3 : capOk c'.vn)
  (hk : ∀ k, (c'.vs.ownBlock = some k ∨ c'.vn.ownBlock = some k) → k < w.heap.size ∧ ¬ V.writes (c :: r) sb k) : QAt w' sb { s with ch := c'.ch :: r.map QC.ch } V (c' :: r) := by
 have hs := hw.size
 have hwr : ∀ k, V.writes (c' :: r) sb k ↔ V.writes (c :: r) sb k := fun k => by
  unfold QV.writes
  simp [hb]
 have keep : ∀ k, k < w.heap.size → k ≠ c.blk → w'.heap[k]? = w.heap[k]? := fun k h1 h2 => hw.block k h1 (fun e => h2 (Option.some.inj e))
 have hcw : V.writes (c :: r) sb c.blk := .inr (.inr ⟨c, by simp, rfl⟩)
 have nsb := h.chain.nsb h.box
 have hrd : ∀ v ∈ V.reads (c' :: r), ∀ k, v.ownBlock = some k → k < w.heap.size ∧ ¬ V.writes (c :: r) sb k := by
  intro v hv k e
  rcases mem_reads.1 hv with e1 | e1 | ⟨x, hx, e1⟩
  ·exact ⟨h.lt k (.inr ⟨v, mem_reads.2 (.inl e1), e⟩), h.free v (mem_reads.2 (.inl e1)) k e⟩
  ·exact ⟨h.lt k (.inr ⟨v, mem_reads.2 (.inr (.inl e1)), e⟩), h.free v (mem_reads.2 (.inr (.inl e1))) k e⟩
  ·rcases List.mem_cons.1 hx with rfl | hx
   ·rcases e1 with rfl | rfl
    ·exact hk k (.inl e)
    ·exact hk k (.inr e)
   ·have hm : v ∈ V.reads (c :: r) := mem_reads.2 (.inr (.inr ⟨x, by simp [hx], e1⟩))
    exact ⟨h.lt k (.inr ⟨v, hm, e⟩), h.free v hm k e⟩
 have hrk : ∀ v ∈ V.reads (c' :: r), ∀ k, v.ownBlock = some k → w'.heap[k]? = w.heap[k]? := fun v hv k e => keep k (hrd v hv k e).1 (fun e2 => (hrd v hv k e).2 (by rw [e2]; exact hcw))
 have hnd := h.nod
 simp only [List.map_cons, List.nodup_cons, List.mem_map, not_exists, not_and] at hnd
 refine ⟨?_, rfl, h.roots.keep hs (fun b hb _ => hrk _ (mem_reads.2 (.inl rfl)) b hb), h.qs.keep hs (fun b hb _ => hrk _ (mem_reads.2 (.inr (.inl rfl))) b hb), own_same_at h.kept (fun k e => keep k (h.lt k (.inl (.inr (.inl e)))) (fun e2 => own_type_ne h.kept h.chain.1 (by decide) (by rw [← e2]; exact e))), ⟨by rw [hb]; exact hx, ?_, ?_, h3, ?_⟩, by simpa [hb] using h.nod, fun v hv k e hwk => (hrd v hv k e).2 ((hwr k).1 hwk), fun k e => ?_⟩
 ·rw [keep sb (heap_lt h.box) (fun e => nsb c (by simp) e.symm), h.box]
  simp [qCells, chPtr, hb]
 ·exact h1.keep hs (fun b hb _ => hrk _ (mem_reads.2 (.inr (.inr ⟨c', by simp, .inl rfl⟩))) b hb)
 ·exact h2.keep hs (fun b hb _ => hrk _ (mem_reads.2 (.inr (.inr ⟨c', by simp, .inr rfl⟩))) b hb)
 ·refine h.chain.2.2.2.2.keep hs (fun x hx => keep _ (h.lt _ (.inl (.inr (.inr ⟨x, by simp [hx], rfl⟩)))) (fun e => hnd.1 x hx e)) (fun x hx k e => ?_)
  rcases e with e | e
  ·exact hrk _ (mem_reads.2 (.inr (.inr ⟨x, by simp [hx], .inl rfl⟩))) k e
  ·exact hrk _ (mem_reads.2 (.inr (.inr ⟨x, by simp [hx], .inr rfl⟩))) k e
 ·refine Nat.lt_of_lt_of_le ?_ hs
  rcases e with e | ⟨v, hv, e⟩
  ·exact h.lt k (.inl ((hwr k).1 e))
  ·exact (hrd v hv k e).1
theorem QAt.pop {w : World} {sb : Nat} {s : QSt} {V : QV} {c : QC} {r : List QC} (h : QAt w sb s V (c :: r)) : Chain w r ∧ (r.map QC.blk).Nodup ∧ (∀ v ∈ V.reads r, ∀ k, v.ownBlock = some k → ¬ V.writes r sb k) ∧ ∀ k, V.owns r sb k → V.owns (c :: r) sb k := by
 have hnd := h.nod
 simp only [List.map_cons, List.nodup_cons] at hnd
 have hw : ∀ k, V.writes r sb k → V.writes (c :: r) sb k := by
  rintro k (e | e | ⟨x, hx, e⟩)
  ·exact .inl e
  ·exact .inr (.inl e)
  ·exact .inr (.inr ⟨x, by simp [hx], e⟩)
 have hr : ∀ v ∈ V.reads r, v ∈ V.reads (c :: r) := fun v hv => by
  rcases mem_reads.1 hv with e | e | ⟨x, hx, e⟩
  ·exact mem_reads.2 (.inl e)
  ·exact mem_reads.2 (.inr (.inl e))
  ·exact mem_reads.2 (.inr (.inr ⟨x, by simp [hx], e⟩))
 refine ⟨h.chain.2.2.2.2, hnd.2, fun v hv k e hk => h.free v (hr v hv) k e (hw k hk), fun k e => ?_⟩
 rcases e with e | ⟨v, hv, e⟩
 ·exact .inl (hw k e)
 ·exact .inr ⟨v, hr v hv, e⟩
theorem Fr.turn {w0 w w' : World} {O O1 O' : Nat → Prop} {k : Nat} (h : Fr w0 w O O1) (hw : w.grownBy w' (some k)) (hk : O k ∨ w0.heap.size ≤ k) (hn : ∀ i, O' i → O i ∨ w0.heap.size ≤ i) : Fr w0 w' O O' :=
 ⟨hw.os.trans h.os, hw.tape.trans h.tape, hw.output.trans h.output, Nat.le_trans h.size hw.size, fun i hi ho => (hw.block i (Nat.lt_of_lt_of_le hi h.size) (fun e => by
  have e := Option.some.inj e
  subst e
  rcases hk with hk | hk
  ·exact ho hk
  ·omega)).trans (h.block i hi ho), hn⟩
theorem Fr.less {w0 w : World} {O O1 O' : Nat → Prop} (h : Fr w0 w O O1) (hn : ∀ i, O' i → O i ∨ w0.heap.size ≤ i) : Fr w0 w O O' := ⟨h.os, h.tape, h.output, h.size, h.block, hn⟩
theorem Fr.stay {w w' : World} {O O' : Nat → Prop} (h : Fr w w' O O') {k : Nat} {o : Obj} (hx : w.heap[k]? = some o) (hn : ¬ O k) : w'.heap[k]? = some o := (h.block k (heap_lt hx) hn).trans hx
theorem wpack2 (m : Msg) (vq va vu vx : Value) (w : World) (hwf : WfM m) (hat : MsgAt w m vq va vu vx) :
  Calls Tryz.prog 30 #[.agg (msgCells m vq va vu vx)] w fun e w' => Below w.heap.size w w' ∧ ∃ a c, e = .returned (.tuple #[.slice a (packL m).length c, .int .i64 (packE m)]) ∧ w'.ownsRow w.heap.size 5 1 (.slice a (packL m).length c) (packL m).length (bytesV (packL m)) := by
 refine (wirePack_any m vq va vu vx w hwf hat).mono ?_
 rintro e w' ⟨hb, hno, hyes⟩
 refine ⟨hb, ?_⟩
 unfold packL packE
 by_cases hp : packOk m = true
 ·obtain ⟨v, rfl, ho⟩ := hyes hp
  obtain ⟨a, c, rfl⟩ := own_slice ho
  simp only [hp, if_true]
  exact ⟨a, c, rfl, ho⟩
 ·have hp' : packOk m = false := by simpa using hp
  rw [hno hp']
  simp only [hp']
  exact ⟨none, 0, rfl, World.ownsRow_nil _ _ _ _⟩
structure NewB (w w' : World) (v : Value) (l : List UInt8) : Prop where
 below : Below w.heap.size w w'
 own : w'.ownsRow 0 5 1 v l.length (bytesV l)
 new : ∀ k, v.ownBlock = some k → w.heap.size ≤ k
theorem NewB.after {w w1 w' : World} {v : Value} {l : List UInt8} (hb : Below w.heap.size w w1) (h : NewB w1 w' v l) : NewB w w' v l :=
 ⟨hb.trans (h.below.mono hb.size), h.own, fun k hk => Nat.le_trans hb.size (h.new k hk)⟩
theorem undXs : Tryz.prog.underlying 59 = some (.struct (Tryz.prog.fieldsOf 59)) := by kernel_rfl
theorem buildX2 (k : Int) (a : Option Addr) (n c : Nat) (W : World) : (Instr.build 59 #[(0, .int .i64 k), (2, .slice a n c)]).run Tryz.prog W = .ok (.agg #[.int .i64 k, .int .u32 0, .slice a n c]) W := run_build W _ _ _ (by kernel_rfl)
theorem buildX3 (k t : Int) (a : Option Addr) (n c : Nat) (W : World) : (Instr.build 59 #[(0, .int .i64 k), (1, .int .u32 t), (2, .slice a n c)]).run Tryz.prog W = .ok (.agg #[.int .i64 k, .int .u32 t, .slice a n c]) W := run_build W _ _ _ (by kernel_rfl)
theorem buildX0 (W : World) : (Instr.build 59 #[]).run Tryz.prog W = .ok (.agg #[.int .i64 0, .int .u32 0, .slice none 0 0]) W := run_build W _ _ _ (by kernel_rfl)
theorem buildX1 (k : Int) (W : World) : (Instr.build 59 #[(0, .int .i64 k)]).run Tryz.prog W = .ok (.agg #[.int .i64 k, .int .u32 0, .slice none 0 0]) W := run_build W _ _ _ (by kernel_rfl)
theorem buildMa (i k : Int) (a : Option Addr) (n c : Nat) (W : World) : (Instr.build 30 #[(0, .int .u16 i), (1, .bool true), (7, .int .i64 k), (8, .slice a n c)]).run Tryz.prog W = .ok (.agg #[.int .u16 i, .bool true, .int .i64 0, .bool false, .bool false, .bool false, .bool false, .int .i64 k, .slice a n c, .slice none 0 0, .slice none 0 0, .slice none 0 0]) W := run_build W _ _ _ (by kernel_rfl)
attribute [local go_sem] buildX2 buildX3 buildX0 buildX1 buildMa
def stepX (k t : Int) (v : Value) : Value := .agg #[.int .i64 k, .int .u32 t, v]
def zX : Array Value := #[.int .i64 0, .int .u32 0, .slice none 0 0]
theorem own_grown {w w' : World} {e : TypeId} {sz : Nat} {v : Value} {n r : Nat} {x : List Value} (h : w.ownsRow 0 e sz v n x) (hw : w.grownBy w' (some r)) (hr : v.ownBlock ≠ some r) : w'.ownsRow 0 e sz v n x := h.kept hw (.inr hr)
theorem NewB.put {w w0 w1 : World} {v : Value} {l : List UInt8} {r : Nat} {v0 v1 v2 : Value} (hb : Below w.heap.size w w0) (h : NewB w0 w1 v l) (hr : r < w0.heap.size) (hl : w.heap.size ≤ r) : NewB w (put3 w1 r v0 v1 v2) v l := by
 have hG := put3_grown w1 r v0 v1 v2
 exact ⟨below_of_grown (hb.trans (h.below.mono hb.size)) hl hG, own_grown h.own hG (fun e => by have := h.new r e; omega), fun k hk => Nat.le_trans hb.size (h.new k hk)⟩
theorem asReply_of {m : Msg} (h : m.resp = true) : asReply m = m := by
 cases m
 cases h
 rfl
theorem grown_below {w w' : World} {r : Option Nat} (h : Below w.heap.size w w') : w.grownBy w' r := ⟨h.os, h.tape, h.output, h.size, fun k hk _ => h.block k hk⟩
theorem answer_new (m : Msg) (vq va vu vx : Value) (w : World) (hwf : WfM m) (hrp : m.resp = true) (hat : MsgAt w m vq va vu vx) :
  Calls Tryz.prog 112 #[.agg (msgCells m vq va vu vx)] w fun e w' => ∃ a c, e = .returned (stepX 2 0 (.slice a (replyL m).length c)) ∧ Hid (NewB w w' (.slice a (replyL m).length c) (replyL m)) := by
 have HAT := hide hat
 have HWF := hide hwf
 have HRP := hide hrp
 have hb1 : Below w.heap.size w ((w.alloc (.cells (msgCells m vq va vu vx) 30)).alloc (.cells zX 59)) := ((Below.refl _ _).alloc (Nat.le_refl _) _).alloc (by rw [alloc_size]; omega) _
 have hz : ((w.alloc (.cells (msgCells m vq va vu vx) 30)).alloc (.cells zX 59)).heap[w.heap.size + 1]? = some (.cells zX 59) := by
  have := heap_new (w.alloc (.cells (msgCells m vq va vu vx) 30)) (.cells zX 59)
  rw [alloc_size] at this
  exact this
 have hm := heap_old (heap_new w (.cells (msgCells m vq va vu vx) 30)) (.cells zX 59)
 have HB1 := hide hb1
 have HZ1 := hide hz
 have HM1 := hide hm
 have HAT1 := hide (hat.below hb1)
 clear hat hwf hrp hb1 hz hm
 obtain ⟨L, hL⟩ : ∃ L, L = replyL m := ⟨_, rfl⟩
 rw [← hL]
 have HL := hide hL
 clear hL
 unfold msgCells at HB1 HZ1 HM1 HAT1 ⊢
 unfold zX at HB1 HZ1 HM1 HAT1
 go_enter Tryz.func112, Tryz.ntmps112
 go_wp2_with fail
 generalize ((w.alloc _).alloc _) = W1 at HB1 HZ1 HM1 HAT1 ⊢
 refine (wpack2 m vq va vu vx W1 HWF.out HAT1.out).mono ?_
 rintro e w2 ⟨hb2, a, c, rfl, ho⟩
 have hzl : w.heap.size + 1 < W1.heap.size := heap_lt HZ1.out
 have HZ2 := hide ((hb2.block _ hzl).trans HZ1.out)
 by_cases hp : packOk m = true
 ·have hl : L = packL m := by rw [HL.out]; unfold replyL; rw [asReply_of HRP.out, if_pos hp]
  have he : packE m = 0 := by unfold packE; rw [if_pos hp]
  rw [he]
  rw [← hl] at ho ⊢
  clear HL
  have HN : Hid (NewB W1 w2 (.slice a L.length c) L) := ⟨hb2, own_zero ho, fun k hk => (ho.lt k hk).1⟩
  have HN2 := hide (fun v0 v1 v2 => NewB.put (r := w.heap.size + 1) (v0 := v0) (v1 := v1) (v2 := v2) HB1.out HN.out hzl (by omega))
  clear hl he hp ho hb2 HN
  have hcz := box_cells HZ2.out
  have hfz := frozen_of_block HZ2.out
  go_wp2_with fail
  clear hcz hfz
  refine bodyPost_ret (results_cell_row rfl _ _ (w.heap.size + 1) _ _ _ _ rfl (put3_box (.int .i64 2) (.int .u32 0) (.slice a L.length c) HZ2.out) undXs rfl (by kernel_rfl)) rfl ?_
  exact ⟨a, c, rfl, HN2.out _ _ _⟩
 ·have hl : L = packL (asCut m) := by rw [HL.out]; unfold replyL; rw [asReply_of HRP.out, if_neg hp]
  have he : packE m = 1 := by unfold packE; rw [if_neg hp]
  have HE := hide hl
  rw [he]
  clear HL
  have hm2 := (hb2.block _ (heap_lt HM1.out)).trans HM1.out
  have HB2 := hide (HB1.out.trans (hb2.mono HB1.out.size))
  have HM2 := hide hm2
  have HAT2 := hide (HAT1.out.below hb2)
  have hz2 := heap_lt HZ2.out
  clear hl he hp ho hb2 hm2
  have hcm := box_cells HM2.out
  have hfm := frozen_of_block HM2.out
  go_wp2_with fail
  clear hcm hfm
  have hG := grownBy_trans (grownBy_setCell w2 w.heap.size 9 (.slice none 0 0)) (grownBy_setCell (w2.setCell ⟨w.heap.size, 9, none⟩ (.slice none 0 0)) w.heap.size 4 (.bool true))
  have HB3 : Hid (Below w.heap.size w _) := below_of_grown HB2.out (Nat.le_refl _) hG
  have HZ3 := hide ((hG.block _ hz2 (by simp)).trans HZ2.out)
  have HW3 : Hid (WfM (asCut m)) := ⟨HWF.out.id0, HWF.out.id1, HWF.out.op0, HWF.out.op1, HWF.out.code0, HWF.out.code1, HWF.out.nq, Nat.zero_le _, HWF.out.nu, HWF.out.nx, HWF.out.qs, fun r hr => HWF.out.rs r (by simp only [recs, asCut, List.nil_append, List.mem_append] at hr ⊢; rcases hr with hr | hr <;> simp [hr])⟩
  have hlo : ∀ v ∈ [vq, vu, vx], ∀ k, v.ownBlock = some k → k < w.heap.size → True := fun _ _ _ _ _ => trivial
  clear hlo
  have HAT3 : Hid (MsgAt ((w2.setCell ⟨w.heap.size, 9, none⟩ (.slice none 0 0)).setCell ⟨w.heap.size, 4, none⟩ (.bool true)) (asCut m) vq (.slice none 0 0) vu vx) := by
   have kp : ∀ {sz v es}, Lies w sz v es → Lies ((w2.setCell ⟨w.heap.size, 9, none⟩ (.slice none 0 0)).setCell ⟨w.heap.size, 4, none⟩ (.bool true)) sz v es := fun h => h.keep HB3.out.size (fun b _ hlt => HB3.out.block b hlt)
   exact ⟨kp HAT.out.q, liesNil _ _, kp HAT.out.u, kp HAT.out.x⟩
  clear hG
  generalize (w2.setCell ⟨w.heap.size, 9, none⟩ (.slice none 0 0)).setCell ⟨w.heap.size, 4, none⟩ (.bool true) = W3 at HB3 HZ3 HAT3 ⊢
  have hrp := HRP.out
  have e : (Value.agg #[.int .u16 m.id, .bool m.resp, .int .i64 m.op, .bool m.own, .bool true, .bool m.wanted, .bool m.able, .int .i64 m.code, vq, .slice none 0 0, vu, vx]) = .agg (msgCells (asCut m) vq (.slice none 0 0) vu vx) := by unfold msgCells asCut; rw [hrp]
  rw [e]
  clear e hrp
  refine (wpack2 (asCut m) vq (.slice none 0 0) vu vx W3 HW3.out HAT3.out).mono ?_
  rintro e w4 ⟨hb4, a4, c4, rfl, ho4⟩
  have hz3 := heap_lt HZ3.out
  have HZ4 := hide ((hb4.block _ hz3).trans HZ3.out)
  have HN : Hid (NewB W3 w4 (.slice a4 (packL (asCut m)).length c4) (packL (asCut m))) := ⟨hb4, own_zero ho4, fun k hk => (ho4.lt k hk).1⟩
  have HN2 := hide (fun v0 v1 v2 => NewB.put (r := w.heap.size + 1) (v0 := v0) (v1 := v1) (v2 := v2) HB3.out HN.out hz3 (by omega))
  clear HN hb4 ho4
  have hcz := box_cells HZ4.out
  have hfz := frozen_of_block HZ4.out
  have hl := HE.out
  rw [← hl] at HN2 ⊢
  clear hl HE
  go_wp2_with fail
  clear hcz hfz
  refine bodyPost_ret (results_cell_row rfl _ _ (w.heap.size + 1) _ _ _ _ rfl (put3_box (.int .i64 2) (.int .u32 0) (.slice a4 L.length c4) HZ4.out) undXs rfl (by kernel_rfl)) rfl ?_
  exact ⟨a4, c4, rfl, HN2.out _ _ _⟩
theorem refusal_new (id code : Int) (qs : List Qn) (a0 : Option Addr) (c0 : Nat) (w : World) (hwf : WfM (asReply (refM id code qs))) (hat : Lies w 3 (.slice a0 qs.length c0) (qs.map Qn.cells)) :
  Calls Tryz.prog 76 #[.int .u16 id, .int .i64 code, .slice a0 qs.length c0] w fun e w' => ∃ a c, e = .returned (stepX 2 0 (.slice a (replyL (asReply (refM id code qs))).length c)) ∧ Hid (NewB w w' (.slice a (replyL (asReply (refM id code qs))).length c) (replyL (asReply (refM id code qs)))) := by
 have HAT := hide hat
 have HWF := hide hwf
 clear hat hwf
 go_enter Tryz.func76, Tryz.ntmps76
 go_wp2_with fail
 have hb1 : Below w.heap.size w (w.alloc (.cells zX 59)) := (Below.refl _ _).alloc (Nat.le_refl _) _
 have hz := heap_new w (.cells zX 59)
 refine (answer_new (asReply (refM id code qs)) (.slice a0 qs.length c0) (.slice none 0 0) (.slice none 0 0) (.slice none 0 0) _ HWF.out rfl ⟨HAT.out.below hb1, liesNil _ _, liesNil _ _, liesNil _ _⟩).mono ?_
 rintro e w2 ⟨a, c, rfl, H2⟩
 have HZ2 := hide ((H2.out.below.block _ (heap_lt hz)).trans hz)
 have hlt := heap_lt hz
 have HN2 := hide (fun v0 v1 v2 => NewB.put (r := w.heap.size) (v0 := v0) (v1 := v1) (v2 := v2) hb1 H2.out hlt (by omega))
 clear hb1 hz hlt H2
 have hcz := box_cells HZ2.out
 have hfz := frozen_of_block HZ2.out
 simp only [zX] at hcz
 unfold stepX
 generalize hps : replyL (asReply (refM id code qs)) = ps at HN2 ⊢
 go_wp2_with fail
 clear hcz hfz
 refine bodyPost_ret (results_cell_row rfl _ _ w.heap.size _ _ _ _ rfl (put3_box (.int .i64 2) (.int .u32 0) (.slice a ps.length c) HZ2.out) undXs rfl (by kernel_rfl)) rfl ?_
 subst hps
 exact ⟨a, c, rfl, HN2.out _ _ _⟩
end Go.Proofs.YtafoepfhepdcoaaGreat
namespace Go.Proofs.YtafoepfhepdcoaaGreat
open Go.RowKit Go.Trawl
attribute [local go_sem] buildMr
theorem unM_some {s : ByteArray} {m : Msg} (h : unpack s = some m) : unM s = m ∧ unE s = 0 := by
 unfold unM unE
 rw [h]
 exact ⟨rfl, rfl⟩
theorem named_wf {q : Qn} (h : NamedQ q) : WfQ q := by
 have := nameB_size h.1
 exact ⟨by omega, h.2.1, h.2.2.1, h.2.2.2.1, h.2.2.2.2⟩
theorem q_one {w : World} {a : Option Addr} {n c : Nat} {q : Qn} (h : Lies w 3 (.slice a n c) ([q].map Qn.cells)) : ∃ b off, a = some ⟨b, off, none⟩ ∧ w.cell? ⟨b, off, none⟩ = some (.string q.name) ∧ w.cell? ⟨b, off + 1, none⟩ = some (.int .u16 q.kind) ∧ w.cell? ⟨b, off + 2, none⟩ = some (.int .u16 q.cls) := by
 obtain ⟨_, _, hv, _, hc⟩ := h
 rcases hc with he | ⟨b, off, he, _, hc⟩
 ·cases he
 ·subst he
  injection hv with hv
  have h2 := hc 0 q.cells rfl
  exact ⟨b, off, hv, h2 0 _ rfl, h2 1 _ rfl, h2 2 _ rfl⟩
end Go.Proofs.YtafoepfhepdcoaaGreat
