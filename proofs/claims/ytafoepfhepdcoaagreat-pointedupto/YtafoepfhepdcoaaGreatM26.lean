import Derived.Test.YtafoepfhepdcoaaGreatM19
import Derived.Test.YtafoepfhepdcoaaGreatM20
import Derived.Test.YtafoepfhepdcoaaGreatM22
import Derived.Test.YtafoepfhepdcoaaGreatM24
import Derived.Test.YtafoepfhepdcoaaGreatM25
set_option maxRecDepth 100000
set_option maxHeartbeats 8000000
namespace Go.Proofs.YtafoepfhepdcoaaGreat
open Go.RowKit Go.Trawl
structure DL (W wr : World) (ns : List ByteArray) (sv : List Int) (v1 v2 : Value) : Prop where
 below : Below W.heap.size W wr
 o1 : wr.ownsRow 0 9 1 v1 ns.length (strV ns)
 o2 : wr.ownsRow 0 54 1 v2 sv.length (wV sv)
 n1 : ∀ g, v1.ownBlock = some g → W.heap.size ≤ g
 n2 : ∀ g, v2.ownBlock = some g → W.heap.size ≤ g
theorem DL.next {W wr w' : World} {ns : List ByteArray} {sv : List Int} {v1 v2 : Value} (h : DL W wr ns sv v1 v2) (hb : Below wr.heap.size wr w') : DL W w' ns sv v1 v2 :=
 ⟨h.below.trans (hb.mono h.below.size), own_below h.o1 hb, own_below h.o2 hb, h.n1, h.n2⟩
theorem DL.pushN {W wr w3 : World} {ns : List ByteArray} {sv : List Int} {v1 v2 v3 : Value} {d : ByteArray} {o : Obj} (h : DL W wr ns sv v1 v2) (g : Grew 9 1 (wr.alloc o) w3 v1 v3 (ns.length + 1) (strV ns ++ [.string d])) : DL W w3 (ns ++ [d]) sv v3 v2 := by
 have hb : Below wr.heap.size wr (wr.alloc o) := (Below.refl _ _).alloc (Nat.le_refl _) _
 have hg := g.below (B := W.heap.size) (Nat.le_trans h.below.size hb.size) h.n1
 refine ⟨(h.below.trans (hb.mono h.below.size)).trans hg.1, ?_, own_same_at (own_below h.o2 hb) (fun k hk => g.grown.block k ((own_below h.o2 hb).lt k hk).2 (fun e => rows_far h.o1 h.o2 (by decide) e.symm hk)), hg.2, h.n2⟩
 have e1 : (ns ++ [d]).length = ns.length + 1 := by simp
 have e2 : strV (ns ++ [d]) = strV ns ++ [.string d] := by simp [strV]
 rw [e1, e2]
 exact g.own
theorem DL.pushS {W wr w3 : World} {ns : List ByteArray} {sv xs : List Int} {v1 v2 v3 : Value} {n : Nat} {z : List Value} (h : DL W wr ns sv v1 v2) (g : Grew 54 1 wr w3 v2 v3 n z) (hn : n = (sv ++ xs).length) (hz : z = wV (sv ++ xs)) : DL W w3 ns (sv ++ xs) v1 v3 := by
 have hg := g.below (B := W.heap.size) h.below.size h.n2
 refine ⟨h.below.trans hg.1, own_same_at h.o1 (fun k hk => g.grown.block k (h.o1.lt k hk).2 (fun e => rows_far h.o1 h.o2 (by decide) hk e.symm)), ?_, h.n1, hg.2⟩
 rw [← hn, ← hz]
 exact g.own
structure FM (w W : World) (rb : Nat) (st : RSt) (V : RV) (cs : List ChV) (m : Msg) (vq va vu vx : Value) : Prop where
 below : Below w.heap.size w W
 ref : RefAt W rb st V cs
 msg : W.heap[w.heap.size]? = some (.cells (msgCells m vq va vu vx) 30)
 res : W.heap[w.heap.size + 1]? = some (.cells #[.int .i64 0, .int .u32 0, .string ⟨#[]⟩] 111)
 at_ : MsgAt W m vq va vu vx
 lt : ∀ k, V.owns cs rb k → k < w.heap.size
section
variable {w W W' : World} {rb : Nat} {st : RSt} {V : RV} {cs : List ChV} {m : Msg} {vq va vu vx : Value}
theorem FM.next (h : FM w W rb st V cs m vq va vu vx) (hb : Below W.heap.size W W') : FM w W' rb st V cs m vq va vu vx :=
 ⟨h.below.trans (hb.mono h.below.size), h.ref.keep hb, (hb.block _ (heap_lt h.msg)).trans h.msg, (hb.block _ (heap_lt h.res)).trans h.res, h.at_.below hb, h.lt⟩
theorem FM.start (h : RefAt w rb st V cs) (hat : MsgAt w m vq va vu vx) : FM w ((w.alloc (.cells (msgCells m vq va vu vx) 30)).alloc (.cells #[.int .i64 0, .int .u32 0, .string ⟨#[]⟩] 111)) rb st V cs m vq va vu vx := by
 have hb : Below w.heap.size w ((w.alloc (.cells (msgCells m vq va vu vx) 30)).alloc (.cells #[.int .i64 0, .int .u32 0, .string ⟨#[]⟩] 111)) := ((Below.refl _ _).alloc (Nat.le_refl _) _).alloc (by rw [alloc_size]; omega) _
 refine ⟨hb, h.keep hb, heap_old (heap_new w _) _, ?_, hat.below hb, h.lt⟩
 have := heap_new (w.alloc (.cells (msgCells m vq va vu vx) 30)) (.cells #[.int .i64 0, .int .u32 0, .string ⟨#[]⟩] 111)
 rw [alloc_size] at this
 exact this
theorem FM.tail (h : FM w W rb st V cs m vq va vu vx) {p : RSt} {w5 : World} (H : ∃ V' cs', RefAt w5 rb p V' cs' ∧ Fr W w5 (V.owns cs rb) (V'.owns cs' rb)) :
  w5.heap[w.heap.size + 1]? = some (.cells #[.int .i64 0, .int .u32 0, .string ⟨#[]⟩] 111) ∧ ∀ v0 v1 v2, ∃ V' cs', RefAt (put3 w5 (w.heap.size + 1) v0 v1 v2) rb p V' cs' ∧ Fr w (put3 w5 (w.heap.size + 1) v0 v1 v2) (V.owns cs rb) (V'.owns cs' rb) := by
 obtain ⟨V', cs', h5, f5⟩ := H
 have hz := heap_lt h.res
 have hno : ¬ V.owns cs rb (w.heap.size + 1) := fun e => by have := h.lt _ e; omega
 refine ⟨(f5.block _ hz hno).trans h.res, fun v0 v1 v2 => ?_⟩
 have hG := put3_grown w5 (w.heap.size + 1) v0 v1 v2
 refine ⟨V', cs', h5.aside hG (fun e => ?_), ((Fr.of_below h.below (V.owns cs rb)).trans f5).write hG (by omega)⟩
 rcases f5.new _ e with e | e
 ·exact hno e
 ·omega
end
def restP (st : RSt) (r : List Ch) (c : Ch) (m : Msg) (Ot : List Rc) : RSt × Value :=
 match Ot with
 | x :: _ => if r = [] then standsP st x ((st.asked.qs.map Qn.kind).headD 0) else nextP st r
 | [] =>
  if m.code = 3 then (if r = [] then foundP st [] 3 else nextP st r)
  else match m.au.find? (leads c) with
   | some x => downP st r c x.name m
   | none => if m.own then (if r = [] then foundP st [] 0 else nextP st r) else sendP st r c
def gotP (st : RSt) (r : List Ch) (Fd : List Rc) : RSt × Value :=
 match r.reverse with
 | [] => foundP st Fd 0
 | p :: ps => if addrs Fd = [] then nextP st r else sendP { st with l := ps.reverse ++ [{ p with servers := addrs Fd }] } ps.reverse { p with servers := addrs Fd }
theorem followsP_eq (st : RSt) (r : List Ch) (c : Ch) (m : Msg) : followsP st r c m = if m.code ≠ 0 ∧ m.code ≠ 3 then sendP st r c else if m.an.filter (ofB c.zone c.name c.kind) ≠ [] then gotP st r (m.an.filter (ofB c.zone c.name c.kind)) else restP st r c m (m.an.filter (ofB c.zone c.name 5)) := by
 unfold followsP gotP restP
 rfl
structure Ck (t : Int) (c : Ch) : Prop where
 q : QcOk t c
 few : c.names.length ≤ 1000000
structure Base (st : RSt) : Prop where
 b0 : 1 ≤ st.b
 b1 : st.b ≤ 200
 d0 : 0 ≤ st.d
 d1 : st.d ≤ 6
 c0 : 0 ≤ st.c
 c1 : st.c ≤ 10
 t0 : 1 ≤ st.t
 t1 : st.t ≤ 8
 r0 : 1 ≤ st.roots.length
 r1 : st.roots.length ≤ 8
 id0 : 0 ≤ st.id
 id1 : st.id ≤ 65535
 asked : WfM st.asked
 kept : (st.kept.length : Int) ≤ st.c
 recs : ∀ r ∈ st.kept, WfR r ∧ nameB r.data = true
 one : ∃ q, st.asked.qs = [q] ∧ NamedQ q ∧ q.cls = 1 ∧ st.seen = q.name :: st.kept.map Rc.data
 spent : (st.spent : Int) ≤ st.b
structure Live (st : RSt) : Prop where
 base : Base st
 len : (st.l.length : Int) ≤ st.d + 1
 chs : ∀ c ∈ st.l, Ck st.t c
 last : ∃ r c, st.l = r ++ [c] ∧ c.servers ≠ []
structure Inv (st : RSt) : Prop where
 ok : StOk st
 live : st.busy = true → Live st
def conf (st : RSt) : Int × Int × Int × Int × List Int := (st.b, st.d, st.c, st.t, st.roots)
def ansM (st : RSt) (code : Int) (an : List Rc) : Msg := ⟨st.asked.id, false, 0, false, false, st.asked.wanted, true, code, st.asked.qs, an, [], []⟩
structure Sent (st : RSt) (p : RSt × Value) : Prop where
 busy : p.1.busy = true
 live : Live p.1
 spent : p.1.spent = st.spent + 1
 asked : p.1.asked = st.asked
 conf : conf p.1 = conf st
 says : ∃ r c, p.1.l = r ++ [c] ∧ p.2 = stepV 1 p.1.to (str (packL (askM p.1.id c)))
structure Over (st : RSt) (p : RSt × Value) : Prop where
 busy : p.1.busy = false
 ok : StOk p.1
 spent : p.1.spent = st.spent
 asked : p.1.asked = st.asked
 conf : conf p.1 = conf st
 says : ∃ code an, (code = 0 ∨ (an.length : Int) ≤ st.c) ∧ 0 ≤ code ∧ code ≤ 3 ∧ (∀ r ∈ an, WfR r) ∧ an.length ≤ 100000 ∧ p.2 = stepV 2 0 (str (replyL (ansM st code an)))
def Comes (st : RSt) (p : RSt × Value) : Prop := Sent st p ∨ Over st p
theorem Comes.inv {st : RSt} {p : RSt × Value} (h : Comes st p) (hok : ∀ st', Live st' → StOk st') : Inv p.1 := by
 rcases h with h | h
 ·exact ⟨hok _ h.live, fun _ => h.live⟩
 ·exact ⟨h.ok, fun e => by rw [h.busy] at e; cases e⟩
theorem Comes.of {st st' : RSt} {p : RSt × Value} (h : Comes st p) (e1 : st'.spent = st.spent) (e2 : st'.asked = st.asked) (e3 : Go.Proofs.YtafoepfhepdcoaaGreat.conf st' = Go.Proofs.YtafoepfhepdcoaaGreat.conf st) : Comes st' p := by
 rcases h with h | h
 ·exact .inl ⟨h.busy, h.live, by rw [h.spent, e1], by rw [h.asked, e2], by rw [h.conf, e3], h.says⟩
 ·have ec : st'.c = st.c := by unfold Go.Proofs.YtafoepfhepdcoaaGreat.conf at e3; injection e3 with _ e; injection e with _ e; injection e
  obtain ⟨code, an, h1, h2, h3, h4, h5, h6⟩ := h.says
  exact .inr ⟨h.busy, h.ok, by rw [h.spent, e1], by rw [h.asked, e2], by rw [h.conf, e3], code, an, by rw [ec]; exact h1, h2, h3, h4, h5, by rw [h6]; unfold ansM; rw [e2]⟩
theorem Ck.ch {t : Int} {c : Ch} (h : Ck t c) (ht : t ≤ 8) : ChOk c := by
 have h1 := (nameB_size h.q.name).2
 have h2 := (nameB_size h.q.zone).2
 have h3 := h.q.sent
 exact ⟨by omega, h.q.k0, h.q.k1, by omega, h.q.servers, by omega, h.few, fun x hx => by have := (nameB_size (h.q.texts x hx)).2; omega⟩
theorem Base.ok' {st : RSt} (h : Base st) (K : List Rc) (hK : K.length ≤ 11) (hr : ∀ r ∈ K, WfR r) (hl : (st.l.length : Int) ≤ st.d + 1) (hc : ∀ c ∈ st.l, Ck st.t c) : StOk { st with kept := K } := by
 have hd1 := h.d1
 have ht := h.t1
 have hc1 := h.c1
 have hk := h.kept
 have hs := h.spent
 have hb := h.b1
 obtain ⟨q, hq1, hq2, hq3, hq4⟩ := h.one
 have hqn := (nameB_size hq2.1).2
 exact ⟨h.b0, h.b1, h.d0, h.d1, h.c0, h.c1, h.t0, h.t1, h.r0, h.r1, h.id0, h.id1, h.asked, by show K.length ≤ _; omega, hr, by show st.seen.length ≤ _; rw [hq4]; simp; omega, fun x hx => by
  have hx : x ∈ st.seen := hx
  rw [hq4] at hx
  rcases List.mem_cons.1 hx with rfl | hx
  ·omega
  ·obtain ⟨r, hr, rfl⟩ := List.mem_map.1 hx
   have := (nameB_size (h.recs r hr).2).2
   omega, by show st.l.length ≤ _; omega, fun c hc' => (hc c hc').ch ht, by show st.spent ≤ _; omega⟩
theorem Base.ok {st : RSt} (h : Base st) (hl : (st.l.length : Int) ≤ st.d + 1) (hc : ∀ c ∈ st.l, Ck st.t c) : StOk st := by
 have hk := h.kept
 have hc1 := h.c1
 exact h.ok' st.kept (by omega) (fun r hr => (h.recs r hr).1) hl hc
theorem Live.ok {st : RSt} (h : Live st) : StOk st := h.base.ok h.len h.chs
theorem Comes.keeps {st : RSt} {p : RSt × Value} (h : Comes st p) : Inv p.1 := h.inv fun _ h => h.ok
theorem StOk.idle {st : RSt} (h : StOk st) : StOk { st with busy := false } := ⟨h.b0, h.b1, h.d0, h.d1, h.c0, h.c1, h.t0, h.t1, h.r0, h.r1, h.id0, h.id1, h.asked, h.kept, h.recs, h.seen, h.texts, h.len, h.chs, h.spent⟩
structure KB (B : Nat) (W : World) (xb sb : Nat) (vr : PV) (st : RSt) : Prop where
 at_ : PAt W xb sb vr st
 lo : ∀ j, pOwns xb sb vr j → B ≤ j
 sz : B ≤ W.heap.size
section
variable {B : Nat} {W W' : World} {xb sb : Nat} {vr vr' : PV} {st st' : RSt} {v : Value} {l : List UInt8}
theorem KB.lt (h : KB B W xb sb vr st) {j : Nat} (hj : pOwns xb sb vr j) : j < W.heap.size := h.at_.lt j hj
theorem KB.below (h : KB B W xb sb vr st) (hb : Below W.heap.size W W') : KB B W' xb sb vr st :=
 ⟨h.at_.keep hb.size (fun k hk => hb.block k (h.lt hk)), h.lo, Nat.le_trans h.sz hb.size⟩
theorem KB.aside (h : KB B W xb sb vr st) {r : Nat} (hw : W.grownBy W' (some r)) (hr : ¬ pOwns xb sb vr r) : KB B W' xb sb vr st :=
 ⟨h.at_.keep hw.size (fun k hk => hw.block k (h.lt hk) (fun e => hr (by rw [← Option.some.inj e]; exact hk))), h.lo, Nat.le_trans h.sz hw.size⟩
theorem KB.grown (h : KB B W xb sb vr st) {u : Value} (hw : W.grownBy W' u.ownBlock) (hr : ∀ k, u.ownBlock = some k → ¬ pOwns xb sb vr k) : KB B W' xb sb vr st := by
 cases hu : u.ownBlock with
 | none => rw [hu] at hw; exact h.below (below_grownBy hw)
 | some k => rw [hu] at hw; exact h.aside hw (hr k hu)
structure KSp (B : Nat) (W W' : World) (xb sb : Nat) (vr vr' : PV) (st' : RSt) (v : Value) (l : List UInt8) : Prop where
 kb : KB B W' xb sb vr' st'
 below : Below B W W'
 own : W'.ownsRow 0 5 1 v l.length (bytesV l)
 new : ∀ j, v.ownBlock = some j → W.heap.size ≤ j
 apart : ∀ j, v.ownBlock = some j → ¬ pOwns xb sb vr' j
 keep : ∀ j, j < W.heap.size → ¬ pOwns xb sb vr j → W'.heap[j]? = W.heap[j]?
 owns : ∀ j, pOwns xb sb vr' j → pOwns xb sb vr j ∨ W.heap.size ≤ j
theorem KB.spoke (h : KB B W xb sb vr st) (sp : Spoke W W' xb sb vr vr' st' v l) : KSp B W W' xb sb vr vr' st' v l := by
 have hB := h.sz
 refine ⟨⟨sp.at_, fun j hj => ?_, Nat.le_trans h.sz sp.fr.size⟩, ⟨sp.fr.os, sp.fr.tape, sp.fr.output, sp.fr.size, fun j hj => sp.fr.block j (by omega) (fun e => by have := h.lo j e; omega)⟩, sp.own, sp.new, sp.apart, sp.fr.block, sp.fr.new⟩
 rcases sp.fr.new j hj with e | e
 ·exact h.lo j e
 ·omega
end
theorem kb_put {B r : Nat} {W W' : World} (h : W.grownBy W' (some r)) (hr : B ≤ r) (hB : B ≤ W.heap.size) : Below B W W' := ⟨h.os, h.tape, h.output, h.size, fun k hk => h.block k (by omega) (fun e => by have := Option.some.inj e; omega)⟩
theorem own_bytes {w : World} {a : Option Addr} {l : List UInt8} {c : Nat} (h : w.ownsRow 0 5 1 (.slice a l.length c) l.length (bytesV l)) (hne : l ≠ []) : ∃ b, a = some ⟨b, 0, none⟩ ∧ Bytes w b (str l) ∧ l.length ≤ c ∧ b < w.heap.size := by
 have hlt := h.lt
 rcases h.2 with ⟨_, h0⟩ | ⟨g, cap, cur, e, hg0, hg1, hg2, hg3, hg4⟩
 ·exact absurd (List.eq_nil_of_length_eq_zero h0) hne
 ·cases e
  refine ⟨g, rfl, fun k hk => ?_, hg2, heap_lt hg1⟩
  have hk' : k < l.length := hk
  have := h.cells (g := g) rfl k (.int .u8 (l[k].toNat : Int)) (by unfold bytesV; rw [List.getElem?_map, List.getElem?_eq_getElem hk']; rfl)
  have e1 : (⟨g, 0, none⟩ : Addr).add k = ⟨g, k, none⟩ := by
   unfold Addr.add
   by_cases h : k = 0
   ·rw [h]; rfl
   ·rw [if_neg h]; simp
  rw [e1] at this
  rw [this, at8_lst]
  show some _ = some _
  congr 2
  rw [show (str l).data.toList = l from rfl, List.getD_eq_getElem?_getD, List.getElem?_eq_getElem hk']
  rfl
theorem stepV_inj {k t k' t' : Int} {s s' : ByteArray} (h : stepV k t s = stepV k' t' s') : k = k' ∧ t = t' ∧ s = s' := by
 unfold stepV at h
 injection h with h
 have h0 := congrArg (fun a : Array Value => a[0]?) h
 have h1 := congrArg (fun a : Array Value => a[1]?) h
 have h2 := congrArg (fun a : Array Value => a[2]?) h
 simp at h0 h1 h2
 exact ⟨h0, h1, h2⟩
theorem str_inj {l l' : List UInt8} (h : str l = str l') : l = l' := by
 unfold str at h
 injection h with h
 simpa using h
def qM1 (id : Int) (n : ByteArray) (k : Int) : Msg := ⟨id, false, 0, false, false, true, false, 0, [⟨n, k, 1⟩], [], [], []⟩
theorem one_ok {m : Msg} {n : ByteArray} {k : Int} (hn : nameB n = true) (h1 : m.qs = [⟨n, k, 1⟩]) (h2 : m.an = []) (h3 : m.au = []) (h4 : m.ex = []) (h5 : inRange m = true) : packOk m = true := by
 have hz := (nameB_size hn).2
 unfold packOk body recs
 rw [h1, h2, h3, h4, h5]
 simp [okQ, hn, length_qbytes]
 omega
theorem one_un {m : Msg} {n : ByteArray} {k : Int} (hn : nameB n = true) (h1 : m.qs = [⟨n, k, 1⟩]) (h2 : m.an = []) (h3 : m.au = []) (h4 : m.ex = []) (h5 : inRange m = true) (k0 : 0 ≤ k) (k1 : k ≤ 65535) (i0 : 0 ≤ m.id) (i1 : m.id ≤ 65535) : packL m = pack m ∧ unpack (str (packL m)) = some m := by
 have hok := one_ok hn h1 h2 h3 h4 h5
 have e : packL m = pack m := if_pos hok
 refine ⟨e, ?_⟩
 rw [e]
 refine unpack_pack hok i0 i1 (fun q hq => ?_) (fun r hr => ?_)
 ·rw [h1, List.mem_singleton] at hq
  subst hq
  exact ⟨k0, k1, by simp, by simp⟩
 ·unfold recs at hr
  rw [h2, h3, h4] at hr
  cases hr
theorem pack_12 (m : Msg) : 12 ≤ (pack m).length := by
 unfold pack
 rw [List.length_append, length_head]
 omega
theorem unM_of {s : ByteArray} {m : Msg} (h : unpack s = some m) : unM s = m ∧ unE s = 0 := by
 unfold unM unE
 rw [h]
 exact ⟨rfl, rfl⟩
theorem askS_go {st : RSt} (h : StOk st) (hb : st.busy = false) {s : ByteArray} {m : Msg} {q : Qn} (hz : ¬ s.size < 12) (hu : unpack s = some m) (hr : m.resp = false) (hq : m.qs = [q]) (ho : m.op = 0) (hc : q.cls = 1) :
  askS st s = (askSt (beginSt st m q) [] (freshCh st q.name q.kind), askStep (beginSt st m q) (freshCh st q.name q.kind), 0) := by
 unfold askS
 rw [if_neg (by rw [hb]; simp), if_neg hz, hu]
 dsimp only
 rw [if_neg (by rw [hr]; simp), hq]
 dsimp only
 rw [if_neg (by rw [ho, hc]; simp), first_sends h]
theorem ask_go {st : RSt} (h : StOk st) (hb : st.busy = false) {id k : Int} {n : ByteArray} (hn : nameB n = true) (k0 : 0 ≤ k) (k1 : k ≤ 65535) (i0 : 0 ≤ id) (i1 : id ≤ 65535) :
  askS st (str (packL (qM1 id n k))) = (askSt (beginSt st (qM1 id n k) ⟨n, k, 1⟩) [] (freshCh st n k), askStep (beginSt st (qM1 id n k) ⟨n, k, 1⟩) (freshCh st n k), 0) := by
 obtain ⟨e1, e2⟩ := one_un (m := qM1 id n k) hn rfl rfl rfl rfl rfl k0 k1 i0 i1
 have hz : ¬ (str (packL (qM1 id n k))).size < 12 := by
  rw [e1]
  have := pack_12 (qM1 id n k)
  show ¬ (pack (qM1 id n k)).length < 12
  omega
 exact askS_go h hb hz e2 rfl rfl rfl rfl
theorem wf_one {id k : Int} {n : ByteArray} (hn : nameB n = true) (k0 : 0 ≤ k) (k1 : k ≤ 65535) (i0 : 0 ≤ id) (i1 : id ≤ 65535) : WfM (qM1 id n k) := by
 have hz := (nameB_size hn).2
 refine ⟨i0, i1, by simp [qM1], by simp [qM1], by simp [qM1], by simp [qM1], by simp [qM1], by simp [qM1], by simp [qM1], by simp [qM1], fun q hq => ?_, fun r hr => by simp [qM1, recs] at hr⟩
 simp [qM1] at hq
 subst hq
 exact ⟨by show n.size ≤ _; omega, k0, k1, by simp, by simp⟩
theorem heardS_fit {st : RSt} {r : List Ch} {c : Ch} {fr : Int} {s : ByteArray} {m : Msg} (hb : st.busy = true) (hl : st.l = r ++ [c]) (hu : unpack s = some m) (hf : fitsP st c fr m = true) : heardS st fr s = ((followsP st r c m).1, (followsP st r c m).2, 0) := by
 unfold heardS
 rw [if_pos hb, hu]
 have e : st.l.reverse = c :: r.reverse := by rw [hl]; simp
 dsimp only
 rw [e]
 dsimp only
 rw [if_pos hf, List.reverse_reverse]
theorem lies_row {w : World} {b n sz : Nat} {ls : List (List Value)} {t : TypeId} {cs : Array Value} (h : w.heap[b]? = some (.cells cs t)) (hc : cs = ls.flatten.toArray) (hlen : ∀ x ∈ ls, x.length = sz) (hn : ls.length = n) : Lies w sz (.slice (some ⟨b, 0, none⟩) n n) ls := by
 subst hc
 refine ⟨some ⟨b, 0, none⟩, n, by rw [hn], (fun h => by cases h), .inr ⟨b, 0, rfl, heap_lt h, fun i e hi j u hj => ?_⟩⟩
 have h2 := flat_at (sz := sz) _ hlen i e j u hi hj
 rw [box_cells h, Nat.zero_add]
 simpa using h2
theorem buildKQ (n : ByteArray) (k c : Int) (W : World) : (Instr.build 41 #[(0, .string n), (1, .int .u16 k), (2, .int .u16 c)]).run Tryz.prog W = .ok (.agg #[.string n, .int .u16 k, .int .u16 c]) W := run_build W _ _ _ (by kernel_rfl)
theorem buildKM (i : Int) (b : Bool) (a : Option Addr) (n c : Nat) (W : World) : (Instr.build 30 #[(0, .int .u16 i), (5, .bool b), (8, .slice a n c)]).run Tryz.prog W = .ok (.agg #[.int .u16 i, .bool false, .int .i64 0, .bool false, .bool false, .bool b, .bool false, .int .i64 0, .slice a n c, .slice none 0 0, .slice none 0 0, .slice none 0 0]) W := run_build W _ _ _ (by kernel_rfl)
attribute [local go_sem] buildKQ buildKM
theorem kAsks_any (w : World) (id k : Int) (n : ByteArray) (hn : nameB n = true) (i0 : 0 ≤ id) (i1 : id ≤ 65535) (k0 : 0 ≤ k) (k1 : k ≤ 65535) :
  Calls Tryz.prog 21 #[.int .u16 id, .string n, .int .u16 k] w fun e w' => ∃ a c, e = .returned (.slice a (packL (qM1 id n k)).length c) ∧ Hid (Below w.heap.size w w' ∧ w'.ownsRow w.heap.size 5 1 (.slice a (packL (qM1 id n k)).length c) (packL (qM1 id n k)).length (bytesV (packL (qM1 id n k)))) := by
 have hb1 := (Below.refl w.heap.size w).alloc (Nat.le_refl _) (.cells #[.string n, .int .u16 k, .int .u16 1] 41)
 have HB1 := hide hb1
 have HQ : Hid (Lies (w.alloc (.cells #[.string n, .int .u16 k, .int .u16 1] 41)) 3 (.slice (some ⟨w.heap.size, 0, none⟩) 1 1) ([⟨n, k, 1⟩].map Qn.cells)) := lies_row (heap_new w _) rfl (fun x hx => by simp at hx; subst hx; rfl) rfl
 have HWF := hide (wf_one hn k0 k1 i0 i1)
 clear hb1 hn
 go_enter Tryz.func21, Tryz.ntmps21
 go_wp2_with fail
 generalize w.alloc (.cells #[.string n, .int .u16 k, .int .u16 1] 41) = W1 at HB1 HQ ⊢
 refine (tpack2 (qM1 id n k) (.slice (some ⟨w.heap.size, 0, none⟩) 1 1) (.slice none 0 0) (.slice none 0 0) (.slice none 0 0) W1 HWF.out ⟨HQ.out, liesNil _ _, liesNil _ _, liesNil _ _⟩).mono ?_
 rintro e w2 ⟨hb2, a, c, rfl, ho⟩
 have HB2 := hide (HB1.out.trans (hb2.mono HB1.out.size))
 have HO := hide ho
 have hz := HB1.out.size
 clear hb2 ho
 generalize packE (qM1 id n k) = pe
 go_wp2_with fail
 go_ret
 exact ⟨a, c, rfl, HB2.out, own_base (own_zero HO.out) (fun j hj => by have := (HO.out.lt j hj).1; omega)⟩
theorem kResolver_any (w : World) (b d c t : Int) (rs : List Int) (vr : Value) (h : confOk b d c t rs) (hv : Lies w 1 vr (wordsV rs)) :
  Calls Tryz.prog 19 #[confV b d c t vr] w fun e w' => ∃ xb, e = .returned (.pointer (some ⟨xb, 0, none⟩)) ∧ Hid (∃ sb vr', KB w.heap.size w' xb sb vr' (newSt b d c t rs) ∧ Below w.heap.size w w') := by
 have hb1 := (Below.refl w.heap.size w).alloc (Nat.le_refl _) (.cells #[.int .i64 b, .int .i64 d, .int .i64 c, .int .i64 t, vr] 57)
 have HB1 := hide hb1
 have HV := hide (hv.below hb1)
 have HH := hide h
 have hc := box_cells (heap_new w (.cells #[.int .i64 b, .int .i64 d, .int .i64 c, .int .i64 t, vr] 57))
 obtain ⟨a, cp, rfl, _⟩ := (show Lies w 1 vr (wordsV rs) from hv)
 clear hb1 hv h
 unfold confV
 go_enter Tryz.func19, Tryz.ntmps19
 go_wp2_with fail
 generalize w.alloc _ = W1 at HB1 HV hc ⊢
 have hN := tNew_yes W1 b d c t rs _ HH.out HV.out
 unfold confV at hN
 refine hN.mono ?_
 clear hN hc
 rintro e w2 ⟨xb, rfl, H2⟩
 go_wp2_with fail
 go_ret
 obtain ⟨sb, vr', h1, h2, h3⟩ := H2.out
 have hz := HB1.out.size
 exact ⟨xb, rfl, sb, vr', ⟨h1, fun j hj => by have := h3 j hj; omega, Nat.le_trans hz h2.size⟩, HB1.out.trans (h2.mono hz)⟩
end Go.Proofs.YtafoepfhepdcoaaGreat
namespace Go.Proofs.YtafoepfhepdcoaaGreat
open Go.RowKit Go.Trawl
def nA : ByteArray := ⟨#[1, 97, 0]⟩
def rA : Rc := ⟨nA, 1, 1, 0, ⟨#[49, 50, 51, 52]⟩⟩
def st0 : RSt := newSt 5 0 0 1 [7]
def cA : Ch := ⟨nA, 1, rootN, [7], 1, []⟩
def st1 : RSt := { beginSt st0 (qM1 77 nA 1) ⟨nA, 1, 1⟩ with to := 7, id := 1, spent := 1, l := [cA] }
def mA : Msg := askM 1 cA
def mB : Msg := { mA with resp := true, an := [rA] }
theorem known1 : askS st0 (str (packL (qM1 77 nA 1))) = (st1, stepV 1 7 (str (packL mA)), 0) := by
 exact (ask_go (st := st0) (newSt_ok (by decide)) rfl (by decide) (by decide) (by decide) (by decide) (by decide)).trans rfl
theorem known2 : unpack (str (packL mA)) = some mA := (one_un (n := nA) (k := 1) (by decide) rfl rfl rfl rfl (by decide) (by decide) (by decide) (by decide) (by decide)).2
theorem mB_ok : packOk mB = true := by decide
theorem known3 : packL mB = pack mB ∧ packE mB = 0 ∧ unpack (str (packL mB)) = some mB := by
 have e : packL mB = pack mB := if_pos mB_ok
 refine ⟨e, if_pos mB_ok, ?_⟩
 rw [e]
 refine unpack_pack mB_ok (by decide) (by decide) (fun q hq => ?_) (fun r hr => ?_)
 ·simp [mB, mA, askM] at hq
  subst hq
  exact ⟨by decide, by decide, by decide, by decide⟩
 ·simp [mB, mA, askM, recs] at hr
  subst hr
  exact ⟨by decide, by decide, by decide, by decide, by decide, by decide⟩
theorem known4 : heardS st1 7 (str (packL mB)) = ({ st1 with busy := false }, stepV 2 0 (str (replyL (doneM st1 0 [rA]))), 0) := by
 refine (heardS_fit (st := st1) (r := []) (c := cA) rfl rfl known3.2.2 (by decide)).trans ?_
 have hfo : followsP st1 [] cA mB = foundP st1 [rA] 0 := by
  rw [followsP_eq, if_neg (by decide)]
  have hfl : mB.an.filter (ofB cA.zone cA.name cA.kind) = [rA] := by
   have h : ofB cA.zone cA.name cA.kind rA = true := by decide
   show [rA].filter _ = _
   rw [List.filter_cons, if_pos h]
   rfl
  rw [hfl, if_pos (by simp)]
  rfl
 rw [hfo]
 rfl
def mC : Msg := asReply (doneM st1 0 [rA])
theorem mC_ok : packOk mC = true := by decide
theorem known5 : replyL (doneM st1 0 [rA]) = pack mC ∧ unpack (str (replyL (doneM st1 0 [rA]))) = some mC := by
 have e : replyL (doneM st1 0 [rA]) = pack mC := by
  exact (if_pos (c := packOk (asReply (doneM st1 0 [rA])) = true) mC_ok).trans (if_pos mC_ok)
 refine ⟨e, ?_⟩
 rw [e]
 refine unpack_pack mC_ok (by decide) (by decide) (fun q hq => ?_) (fun r hr => ?_)
 ·simp [mC, asReply, doneM, st1, beginSt, qM1] at hq
  subst hq
  exact ⟨by decide, by decide, by decide, by decide⟩
 ·simp [mC, asReply, doneM, st1, beginSt, recs] at hr
  subst hr
  exact ⟨by decide, by decide, by decide, by decide, by decide, by decide⟩
theorem few (m : Msg) (h : packL m = pack m) : packL m ≠ [] ∧ (packL m).length ≤ 512 := by
 refine ⟨fun e => ?_, packL_length m⟩
 have := pack_12 m
 rw [← h, e] at this
 simp at this
theorem factsQ : packL (qM1 77 nA 1) ≠ [] ∧ (packL (qM1 77 nA 1)).length ≤ 512 := few _ (one_un (n := nA) (k := 1) (by decide) rfl rfl rfl rfl (by decide) (by decide) (by decide) (by decide) (by decide)).1
theorem factsA : packL mA ≠ [] ∧ (packL mA).length ≤ 512 ∧ unpack (str (packL mA)) = some mA := by
 have h := few mA (one_un (n := nA) (k := 1) (by decide) rfl rfl rfl rfl (by decide) (by decide) (by decide) (by decide) (by decide)).1
 exact ⟨h.1, h.2, known2⟩
theorem factsB : packL mB ≠ [] ∧ (packL mB).length ≤ 512 := few mB known3.1
theorem factsC : replyL (doneM st1 0 [rA]) ≠ [] ∧ (replyL (doneM st1 0 [rA])).length ≤ 512 ∧ unpack (str (replyL (doneM st1 0 [rA]))) = some mC := by
 have e : packL mC = pack mC := if_pos mC_ok
 have h := few mC e
 rw [e, ← known5.1] at h
 exact ⟨h.1, h.2, known5.2⟩
end Go.Proofs.YtafoepfhepdcoaaGreat
