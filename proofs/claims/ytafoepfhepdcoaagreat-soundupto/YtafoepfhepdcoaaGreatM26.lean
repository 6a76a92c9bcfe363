import Derived.Test.YtafoepfhepdcoaaGreatM19
import Derived.Test.YtafoepfhepdcoaaGreatM20
import Derived.Test.YtafoepfhepdcoaaGreatM22
import Derived.Test.YtafoepfhepdcoaaGreatM24
import Derived.Test.YtafoepfhepdcoaaGreatM25
set_option maxRecDepth 100000
set_option maxHeartbeats 8000000
namespace Go.Proofs.YtafoepfhepdcoaaGreat
open Go.RowKit Go.Trawl
structure DL (W wr : World) (ns : List ByteArray) (sv : List Int) (v1 v2 : Value) : Prop where
 below : Below W.heap.size W wr
 o1 : wr.ownsRow 0 9 1 v1 ns.length (strV ns)
 o2 : wr.ownsRow 0 54 1 v2 sv.length (wV sv)
 n1 : ∀ g, v1.ownBlock = some g → W.heap.size ≤ g
 n2 : ∀ g, v2.ownBlock = some g → W.heap.size ≤ g
theorem DL.next {W wr w' : World} {ns : List ByteArray} {sv : List Int} {v1 v2 : Value} (h : DL W wr ns sv v1 v2) (hb : Below wr.heap.size wr w') : DL W w' ns sv v1 v2 :=
 ⟨h.below.trans (hb.mono h.below.size), own_below h.o1 hb, own_below h.o2 hb, h.n1, h.n2⟩
theorem DL.pushN {W wr w3 : World} {ns : List ByteArray} {sv : List Int} {v1 v2 v3 : Value} {d : ByteArray} {o : Obj} (h : DL W wr ns sv v1 v2) (g : Grew 9 1 (wr.alloc o) w3 v1 v3 (ns.length + 1) (strV ns ++ [.string d])) : DL W w3 (ns ++ [d]) sv v3 v2 := by
 have hb : Below wr.heap.size wr (wr.alloc o) := (Below.refl _ _).alloc (Nat.le_refl _) _
 have hg := g.below (B := W.heap.size) (Nat.le_trans h.below.size hb.size) h.n1
 refine ⟨(h.below.trans (hb.mono h.below.size)).trans hg.1, ?_, own_same_at (own_below h.o2 hb) (fun k hk => g.grown.block k ((own_below h.o2 hb).lt k hk).2 (fun e => rows_far h.o1 h.o2 (by decide) e.symm hk)), hg.2, h.n2⟩
 have e1 : (ns ++ [d]).length = ns.length + 1 := by simp
 have e2 : strV (ns ++ [d]) = strV ns ++ [.string d] := by simp [strV]
 rw [e1, e2]
 exact g.own
theorem DL.pushS {W wr w3 : World} {ns : List ByteArray} {sv xs : List Int} {v1 v2 v3 : Value} {n : Nat} {z : List Value} (h : DL W wr ns sv v1 v2) (g : Grew 54 1 wr w3 v2 v3 n z) (hn : n = (sv ++ xs).length) (hz : z = wV (sv ++ xs)) : DL W w3 ns (sv ++ xs) v1 v3 := by
 have hg := g.below (B := W.heap.size) h.below.size h.n2
 refine ⟨h.below.trans hg.1, own_same_at h.o1 (fun k hk => g.grown.block k (h.o1.lt k hk).2 (fun e => rows_far h.o1 h.o2 (by decide) hk e.symm)), ?_, h.n1, hg.2⟩
 rw [← hn, ← hz]
 exact g.own
structure FM (w W : World) (rb : Nat) (st : RSt) (V : RV) (cs : List ChV) (m : Msg) (vq va vu vx : Value) : Prop where
 below : Below w.heap.size w W
 ref : RefAt W rb st V cs
 msg : W.heap[w.heap.size]? = some (.cells (msgCells m vq va vu vx) 30)
 res : W.heap[w.heap.size + 1]? = some (.cells #[.int .i64 0, .int .u32 0, .string ⟨#[]⟩] 111)
 at_ : MsgAt W m vq va vu vx
 lt : ∀ k, V.owns cs rb k → k < w.heap.size
section
variable {w W W' : World} {rb : Nat} {st : RSt} {V : RV} {cs : List ChV} {m : Msg} {vq va vu vx : Value}
theorem FM.next (h : FM w W rb st V cs m vq va vu vx) (hb : Below W.heap.size W W') : FM w W' rb st V cs m vq va vu vx :=
 ⟨h.below.trans (hb.mono h.below.size), h.ref.keep hb, (hb.block _ (heap_lt h.msg)).trans h.msg, (hb.block _ (heap_lt h.res)).trans h.res, h.at_.below hb, h.lt⟩
theorem FM.start (h : RefAt w rb st V cs) (hat : MsgAt w m vq va vu vx) : FM w ((w.alloc (.cells (msgCells m vq va vu vx) 30)).alloc (.cells #[.int .i64 0, .int .u32 0, .string ⟨#[]⟩] 111)) rb st V cs m vq va vu vx := by
 have hb : Below w.heap.size w ((w.alloc (.cells (msgCells m vq va vu vx) 30)).alloc (.cells #[.int .i64 0, .int .u32 0, .string ⟨#[]⟩] 111)) := ((Below.refl _ _).alloc (Nat.le_refl _) _).alloc (by rw [alloc_size]; omega) _
 refine ⟨hb, h.keep hb, heap_old (heap_new w _) _, ?_, hat.below hb, h.lt⟩
 have := heap_new (w.alloc (.cells (msgCells m vq va vu vx) 30)) (.cells #[.int .i64 0, .int .u32 0, .string ⟨#[]⟩] 111)
 rw [alloc_size] at this
 exact this
theorem FM.tail (h : FM w W rb st V cs m vq va vu vx) {p : RSt} {w5 : World} (H : ∃ V' cs', RefAt w5 rb p V' cs' ∧ Fr W w5 (V.owns cs rb) (V'.owns cs' rb)) :
  w5.heap[w.heap.size + 1]? = some (.cells #[.int .i64 0, .int .u32 0, .string ⟨#[]⟩] 111) ∧ ∀ v0 v1 v2, ∃ V' cs', RefAt (put3 w5 (w.heap.size + 1) v0 v1 v2) rb p V' cs' ∧ Fr w (put3 w5 (w.heap.size + 1) v0 v1 v2) (V.owns cs rb) (V'.owns cs' rb) := by
 obtain ⟨V', cs', h5, f5⟩ := H
 have hz := heap_lt h.res
 have hno : ¬ V.owns cs rb (w.heap.size + 1) := fun e => by have := h.lt _ e; omega
 refine ⟨(f5.block _ hz hno).trans h.res, fun v0 v1 v2 => ?_⟩
 have hG := put3_grown w5 (w.heap.size + 1) v0 v1 v2
 refine ⟨V', cs', h5.aside hG (fun e => ?_), ((Fr.of_below h.below (V.owns cs rb)).trans f5).write hG (by omega)⟩
 rcases f5.new _ e with e | e
 ·exact hno e
 ·omega
end
def restP (st : RSt) (r : List Ch) (c : Ch) (m : Msg) (Ot : List Rc) : RSt × Value :=
 match Ot with
 | x :: _ => if r = [] then standsP st x ((st.asked.qs.map Qn.kind).headD 0) else nextP st r
 | [] =>
  if m.code = 3 then (if r = [] then foundP st [] 3 else nextP st r)
  else match m.au.find? (leads c) with
   | some x => downP st r c x.name m
   | none => if m.own then (if r = [] then foundP st [] 0 else nextP st r) else sendP st r c
def gotP (st : RSt) (r : List Ch) (Fd : List Rc) : RSt × Value :=
 match r.reverse with
 | [] => foundP st Fd 0
 | p :: ps => if addrs Fd = [] then nextP st r else sendP { st with l := ps.reverse ++ [{ p with servers := addrs Fd }] } ps.reverse { p with servers := addrs Fd }
theorem followsP_eq (st : RSt) (r : List Ch) (c : Ch) (m : Msg) : followsP st r c m = if m.code ≠ 0 ∧ m.code ≠ 3 then sendP st r c else if m.an.filter (ofB c.zone c.name c.kind) ≠ [] then gotP st r (m.an.filter (ofB c.zone c.name c.kind)) else restP st r c m (m.an.filter (ofB c.zone c.name 5)) := by
 unfold followsP gotP restP
 rfl
structure Ck (t : Int) (c : Ch) : Prop where
 q : QcOk t c
 few : c.names.length ≤ 1000000
structure Base (st : RSt) : Prop where
 b0 : 1 ≤ st.b
 b1 : st.b ≤ 200
 d0 : 0 ≤ st.d
 d1 : st.d ≤ 6
 c0 : 0 ≤ st.c
 c1 : st.c ≤ 10
 t0 : 1 ≤ st.t
 t1 : st.t ≤ 8
 r0 : 1 ≤ st.roots.length
 r1 : st.roots.length ≤ 8
 id0 : 0 ≤ st.id
 id1 : st.id ≤ 65535
 asked : WfM st.asked
 kept : (st.kept.length : Int) ≤ st.c
 recs : ∀ r ∈ st.kept, WfR r ∧ nameB r.data = true
 one : ∃ q, st.asked.qs = [q] ∧ NamedQ q ∧ q.cls = 1 ∧ st.seen = q.name :: st.kept.map Rc.data
 spent : (st.spent : Int) ≤ st.b
structure Live (st : RSt) : Prop where
 base : Base st
 len : (st.l.length : Int) ≤ st.d + 1
 chs : ∀ c ∈ st.l, Ck st.t c
 last : ∃ r c, st.l = r ++ [c] ∧ c.servers ≠ []
structure Inv (st : RSt) : Prop where
 ok : StOk st
 live : st.busy = true → Live st
def conf (st : RSt) : Int × Int × Int × Int × List Int := (st.b, st.d, st.c, st.t, st.roots)
def ansM (st : RSt) (code : Int) (an : List Rc) : Msg := ⟨st.asked.id, false, 0, false, false, st.asked.wanted, true, code, st.asked.qs, an, [], []⟩
structure Sent (st : RSt) (p : RSt × Value) : Prop where
 busy : p.1.busy = true
 live : Live p.1
 spent : p.1.spent = st.spent + 1
 asked : p.1.asked = st.asked
 conf : conf p.1 = conf st
 says : ∃ r c, p.1.l = r ++ [c] ∧ p.2 = stepV 1 p.1.to (str (packL (askM p.1.id c)))
structure Over (st : RSt) (p : RSt × Value) : Prop where
 busy : p.1.busy = false
 ok : StOk p.1
 spent : p.1.spent = st.spent
 asked : p.1.asked = st.asked
 conf : conf p.1 = conf st
 says : ∃ code an, (code = 0 ∨ (an.length : Int) ≤ st.c) ∧ 0 ≤ code ∧ code ≤ 3 ∧ (∀ r ∈ an, WfR r) ∧ an.length ≤ 100000 ∧ p.2 = stepV 2 0 (str (replyL (ansM st code an)))
def Comes (st : RSt) (p : RSt × Value) : Prop := Sent st p ∨ Over st p
theorem Comes.inv {st : RSt} {p : RSt × Value} (h : Comes st p) (hok : ∀ st', Live st' → StOk st') : Inv p.1 := by
 rcases h with h | h
 ·exact ⟨hok _ h.live, fun _ => h.live⟩
 ·exact ⟨h.ok, fun e => by rw [h.busy] at e; cases e⟩
theorem Comes.of {st st' : RSt} {p : RSt × Value} (h : Comes st p) (e1 : st'.spent = st.spent) (e2 : st'.asked = st.asked) (e3 : Go.Proofs.YtafoepfhepdcoaaGreat.conf st' = Go.Proofs.YtafoepfhepdcoaaGreat.conf st) : Comes st' p := by
 rcases h with h | h
 ·exact .inl ⟨h.busy, h.live, by rw [h.spent, e1], by rw [h.asked, e2], by rw [h.conf, e3], h.says⟩
 ·have ec : st'.c = st.c := by unfold Go.Proofs.YtafoepfhepdcoaaGreat.conf at e3; injection e3 with _ e; injection e with _ e; injection e
  obtain ⟨code, an, h1, h2, h3, h4, h5, h6⟩ := h.says
  exact .inr ⟨h.busy, h.ok, by rw [h.spent, e1], by rw [h.asked, e2], by rw [h.conf, e3], code, an, by rw [ec]; exact h1, h2, h3, h4, h5, by rw [h6]; unfold ansM; rw [e2]⟩
theorem Ck.ch {t : Int} {c : Ch} (h : Ck t c) (ht : t ≤ 8) : ChOk c := by
 have h1 := (nameB_size h.q.name).2
 have h2 := (nameB_size h.q.zone).2
 have h3 := h.q.sent
 exact ⟨by omega, h.q.k0, h.q.k1, by omega, h.q.servers, by omega, h.few, fun x hx => by have := (nameB_size (h.q.texts x hx)).2; omega⟩
theorem Base.ok' {st : RSt} (h : Base st) (K : List Rc) (hK : K.length ≤ 11) (hr : ∀ r ∈ K, WfR r) (hl : (st.l.length : Int) ≤ st.d + 1) (hc : ∀ c ∈ st.l, Ck st.t c) : StOk { st with kept := K } := by
 have hd1 := h.d1
 have ht := h.t1
 have hc1 := h.c1
 have hk := h.kept
 have hs := h.spent
 have hb := h.b1
 obtain ⟨q, hq1, hq2, hq3, hq4⟩ := h.one
 have hqn := (nameB_size hq2.1).2
 exact ⟨h.b0, h.b1, h.d0, h.d1, h.c0, h.c1, h.t0, h.t1, h.r0, h.r1, h.id0, h.id1, h.asked, by show K.length ≤ _; omega, hr, by show st.seen.length ≤ _; rw [hq4]; simp; omega, fun x hx => by
  have hx : x ∈ st.seen := hx
  rw [hq4] at hx
  rcases List.mem_cons.1 hx with rfl | hx
  ·omega
  ·obtain ⟨r, hr, rfl⟩ := List.mem_map.1 hx
   have := (nameB_size (h.recs r hr).2).2
   omega, by show st.l.length ≤ _; omega, fun c hc' => (hc c hc').ch ht, by show st.spent ≤ _; omega⟩
theorem Base.ok {st : RSt} (h : Base st) (hl : (st.l.length : Int) ≤ st.d + 1) (hc : ∀ c ∈ st.l, Ck st.t c) : StOk st := by
 have hk := h.kept
 have hc1 := h.c1
 exact h.ok' st.kept (by omega) (fun r hr => (h.recs r hr).1) hl hc
theorem Live.ok {st : RSt} (h : Live st) : StOk st := h.base.ok h.len h.chs
theorem Comes.keeps {st : RSt} {p : RSt × Value} (h : Comes st p) : Inv p.1 := h.inv fun _ h => h.ok
theorem StOk.idle {st : RSt} (h : StOk st) : StOk { st with busy := false } := ⟨h.b0, h.b1, h.d0, h.d1, h.c0, h.c1, h.t0, h.t1, h.r0, h.r1, h.id0, h.id1, h.asked, h.kept, h.recs, h.seen, h.texts, h.len, h.chs, h.spent⟩
theorem over_fail {st : RSt} (h : StOk st) : Over st (failP st) :=
 ⟨rfl, h.idle, rfl, rfl, rfl, 2, [], .inr (by have := h.c0; simpa using this), by decide, by decide, by simp, by simp, rfl⟩
theorem Base.with_l {st : RSt} (h : Base st) (L : List Ch) : Base { st with l := L } :=
 ⟨h.b0, h.b1, h.d0, h.d1, h.c0, h.c1, h.t0, h.t1, h.r0, h.r1, h.id0, h.id1, h.asked, h.kept, h.recs, h.one, h.spent⟩
theorem comes_fail {st : RSt} (h : Base st) (L : List Ch) (hl : (L.length : Int) ≤ st.d + 1) (hc : ∀ c ∈ L, Ck st.t c) : Comes st (failP { st with l := L }) :=
 Comes.of (st := { st with l := L }) (.inr (over_fail ((h.with_l L).ok hl hc))) rfl rfl rfl
theorem comes_ask {st : RSt} {r : List Ch} {c : Ch} (h : Base st) (hb : st.busy = true) (hl : (r.length : Int) + 1 ≤ st.d + 1) (hc : ∀ x ∈ r ++ [c], Ck st.t x) (hs : c.servers ≠ []) (ht : (c.sent : Int) < st.t) : Comes st (askP st r c) := by
 unfold askP
 split
 ·exact comes_fail h _ (by simp; omega) hc
 ·rename_i hsp
  have hid : 0 ≤ nextId st.id ∧ nextId st.id ≤ 65535 := by unfold nextId; omega
  have hB : Base (askSt st r c) := ⟨h.b0, h.b1, h.d0, h.d1, h.c0, h.c1, h.t0, h.t1, h.r0, h.r1, hid.1, hid.2, h.asked, h.kept, h.recs, h.one, by show ((st.spent + 1 : Nat) : Int) ≤ st.b; omega⟩
  refine .inl ⟨hb, ⟨hB, by simp [askSt]; omega, fun x hx => ?_, r, _, rfl, hs⟩, rfl, rfl, rfl, r, _, rfl, rfl⟩
  rcases List.mem_append.1 hx with hx | hx
  ·exact hc x (List.mem_append_left _ hx)
  ·have hcc := hc c (by simp)
   have : x = { c with sent := c.sent + 1 } := by simpa using hx
   subst this
   exact ⟨{ hcc.q with sent := by show ((c.sent + 1 : Nat) : Int) ≤ st.t; omega }, hcc.few⟩
theorem fresh_ck {st : RSt} (h : Base st) {n : ByteArray} (hn : nameB n = true) {k : Int} (h0 : 0 ≤ k) (h1 : k ≤ 65535) : Ck st.t (freshCh st n k) := by
 have := h.r1
 have := h.t0
 exact ⟨⟨hn, h0, h1, (show nameB rootN = true by decide), by show st.roots.length ≤ _; omega, by show ((0 : Nat) : Int) ≤ _; omega, by simp [freshCh], (fun x hx => by simp [freshCh] at hx)⟩, by simp [freshCh]⟩
theorem fresh_srv {st : RSt} (h : Base st) (n : ByteArray) (k : Int) : (freshCh st n k).servers ≠ [] := fun e => by
 have := h.r0
 rw [show st.roots = [] from e] at this
 simp at this
theorem comes_look {st : RSt} (h : Base st) (hb : st.busy = true) : ∀ L : List Ch, (L.length : Int) ≤ st.d + 1 → (∀ c ∈ L, Ck st.t c) → (L = [] → StOk st) → Comes st (lookP st L)
 | [], _, _, h0 => .inr (over_fail (h0 rfl))
 | c :: r, hl, hc, _ => by
  have hl2 : (r.length : Int) + 1 ≤ st.d + 1 := by simp at hl; omega
  have hone : Comes st (failP { st with l := [c] }) := comes_fail h [c] (by have := h.d0; simp; omega) (fun x hx => by rw [List.mem_singleton.1 hx]; exact hc c (by simp))
  have hrec : r ≠ [] → Comes st (lookP st r) := fun hr => comes_look h hb r (by omega) (fun x hx => hc x (by simp [hx])) (fun e => absurd e hr)
  unfold lookP
  split
  ·split
   ·exact hone
   ·rename_i hr; exact hrec hr
  ·rename_i n ns hns
   have hcc := hc c (by simp)
   split
   ·split
    ·exact hone
    ·rename_i hr; exact hrec hr
   ·refine comes_ask h hb (by simp; omega) (fun x hx => ?_) (fresh_srv h _ _) (by have := h.t0; show ((0 : Nat) : Int) < _; omega)
    simp only [List.append_assoc, List.mem_append, List.mem_reverse, List.mem_singleton] at hx
    have ht := hcc.q.texts
    rw [hns] at ht
    have h1 := hcc.q.names
    have h2 := hcc.few
    rw [hns] at h1 h2
    rcases hx with hx | rfl | rfl
    ·exact hc x (by simp [hx])
    ·exact ⟨{ hcc.q with names := by show ns.length ≤ _; simp at h1; omega, texts := fun y hy => ht y (by simp [hy]) }, by show ns.length ≤ _; simp at h2; omega⟩
    ·exact fresh_ck h (ht n (by simp)) (by decide) (by decide)
theorem comes_send {st : RSt} {r : List Ch} {c : Ch} (h : Base st) (hb : st.busy = true) (hl : (r.length : Int) + 1 ≤ st.d + 1) (hc : ∀ x ∈ r ++ [c], Ck st.t x) (hs : c.servers ≠ []) : Comes st (sendP st r c) := by
 unfold sendP
 split
 ·rename_i ht
  exact comes_ask h hb hl hc hs ht
 ·unfold withoutP
  split
  ·exact comes_fail h [c] (by have := h.d0; simp; omega) (fun x hx => by rw [List.mem_singleton.1 hx]; exact hc c (by simp))
  ·rename_i hr
   exact comes_look h hb _ (by simp; omega) (fun x hx => hc x (by simp at hx; simp [hx])) (fun e => absurd e hr)
theorem comes_next {st : RSt} {r : List Ch} (h : Base st) (hb : st.busy = true) (hl : (r.length : Int) + 1 ≤ st.d + 1) (hc : ∀ x ∈ r, Ck st.t x) (hr : r ≠ []) : Comes st (nextP st r) :=
 comes_look h hb _ (by simp; omega) (fun x hx => hc x (by simpa using hx)) (fun e => absurd (List.reverse_eq_nil_iff.1 e) hr)
theorem comes_found {st : RSt} (h : Live st) {l : List Rc} (hl : l.length ≤ 65535) (hw : ∀ r ∈ l, WfR r) {code : Int} (hcd : code = 0 ∨ code = 3 ∧ l = []) : Comes st (foundP st l code) := by
 have hk := h.base.kept
 have hc1 := h.base.c1
 refine .inr ⟨rfl, h.ok.idle, rfl, rfl, rfl, code, st.kept ++ l, ?_, by omega, by omega, fun r hr => ?_, by rw [List.length_append]; omega, ?_⟩
 ·rcases hcd with e | ⟨_, e⟩
  ·exact .inl e
  ·exact .inr (by rw [e]; simpa using hk)
 ·rcases List.mem_append.1 hr with hr | hr
  ·exact (h.base.recs r hr).1
  ·exact hw r hr
 ·have : doneM st code l = ansM st code (st.kept ++ l) := by unfold doneM ansM; rw [if_neg (by omega)]
  unfold foundP
  rw [this]
theorem comes_stands {st : RSt} (h : Live st) (hb : st.busy = true) {x : Rc} (hx : WfR x) (hn : nameB x.data = true) {k : Int} (h0 : 0 ≤ k) (h1 : k ≤ 65535) : Comes st (standsP st x k) := by
 have hk := h.base.kept
 have hc1 := h.base.c1
 have hd0 := h.base.d0
 unfold standsP
 split
 ·refine Comes.of (st := { st with kept := st.kept ++ [x] }) (.inr (over_fail (h.base.ok' _ (by simp; omega) (fun r hr => ?_) h.len h.chs))) rfl rfl rfl
  rcases List.mem_append.1 hr with hr | hr
  ·exact (h.base.recs r hr).1
  ·rw [List.mem_singleton.1 hr]; exact hx
 ·rename_i hno
  have hB := h.base
  obtain ⟨q, q1, q2, q3, q4⟩ := hB.one
  have hB2 : Base { st with kept := st.kept ++ [x], seen := st.seen ++ [x.data], l := [freshCh st x.data k] } := by
   refine ⟨hB.b0, hB.b1, hB.d0, hB.d1, hB.c0, hB.c1, hB.t0, hB.t1, hB.r0, hB.r1, hB.id0, hB.id1, hB.asked, ?_, fun r hr => ?_, ⟨q, q1, q2, q3, ?_⟩, hB.spent⟩
   ·show ((st.kept ++ [x]).length : Int) ≤ st.c
    have : ¬ st.c < (st.kept.length : Int) + 1 := fun e => hno (.inl e)
    simp
    omega
   ·rcases List.mem_append.1 hr with hr | hr
    ·exact hB.recs r hr
    ·rw [List.mem_singleton.1 hr]; exact ⟨hx, hn⟩
   ·show st.seen ++ [x.data] = q.name :: (st.kept ++ [x]).map Rc.data
    rw [q4]; simp
  refine Comes.of (st := { st with kept := st.kept ++ [x], seen := st.seen ++ [x.data], l := [freshCh st x.data k] }) (comes_send hB2 hb (by show ((0 : Nat) : Int) + 1 ≤ st.d + 1; omega) (fun y hy => ?_) (fresh_srv h.base _ _)) rfl rfl rfl
  have : y = freshCh st x.data k := by simpa using hy
  rw [this]
  exact fresh_ck h.base hn h0 h1
theorem down_ck {t : Int} {c : Ch} (ht : 1 ≤ t) (h : Ck t c) {m : Msg} (hm : Got m) {zone : ByteArray} (hz : nameB zone = true) : Ck t (downC m c zone) := by
 have he := enterC_ok ht h.q hm hz
 have e : enterC c zone (m.au.filter (credB c.zone)) (m.ex.filter (credB c.zone)) = downC m c zone := by
  unfold enterC downC
  rw [filter_of, enter_down]
 obtain ⟨h1, _, _⟩ := enterL_names (m.ex.filter (credB c.zone)) ((m.au.filter (credB c.zone)).filter (kindB zone 2)) ([], [])
 have l1 : ((m.au.filter (credB c.zone)).filter (kindB zone 2)).length ≤ 65535 := Nat.le_trans (List.length_filter_le _ _) (Nat.le_trans (List.length_filter_le _ _) hm.au)
 refine ⟨by rw [← e]; exact he, ?_⟩
 rw [← e]
 show (List.foldl (enterStep (m.ex.filter (credB c.zone))) ([], []) ((m.au.filter (credB c.zone)).filter (kindB zone 2))).1.length ≤ _
 simp only [List.length_nil] at h1
 omega
theorem comes_down {st : RSt} {r : List Ch} {c : Ch} (h : Base st) (hb : st.busy = true) (hl : (r.length : Int) + 1 ≤ st.d + 1) (hc : ∀ x ∈ r ++ [c], Ck st.t x) {m : Msg} (hm : Got m) {zone : ByteArray} (hz : nameB zone = true) : Comes st (downP st r c zone m) := by
 have hd := down_ck h.t0 (hc c (by simp)) hm hz
 have hc2 : ∀ x ∈ r ++ [downC m c zone], Ck st.t x := fun x hx => by
  rcases List.mem_append.1 hx with hx | hx
  ·exact hc x (List.mem_append_left _ hx)
  ·rw [List.mem_singleton.1 hx]; exact hd
 unfold downP
 split
 ·exact Comes.of (comes_look (h.with_l (r ++ [downC m c zone])) hb (downC m c zone :: r.reverse) (by show ((downC m c zone :: r.reverse).length : Int) ≤ st.d + 1; simp; omega) (fun x hx => hc2 x (by simp at hx; simp; exact hx.symm)) (fun e => by cases e)) rfl rfl rfl
 ·rename_i hs
  exact Comes.of (comes_send (h.with_l (r ++ [downC m c zone])) hb hl hc2 hs) rfl rfl rfl
theorem comes_follows {st : RSt} {r : List Ch} {c : Ch} (h : Live st) (hb : st.busy = true) (hl : st.l = r ++ [c]) (hs : c.servers ≠ []) {m : Msg} (hm : Got m) : Comes st (followsP st r c m) := by
 have hc : ∀ x ∈ r ++ [c], Ck st.t x := fun x hx => h.chs x (by rw [hl]; exact hx)
 have hcr : ∀ x ∈ r, Ck st.t x := fun x hx => hc x (List.mem_append_left _ hx)
 have hln : (r.length : Int) + 1 ≤ st.d + 1 := by have := h.len; rw [hl] at this; simp at this; omega
 have hsend := comes_send h.base hb hln hc hs
 have hnext : r ≠ [] → Comes st (nextP st r) := comes_next h.base hb hln hcr
 obtain ⟨q, q1, q2, q3, q4⟩ := h.base.one
 rw [followsP_eq]
 split
 ·exact hsend
 split
 ·have hfl : ∀ x ∈ m.an.filter (ofB c.zone c.name c.kind), WfR x := fun x hx => wf_an hm (List.mem_filter.1 hx).1
  have hfn : (m.an.filter (ofB c.zone c.name c.kind)).length ≤ 65535 := Nat.le_trans (List.length_filter_le _ _) hm.an
  generalize m.an.filter (ofB c.zone c.name c.kind) = Fd at hfl hfn
  unfold gotP
  split
  ·exact comes_found h hfn hfl (.inl rfl)
  ·rename_i p ps hr
   have hr2 : r = ps.reverse ++ [p] := by have := congrArg List.reverse hr; simpa using this
   split
   ·exact hnext (by rw [hr2]; simp)
   ·rename_i hne
    have hp := hcr p (by rw [hr2]; simp)
    have hlen : r.length = ps.length + 1 := by rw [hr2]; simp
    have hal := addrs_len Fd
    refine Comes.of (comes_send (h.base.with_l _) hb (by show (ps.reverse.length : Int) + 1 ≤ st.d + 1; simp; omega) (fun x hx => ?_) hne) rfl rfl rfl
    rcases List.mem_append.1 hx with hx | hx
    ·exact hcr x (by rw [hr2]; exact List.mem_append_left _ hx)
    ·rw [List.mem_singleton.1 hx]
     exact ⟨{ hp.q with servers := by show (addrs Fd).length ≤ _; omega }, hp.few⟩
 ·unfold restP
  split
  ·rename_i x l hx
   split
   ·have hmem : x ∈ m.an.filter (ofB c.zone c.name 5) := by rw [hx]; simp
    obtain ⟨hm1, hm2⟩ := List.mem_filter.1 hmem
    have hk : x.kind = 5 := by
     unfold ofB at hm2
     simp only [Bool.and_eq_true, decide_eq_true_eq] at hm2
     exact hm2.1.2
    have hnm := (hm.named.a x hm1).2 (by rw [hk]; rfl)
    refine comes_stands h hb (wf_an hm hm1) hnm ?_ ?_
    ·rw [q1]; exact q2.2.1
    ·rw [q1]; exact q2.2.2.1
   ·rename_i hr; exact hnext hr
  ·split
   ·split
    ·exact comes_found h (by simp) (by simp) (.inr ⟨rfl, rfl⟩)
    ·rename_i hr; exact hnext hr
   ·split
    ·rename_i x hx
     exact comes_down h.base hb hln hc hm (hm.named.u x (List.mem_of_find?_eq_some hx)).1
    ·split
     ·split
      ·exact comes_found h (by simp) (by simp) (.inl rfl)
      ·rename_i hr; exact hnext hr
     ·exact hsend
theorem comes_late {st : RSt} (h : Inv st) (hb : st.busy = true) : Comes st ((lateS st).1, (lateS st).2.1) ∧ (lateS st).2.2 = 0 := by
 have hl := h.live hb
 obtain ⟨r, c, e, hs⟩ := hl.last
 have e2 : lateS st = ((sendP st r c).1, (sendP st r c).2, 0) := by
  unfold lateS
  rw [if_pos hb, e]
  simp
 rw [e2]
 exact ⟨comes_send hl.base hb (by have := hl.len; rw [e] at this; simp at this; omega) (fun x hx => hl.chs x (by rw [e]; exact hx)) hs, rfl⟩
theorem comes_begin {st : RSt} (h : StOk st) {m : Msg} {q : Qn} (hm : WfM m) (hq : m.qs = [q]) (hn : NamedQ q) (hc : q.cls = 1) : Comes (beginSt st m q) (askP (beginSt st m q) [] (freshCh st q.name q.kind)) := by
 have hB : Base (beginSt st m q) := ⟨h.b0, h.b1, h.d0, h.d1, h.c0, h.c1, h.t0, h.t1, h.r0, h.r1, h.id0, h.id1, hm, h.c0, (fun r hr => by cases hr), ⟨q, hq, hn, hc, rfl⟩, by have := h.b0; show ((0 : Nat) : Int) ≤ st.b; omega⟩
 refine comes_ask hB rfl (by have := h.d0; show ((0 : Nat) : Int) + 1 ≤ st.d + 1; omega) (fun x hx => ?_) (fresh_srv hB _ _) (by have := h.t0; show ((0 : Nat) : Int) < st.t; omega)
 have : x = freshCh st q.name q.kind := by simpa using hx
 rw [this]
 exact fresh_ck hB hn.1 hn.2.1 hn.2.2.1
structure KB (B : Nat) (W : World) (xb sb : Nat) (vr : PV) (st : RSt) : Prop where
 at_ : PAt W xb sb vr st
 lo : ∀ j, pOwns xb sb vr j → B ≤ j
 sz : B ≤ W.heap.size
section
variable {B : Nat} {W W' : World} {xb sb : Nat} {vr vr' : PV} {st st' : RSt} {v : Value} {l : List UInt8}
theorem KB.lt (h : KB B W xb sb vr st) {j : Nat} (hj : pOwns xb sb vr j) : j < W.heap.size := h.at_.lt j hj
theorem KB.below (h : KB B W xb sb vr st) (hb : Below W.heap.size W W') : KB B W' xb sb vr st :=
 ⟨h.at_.keep hb.size (fun k hk => hb.block k (h.lt hk)), h.lo, Nat.le_trans h.sz hb.size⟩
theorem KB.aside (h : KB B W xb sb vr st) {r : Nat} (hw : W.grownBy W' (some r)) (hr : ¬ pOwns xb sb vr r) : KB B W' xb sb vr st :=
 ⟨h.at_.keep hw.size (fun k hk => hw.block k (h.lt hk) (fun e => hr (by rw [← Option.some.inj e]; exact hk))), h.lo, Nat.le_trans h.sz hw.size⟩
theorem KB.grown (h : KB B W xb sb vr st) {u : Value} (hw : W.grownBy W' u.ownBlock) (hr : ∀ k, u.ownBlock = some k → ¬ pOwns xb sb vr k) : KB B W' xb sb vr st := by
 cases hu : u.ownBlock with
 | none => rw [hu] at hw; exact h.below (below_grownBy hw)
 | some k => rw [hu] at hw; exact h.aside hw (hr k hu)
structure KSp (B : Nat) (W W' : World) (xb sb : Nat) (vr vr' : PV) (st' : RSt) (v : Value) (l : List UInt8) : Prop where
 kb : KB B W' xb sb vr' st'
 below : Below B W W'
 own : W'.ownsRow 0 5 1 v l.length (bytesV l)
 new : ∀ j, v.ownBlock = some j → W.heap.size ≤ j
 apart : ∀ j, v.ownBlock = some j → ¬ pOwns xb sb vr' j
 keep : ∀ j, j < W.heap.size → ¬ pOwns xb sb vr j → W'.heap[j]? = W.heap[j]?
 owns : ∀ j, pOwns xb sb vr' j → pOwns xb sb vr j ∨ W.heap.size ≤ j
theorem KB.spoke (h : KB B W xb sb vr st) (sp : Spoke W W' xb sb vr vr' st' v l) : KSp B W W' xb sb vr vr' st' v l := by
 have hB := h.sz
 refine ⟨⟨sp.at_, fun j hj => ?_, Nat.le_trans h.sz sp.fr.size⟩, ⟨sp.fr.os, sp.fr.tape, sp.fr.output, sp.fr.size, fun j hj => sp.fr.block j (by omega) (fun e => by have := h.lo j e; omega)⟩, sp.own, sp.new, sp.apart, sp.fr.block, sp.fr.new⟩
 rcases sp.fr.new j hj with e | e
 ·exact h.lo j e
 ·omega
end
theorem kb_put {B r : Nat} {W W' : World} (h : W.grownBy W' (some r)) (hr : B ≤ r) (hB : B ≤ W.heap.size) : Below B W W' := ⟨h.os, h.tape, h.output, h.size, fun k hk => h.block k (by omega) (fun e => by have := Option.some.inj e; omega)⟩
theorem own_bytes {w : World} {a : Option Addr} {l : List UInt8} {c : Nat} (h : w.ownsRow 0 5 1 (.slice a l.length c) l.length (bytesV l)) (hne : l ≠ []) : ∃ b, a = some ⟨b, 0, none⟩ ∧ Bytes w b (str l) ∧ l.length ≤ c ∧ b < w.heap.size := by
 have hlt := h.lt
 rcases h.2 with ⟨_, h0⟩ | ⟨g, cap, cur, e, hg0, hg1, hg2, hg3, hg4⟩
 ·exact absurd (List.eq_nil_of_length_eq_zero h0) hne
 ·cases e
  refine ⟨g, rfl, fun k hk => ?_, hg2, heap_lt hg1⟩
  have hk' : k < l.length := hk
  have := h.cells (g := g) rfl k (.int .u8 (l[k].toNat : Int)) (by unfold bytesV; rw [List.getElem?_map, List.getElem?_eq_getElem hk']; rfl)
  have e1 : (⟨g, 0, none⟩ : Addr).add k = ⟨g, k, none⟩ := by
   unfold Addr.add
   by_cases h : k = 0
   ·rw [h]; rfl
   ·rw [if_neg h]; simp
  rw [e1] at this
  rw [this, at8_lst]
  show some _ = some _
  congr 2
  rw [show (str l).data.toList = l from rfl, List.getD_eq_getElem?_getD, List.getElem?_eq_getElem hk']
  rfl
theorem stepV_inj {k t k' t' : Int} {s s' : ByteArray} (h : stepV k t s = stepV k' t' s') : k = k' ∧ t = t' ∧ s = s' := by
 unfold stepV at h
 injection h with h
 have h0 := congrArg (fun a : Array Value => a[0]?) h
 have h1 := congrArg (fun a : Array Value => a[1]?) h
 have h2 := congrArg (fun a : Array Value => a[2]?) h
 simp at h0 h1 h2
 exact ⟨h0, h1, h2⟩
theorem str_inj {l l' : List UInt8} (h : str l = str l') : l = l' := by
 unfold str at h
 injection h with h
 simpa using h
def qM1 (id : Int) (n : ByteArray) (k : Int) : Msg := ⟨id, false, 0, false, false, true, false, 0, [⟨n, k, 1⟩], [], [], []⟩
theorem one_ok {m : Msg} {n : ByteArray} {k : Int} (hn : nameB n = true) (h1 : m.qs = [⟨n, k, 1⟩]) (h2 : m.an = []) (h3 : m.au = []) (h4 : m.ex = []) (h5 : inRange m = true) : packOk m = true := by
 have hz := (nameB_size hn).2
 unfold packOk body recs
 rw [h1, h2, h3, h4, h5]
 simp [okQ, hn, length_qbytes]
 omega
theorem one_un {m : Msg} {n : ByteArray} {k : Int} (hn : nameB n = true) (h1 : m.qs = [⟨n, k, 1⟩]) (h2 : m.an = []) (h3 : m.au = []) (h4 : m.ex = []) (h5 : inRange m = true) (k0 : 0 ≤ k) (k1 : k ≤ 65535) (i0 : 0 ≤ m.id) (i1 : m.id ≤ 65535) : packL m = pack m ∧ unpack (str (packL m)) = some m := by
 have hok := one_ok hn h1 h2 h3 h4 h5
 have e : packL m = pack m := if_pos hok
 refine ⟨e, ?_⟩
 rw [e]
 refine unpack_pack hok i0 i1 (fun q hq => ?_) (fun r hr => ?_)
 ·rw [h1, List.mem_singleton] at hq
  subst hq
  exact ⟨k0, k1, by simp, by simp⟩
 ·unfold recs at hr
  rw [h2, h3, h4] at hr
  cases hr
theorem pack_12 (m : Msg) : 12 ≤ (pack m).length := by
 unfold pack
 rw [List.length_append, length_head]
 omega
theorem sent_un {st : RSt} (h : Live st) {r : List Ch} {c : Ch} (hl : st.l = r ++ [c]) : packL (askM st.id c) = pack (askM st.id c) ∧ unpack (str (packL (askM st.id c))) = some (askM st.id c) := by
 have hc := h.chs c (by rw [hl]; simp)
 exact one_un hc.q.name rfl rfl rfl rfl rfl hc.q.k0 hc.q.k1 h.base.id0 h.base.id1
theorem unM_of {s : ByteArray} {m : Msg} (h : unpack s = some m) : unM s = m ∧ unE s = 0 := by
 unfold unM unE
 rw [h]
 exact ⟨rfl, rfl⟩
theorem askS_go {st : RSt} (h : StOk st) (hb : st.busy = false) {s : ByteArray} {m : Msg} {q : Qn} (hz : ¬ s.size < 12) (hu : unpack s = some m) (hr : m.resp = false) (hq : m.qs = [q]) (ho : m.op = 0) (hc : q.cls = 1) :
  askS st s = (askSt (beginSt st m q) [] (freshCh st q.name q.kind), askStep (beginSt st m q) (freshCh st q.name q.kind), 0) := by
 unfold askS
 rw [if_neg (by rw [hb]; simp), if_neg hz, hu]
 dsimp only
 rw [if_neg (by rw [hr]; simp), hq]
 dsimp only
 rw [if_neg (by rw [ho, hc]; simp), first_sends h]
theorem ask_go {st : RSt} (h : StOk st) (hb : st.busy = false) {id k : Int} {n : ByteArray} (hn : nameB n = true) (k0 : 0 ≤ k) (k1 : k ≤ 65535) (i0 : 0 ≤ id) (i1 : id ≤ 65535) :
  askS st (str (packL (qM1 id n k))) = (askSt (beginSt st (qM1 id n k) ⟨n, k, 1⟩) [] (freshCh st n k), askStep (beginSt st (qM1 id n k) ⟨n, k, 1⟩) (freshCh st n k), 0) := by
 obtain ⟨e1, e2⟩ := one_un (m := qM1 id n k) hn rfl rfl rfl rfl rfl k0 k1 i0 i1
 have hz : ¬ (str (packL (qM1 id n k))).size < 12 := by
  rw [e1]
  have := pack_12 (qM1 id n k)
  show ¬ (pack (qM1 id n k)).length < 12
  omega
 exact askS_go h hb hz e2 rfl rfl rfl rfl
theorem wf_one {id k : Int} {n : ByteArray} (hn : nameB n = true) (k0 : 0 ≤ k) (k1 : k ≤ 65535) (i0 : 0 ≤ id) (i1 : id ≤ 65535) : WfM (qM1 id n k) := by
 have hz := (nameB_size hn).2
 refine ⟨i0, i1, by simp [qM1], by simp [qM1], by simp [qM1], by simp [qM1], by simp [qM1], by simp [qM1], by simp [qM1], by simp [qM1], fun q hq => ?_, fun r hr => by simp [qM1, recs] at hr⟩
 simp [qM1] at hq
 subst hq
 exact ⟨by show n.size ≤ _; omega, k0, k1, by simp, by simp⟩
theorem ask_comes {st : RSt} (h : StOk st) {id k : Int} {n : ByteArray} (hn : nameB n = true) (k0 : 0 ≤ k) (k1 : k ≤ 65535) (i0 : 0 ≤ id) (i1 : id ≤ 65535) :
  Comes (beginSt st (qM1 id n k) ⟨n, k, 1⟩) (askSt (beginSt st (qM1 id n k) ⟨n, k, 1⟩) [] (freshCh st n k), askStep (beginSt st (qM1 id n k) ⟨n, k, 1⟩) (freshCh st n k)) := by
 have := comes_begin h (m := qM1 id n k) (q := ⟨n, k, 1⟩) (wf_one hn k0 k1 i0 i1) rfl ⟨hn, k0, k1, by simp, by simp⟩ rfl
 rw [first_sends h] at this
 exact this
theorem heardS_fit {st : RSt} {r : List Ch} {c : Ch} {fr : Int} {s : ByteArray} {m : Msg} (hb : st.busy = true) (hl : st.l = r ++ [c]) (hu : unpack s = some m) (hf : fitsP st c fr m = true) : heardS st fr s = ((followsP st r c m).1, (followsP st r c m).2, 0) := by
 unfold heardS
 rw [if_pos hb, hu]
 have e : st.l.reverse = c :: r.reverse := by rw [hl]; simp
 dsimp only
 rw [e]
 dsimp only
 rw [if_pos hf, List.reverse_reverse]
theorem heardS_none {st : RSt} {r : List Ch} {c : Ch} {fr : Int} {s : ByteArray} (hb : st.busy = true) (hl : st.l = r ++ [c]) (hf : ∀ m, unpack s = some m → fitsP st c fr m = false) : heardS st fr s = (st, stepV 0 0 ⟨#[]⟩, 0) := by
 unfold heardS
 rw [if_pos hb]
 have e : st.l.reverse = c :: r.reverse := by rw [hl]; simp
 cases hu : unpack s with
 | none => rfl
 | some m =>
  dsimp only
  rw [e]
  dsimp only
  rw [if_neg (by rw [hf m hu]; simp)]
end Go.Proofs.YtafoepfhepdcoaaGreat
