import Derived.Test.YtafoepfhepdcoaaGreatM1
set_option maxRecDepth 100000
set_option maxHeartbeats 8000000
namespace Go.Trawl
open Go.RowKit
def Qn.cells (q : Qn) : List Value := [.string q.name, .int .u16 q.kind, .int .u16 q.cls]
def Rc.cells (r : Rc) : List Value := [.string r.name, .int .u16 r.kind, .int .u16 r.cls, .int .u32 r.ttl, .string r.data]
def Lies (w : World) (sz : Nat) (v : Value) (es : List (List Value)) : Prop :=
 ∃ a c, v = .slice a es.length c ∧ (a = none → c = 0) ∧ (es = [] ∨ ∃ b off, a = some ⟨b, off, none⟩ ∧ b < w.heap.size ∧
  ∀ i e, es[i]? = some e → ∀ j u, e[j]? = some u → w.cell? ⟨b, off + i * sz + j, none⟩ = some u)
theorem Lies.keep {w w' : World} {sz : Nat} {v : Value} {es : List (List Value)} (h : Lies w sz v es) (hs : w.heap.size ≤ w'.heap.size) (hk : ∀ b, v.ownBlock = some b → b < w.heap.size → w'.heap[b]? = w.heap[b]?) : Lies w' sz v es := by
 obtain ⟨a, c, rfl, hac, h⟩ := h
 refine ⟨a, c, rfl, hac, ?_⟩
 rcases h with h | ⟨b, off, rfl, hb, h⟩
 ·exact .inl h
 ·refine .inr ⟨b, off, rfl, Nat.lt_of_lt_of_le hb hs, fun i e hi j u hj => ?_⟩
  exact cell_of_heap (hk b rfl hb) (h i e hi j u hj)
theorem Lies.keepB {w w' : World} {sz : Nat} {v : Value} {es : List (List Value)} (h : Lies w sz v es) {B : Nat} (hB : w.heap.size ≤ B) (hb : Below B w w') : Lies w' sz v es :=
 h.keep hb.size fun b _ hlt => hb.block b (by omega)
theorem Lies.below {w w' : World} {sz : Nat} {v : Value} {es : List (List Value)} (h : Lies w sz v es) (hb : Below w.heap.size w w') : Lies w' sz v es :=
 h.keep hb.size fun b _ hlt => hb.block b hlt
structure WfQ (q : Qn) : Prop where
 name : q.name.size ≤ 2097152
 k0 : 0 ≤ q.kind
 k1 : q.kind ≤ 65535
 c0 : 0 ≤ q.cls
 c1 : q.cls ≤ 65535
structure WfR (r : Rc) : Prop where
 name : r.name.size ≤ 2097152
 data : r.data.size ≤ 2097152
 k0 : 0 ≤ r.kind
 k1 : r.kind ≤ 65535
 c0 : 0 ≤ r.cls
 c1 : r.cls ≤ 65535
 t0 : 0 ≤ r.ttl
 t1 : r.ttl ≤ 4294967295
structure WfM (m : Msg) : Prop where
 id0 : 0 ≤ m.id
 id1 : m.id ≤ 65535
 op0 : -9223372036854775808 ≤ m.op
 op1 : m.op ≤ 9223372036854775807
 code0 : -9223372036854775808 ≤ m.code
 code1 : m.code ≤ 9223372036854775807
 nq : m.qs.length ≤ 2097152
 na : m.an.length ≤ 2097152
 nu : m.au.length ≤ 2097152
 nx : m.ex.length ≤ 2097152
 qs : ∀ q ∈ m.qs, WfQ q
 rs : ∀ r ∈ recs m, WfR r
structure MsgAt (w : World) (m : Msg) (vq va vu vx : Value) : Prop where
 q : Lies w 3 vq (m.qs.map Qn.cells)
 a : Lies w 5 va (m.an.map Rc.cells)
 u : Lies w 5 vu (m.au.map Rc.cells)
 x : Lies w 5 vx (m.ex.map Rc.cells)
theorem MsgAt.below {w w' : World} {m : Msg} {vq va vu vx : Value} (h : MsgAt w m vq va vu vx) (hb : Below w.heap.size w w') : MsgAt w' m vq va vu vx :=
 ⟨h.q.below hb, h.a.below hb, h.u.below hb, h.x.below hb⟩
def mc_ (m : Msg) (vq va vu vx : Value) : Array Value :=
 #[.int .u16 m.id, .bool m.resp, .int .i64 m.op, .bool m.own, .bool m.cut, .bool m.wanted, .bool m.able, .int .i64 m.code, vq, va, vu, vx]
def preR (m : Msg) (i : Nat) : List Rc := ([m.an, m.au, m.ex].take i).flatten
theorem list_at {w : World} {m : Msg} {vq va vu vx : Value} (hat : MsgAt w m vq va vu vx) (hwf : WfM m) (i : Nat) (h : i < 3) :
  ∃ L v, #[va, vu, vx][i]? = some v ∧ Lies w 5 v (L.map Rc.cells) ∧ preR m (i + 1) = preR m i ++ L ∧ (∃ B, recs m = preR m i ++ L ++ B) ∧ L.length ≤ 2097152 := by
 rcases (show i = 0 ∨ i = 1 ∨ i = 2 from by omega) with rfl | rfl | rfl
 ·exact ⟨m.an, va, rfl, hat.a, by simp [preR], ⟨m.au ++ m.ex, by simp [preR, recs]⟩, hwf.na⟩
 ·exact ⟨m.au, vu, rfl, hat.u, by simp [preR], ⟨m.ex, by simp [preR, recs]⟩, hwf.nu⟩
 ·exact ⟨m.ex, vx, rfl, hat.x, by simp [preR], ⟨[], by simp [preR, recs]⟩, hwf.nx⟩
theorem preR_all (m : Msg) : preR m 3 = recs m := by simp [preR, recs]
theorem recs_flat (m : Msg) : [] ++ (m.an.map Rc.cells).flatten ++ (m.au.map Rc.cells).flatten ++ (m.ex.map Rc.cells).flatten = ((recs m).map Rc.cells).flatten := by simp [recs]
theorem recs_count (m : Msg) : 0 + (m.an.map Rc.cells).length + (m.au.map Rc.cells).length + (m.ex.map Rc.cells).length = ((recs m).map Rc.cells).length := by simp [recs]; omega
def qlen (l : List Qn) : Nat := (l.flatMap qbytes).length
def rlen (l : List Rc) : Nat := (l.flatMap rbytes).length
theorem qlen_append (a b : List Qn) : qlen (a ++ b) = qlen a + qlen b := by simp [qlen]
theorem rlen_append (a b : List Rc) : rlen (a ++ b) = rlen a + rlen b := by simp [rlen]
theorem qlen_one (q : Qn) : qlen [q] = q.name.size + 4 := by simp [qlen, length_qbytes]
theorem rlen_one (r : Rc) : rlen [r] = r.name.size + 10 + r.data.size := by simp [rlen, length_rbytes]
theorem length_le_qlen (l : List Qn) : l.length ≤ qlen l := by
 induction l with
 | nil => simp
 | cons q r ih => rw [show q :: r = [q] ++ r from rfl, qlen_append, qlen_one]; simp; omega
theorem length_le_rlen (l : List Rc) : l.length ≤ rlen l := by
 induction l with
 | nil => simp
 | cons q r ih => rw [show q :: r = [q] ++ r from rfl, rlen_append, rlen_one]; simp; omega
theorem qlen_take (l : List Qn) (k : Nat) : qlen (l.take k) ≤ qlen l := by
 conv => rhs; rw [← List.take_append_drop k l, qlen_append]
 omega
theorem rlen_prefix (a b : List Rc) (h : ∃ c, b = a ++ c) : rlen a ≤ rlen b := by
 obtain ⟨c, rfl⟩ := h
 rw [rlen_append]; omega
theorem body_length (m : Msg) : (body m).length = qlen m.qs + rlen (recs m) := by simp [body, qlen, rlen]
theorem lens_of_body {m : Msg} (h : 12 + (body m).length ≤ 512) : m.qs.length ≤ 512 ∧ m.an.length ≤ 512 ∧ m.au.length ≤ 512 ∧ m.ex.length ≤ 512 := by
 rw [body_length] at h
 have h1 := length_le_qlen m.qs
 have h2 := length_le_rlen (recs m)
 simp only [recs, List.length_append] at h2
 unfold recs at h
 omega
theorem pack_q_no {m : Msg} {A B : List Qn} {q : Qn} (h : m.qs = A ++ q :: B) (hb : nameB q.name = false ∨ 512 < 12 + qlen A + (q.name.size + 4)) : packOk m = false := by
 unfold packOk
 rcases hb with hb | hb
 ·have : m.qs.all okQ = false := by rw [h]; simp [okQ, hb]
  simp [this]
 ·have : ¬ 12 + (body m).length ≤ 512 := by
   rw [body_length, h, show A ++ q :: B = A ++ [q] ++ B by simp, qlen_append, qlen_append, qlen_one]
   omega
  simp [this]
theorem pack_r_no {m : Msg} {A B : List Rc} {r : Rc} (h : recs m = A ++ r :: B) (hb : okR r = false ∨ 512 < r.data.size ∨ 512 < 12 + qlen m.qs + rlen A + (r.name.size + 10 + r.data.size)) : packOk m = false := by
 unfold packOk
 rcases hb with hb | hb
 ·have : (recs m).all okR = false := by rw [h]; simp [hb]
  simp [this]
 ·have : ¬ 12 + (body m).length ≤ 512 := by
   rw [body_length, h, show A ++ r :: B = A ++ [r] ++ B by simp, rlen_append, rlen_append, rlen_one]
   omega
  simp [this]
theorem pack_range_no {m : Msg} (h : inRange m = false) : packOk m = false := by simp [packOk, h]
theorem pack_yes {m : Msg} (h : inRange m = true) (hq : m.qs.all okQ = true) (hr : (recs m).all okR = true) (hl : 12 + qlen m.qs + rlen (recs m) ≤ 512) : packOk m = true := by
 have : 12 + (body m).length ≤ 512 := by rw [body_length]; omega
 simp [packOk, h, hq, hr, this]
theorem take_snoc {α : Type} (l : List α) (k : Nat) (x : α) (h : l[k]? = some x) : l.take (k + 1) = l.take k ++ [x] := by
 rw [List.take_add_one]; simp [h]
theorem split_at {α : Type} (l : List α) (k : Nat) (x : α) (h : l[k]? = some x) : l = l.take k ++ x :: l.drop (k + 1) := by
 have hk : k < l.length := (List.getElem?_eq_some_iff.1 h).1
 have hx : l[k] = x := (List.getElem?_eq_some_iff.1 h).2
 rw [← hx, List.getElem_cons_drop hk, List.take_append_drop]
def shorts (m : Msg) : List Int := [m.id, flags m, m.qs.length, m.an.length, m.au.length, m.ex.length]
theorem shorts_head (m : Msg) : (shorts m).flatMap two = head m := rfl
theorem bit_le (b : Bool) (n : Int) (h : 0 ≤ n) : 0 ≤ bit b n ∧ bit b n ≤ n := by
 unfold bit; split <;> omega
theorem shorts_range {m : Msg} (hwf : WfM m) (hr : 0 ≤ m.op ∧ m.op ≤ 15 ∧ 0 ≤ m.code ∧ m.code ≤ 15) (hl : m.qs.length ≤ 512 ∧ m.an.length ≤ 512 ∧ m.au.length ≤ 512 ∧ m.ex.length ≤ 512) : ∀ x ∈ shorts m, 0 ≤ x ∧ x ≤ 65535 := by
 have h1 := hwf.id0
 have h2 := hwf.id1
 have b1 := bit_le m.resp 32768 (by omega)
 have b2 := bit_le m.own 1024 (by omega)
 have b3 := bit_le m.cut 512 (by omega)
 have b4 := bit_le m.wanted 256 (by omega)
 have b5 := bit_le m.able 128 (by omega)
 intro x hx
 simp only [shorts, List.mem_cons, List.not_mem_nil, or_false] at hx
 rcases hx with rfl | rfl | rfl | rfl | rfl | rfl
 ·omega
 ·unfold flags; omega
 all_goals omega
theorem two_prefix (l : List Int) (k : Nat) (x : Int) (h : l[k]? = some x) : (l.take (k + 1)).flatMap two = (l.take k).flatMap two ++ two x := by
 rw [take_snoc l k x h]; simp
theorem two_length (l : List Int) : (l.flatMap two).length = 2 * l.length := by
 induction l with
 | nil => rfl
 | cons x r ih => simp [length_two, ih]; omega
theorem Lies.qat {w : World} {b off : Nat} {qs : List Qn} (h : ∀ i e, (qs.map Qn.cells)[i]? = some e → ∀ j u, e[j]? = some u → w.cell? ⟨b, off + i * 3 + j, none⟩ = some u) {k : Nat} {q : Qn} (hk : qs[k]? = some q) :
  w.cell? ⟨b, off + k * 3, none⟩ = some (.string q.name) ∧ w.cell? ⟨b, off + k * 3 + 1, none⟩ = some (.int .u16 q.kind) ∧ w.cell? ⟨b, off + k * 3 + 2, none⟩ = some (.int .u16 q.cls) := by
 have h1 := h k q.cells (by simp [hk])
 exact ⟨h1 0 _ rfl, h1 1 _ rfl, h1 2 _ rfl⟩
theorem Lies.rat {w : World} {b off : Nat} {rs : List Rc} (h : ∀ i e, (rs.map Rc.cells)[i]? = some e → ∀ j u, e[j]? = some u → w.cell? ⟨b, off + i * 5 + j, none⟩ = some u) {k : Nat} {r : Rc} (hk : rs[k]? = some r) :
  w.cell? ⟨b, off + k * 5, none⟩ = some (.string r.name) ∧ w.cell? ⟨b, off + k * 5 + 1, none⟩ = some (.int .u16 r.kind) ∧ w.cell? ⟨b, off + k * 5 + 2, none⟩ = some (.int .u16 r.cls) ∧
   w.cell? ⟨b, off + k * 5 + 3, none⟩ = some (.int .u32 r.ttl) ∧ w.cell? ⟨b, off + k * 5 + 4, none⟩ = some (.string r.data) := by
 have h1 := h k r.cells (by simp [hk])
 exact ⟨h1 0 _ rfl, h1 1 _ rfl, h1 2 _ rfl, h1 3 _ rfl, h1 4 _ rfl⟩
theorem flat_get {sz : Nat} : ∀ (es : List (List Value)), (∀ e ∈ es, e.length = sz) → ∀ j u, es.flatten[j]? = some u → ∃ i e k, es[i]? = some e ∧ e[k]? = some u ∧ j = i * sz + k
 | [], _, j, u, h => by simp at h
 | e :: es, hl, j, u, h => by
  have he : e.length = sz := hl e (by simp)
  rw [List.flatten_cons, List.getElem?_append] at h
  split at h
  ·exact ⟨0, e, j, rfl, h, by simp⟩
  ·rename_i hlt
   obtain ⟨i, e', k, h1, h2, h3⟩ := flat_get es (fun x hx => hl x (by simp [hx])) _ u h
   refine ⟨i + 1, e', k, by simpa using h1, h2, ?_⟩
   rw [Nat.add_mul, Nat.one_mul, ← he]
   rw [he] at h3 ⊢
   omega
theorem flat_length {sz : Nat} : ∀ (es : List (List Value)), (∀ e ∈ es, e.length = sz) → es.flatten.length = es.length * sz
 | [], _ => by simp
 | e :: es, hl => by
  rw [List.flatten_cons, List.length_append, flat_length es (fun x hx => hl x (by simp [hx])), hl e (by simp), List.length_cons, Nat.add_mul, Nat.one_mul, Nat.add_comm]
theorem flat_at {sz : Nat} : ∀ (es : List (List Value)), (∀ e ∈ es, e.length = sz) → ∀ i e k u, es[i]? = some e → e[k]? = some u → es.flatten[i * sz + k]? = some u
 | [], _, i, e, k, u, h, _ => by simp at h
 | x :: es, hl, i, e, k, u, h, hk => by
  have hx : x.length = sz := hl x (by simp)
  rw [List.flatten_cons, List.getElem?_append]
  cases i with
  | zero =>
   simp at h
   subst h
   have : k < x.length := (List.getElem?_eq_some_iff.1 hk).1
   rw [if_pos (by omega)]
   simpa using hk
  | succ i =>
   rw [Nat.add_mul, Nat.one_mul, if_neg (by omega)]
   have := flat_at es (fun y hy => hl y (by simp [hy])) i e k u (by simpa using h) hk
   rw [← this]; congr 1; omega
theorem own_lies {w : World} {e : TypeId} {sz : Nat} {v : Value} {n : Nat} {es : List (List Value)} (h : w.ownsRow 0 e sz v n es.flatten) (hlen : ∀ x ∈ es, x.length = sz) (hn : n = es.length) : Lies w sz v es := by
 rcases h.2 with ⟨rfl, h0⟩ | ⟨g, cap, cur, rfl, _, hg, hnc, hcm, hcs, htake⟩
 ·have : es = [] := List.eq_nil_of_length_eq_zero (by omega)
  subst this
  exact ⟨none, 0, rfl, fun _ => rfl, .inl rfl⟩
 ·refine ⟨some ⟨g, 0, none⟩, cap, by rw [hn], (fun h => by cases h), .inr ⟨g, 0, rfl, (Array.getElem?_eq_some_iff.1 hg).1, fun i x hi j u hj => ?_⟩⟩
  have := flat_at es hlen i x j u hi hj
  have h2 := h.cells (g := g) rfl (i * sz + j) u this
  have e1 : (⟨g, 0, none⟩ : Addr).add (i * sz + j) = ⟨g, 0 + i * sz + j, none⟩ := by simp [Addr.add]; omega
  rw [e1] at h2
  exact h2
theorem append_lies {P : Program} (w : World) (t ty e : TypeId) (i : TypeInfo) (z : Value) (size bytes : Nat) (ht : P.underlying t = some (.slice e)) (hi : P.info? e = some i) (hz : i.zero = some z)
  (hsize : i.size = size) (hby : i.bytes = bytes) (hzs : z.cells.size = size) (hsz : 0 < size)
  (v : Value) (n : Nat) (xs : List Value) (hown : w.ownsRow 0 e size v n xs) (src : Value) (es : List (List Value)) (hsrc : Lies w size src es) (hes : ∀ x ∈ es, x.length = size ∧ ∀ u ∈ x, u.oneCell' = true)
  (h63 : n + es.length ≤ maxLen) (hbytes : (n + es.length) * bytes ≤ 140737488355328) :
  ∃ v' w', (Builtin.append_ #[t, t] ty #[v, src]).run P w = .ok v' w' ∧ Grew e size w w' v v' (n + es.length) (xs ++ es.flatten) := by
 obtain ⟨a, c, rfl, hac, h⟩ := hsrc
 have hl := flat_length (sz := size) es (fun x hx => (hes x hx).1)
 have h1 : ∀ u ∈ es.flatten, u.oneCell' = true := by
  intro u hu
  obtain ⟨x, hx, hux⟩ := List.mem_flatten.1 hu
  exact (hes x hx).2 u hux
 cases a with
 | some ad =>
  refine append_grew (P := P) w t ty e i z size bytes ht hi hz hsize hby hzs hsz v n xs hown ad es.length c es.flatten hl (fun j u hj => ?_) h1 h63 hbytes
  rcases h with rfl | ⟨b, off, hab, _, h⟩
  ·simp at hj
  ·obtain ⟨k, x, r, hk, hr, rfl⟩ := flat_get es (fun x hx => (hes x hx).1) j u hj
   have hab' := Option.some.inj hab
   subst hab'
   have := h k x hk r u hr
   have e1 : (⟨b, off, none⟩ : Addr).add (k * size + r) = ⟨b, off + k * size + r, none⟩ := by simp [Addr.add, Nat.add_assoc]
   rw [e1]; exact this
 | none =>
  have hc := hac rfl
  rcases h with rfl | ⟨b, off, hab, _⟩
  ·subst hc
   have := run_append_owned_none (P := P) w 0 t ty e i size ht hi v n xs hown
   exact ⟨v, w, this, by simpa using Grew.refl hown⟩
  ·cases hab
theorem wpList_append_lies {P : Program} (w : World) {ops : Array Oper} {rest : List Oper} {o : Oper} {a : Act} {Q : Exit → Act → World → Prop} (hgd : o.guard = none) (s x : Operand) (t : TypeId) (ho : o.op = .call { callee := .builtin .append, args := #[s, x], argTypes := #[t, t] })
  (e : TypeId) (i : TypeInfo) (z : Value) (size bytes : Nat) (ht : P.underlying t = some (.slice e)) (hi : P.info? e = some i) (hz : i.zero = some z)
  (hsize : i.size = size) (hby : i.bytes = bytes) (hzs : z.cells.size = size) (hsz : 0 < size)
  (v : Value) (n : Nat) (xs : List Value) (hs : a.eval s = v) (src : Value) (es : List (List Value)) (hx : a.eval x = src) (hes : ∀ x ∈ es, x.length = size ∧ ∀ u ∈ x, u.oneCell' = true)
  (hown : w.ownsRow 0 e size v n xs) (hsrc : Lies w size src es) (h63 : n + es.length ≤ maxLen) (hbytes : (n + es.length) * bytes ≤ 140737488355328)
  (h : ∀ v' w', Grew e size w w' v v' (n + es.length) (xs ++ es.flatten) → wpList P ops Q rest (a.put o.dst v') w') : wpList P ops Q (o :: rest) a w := by
 refine wpList_plain hgd fun K hK => ?_
 obtain ⟨v', w', hr, h2⟩ := append_lies (P := P) w t o.type e i z size bytes ht hi hz hsize hby hzs hsz v n xs hown src es hsrc hes h63 hbytes
 unfold Oper.wp execOp
 simp only [ho, resolve, invoke, builtin, Sem.run_bind, Sem.run_pure, Result.andThen_ok, List.map_toArray, List.map_cons, List.map_nil, hs, hx, hr]
 exact hK _ _ (h v' w' h2)
theorem rcells_ok (l : List Rc) : ∀ x ∈ l.map Rc.cells, x.length = 5 ∧ ∀ u ∈ x, u.oneCell' = true := by
 intro x hx
 obtain ⟨r, _, rfl⟩ := List.mem_map.1 hx
 refine ⟨rfl, fun u hu => ?_⟩
 simp only [Rc.cells, List.mem_cons, List.not_mem_nil, or_false] at hu
 rcases hu with rfl | rfl | rfl | rfl | rfl <;> rfl
end Go.Trawl
