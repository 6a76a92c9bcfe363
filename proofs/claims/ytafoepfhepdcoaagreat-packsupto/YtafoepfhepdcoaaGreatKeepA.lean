/- What stays while a list is kept. -/
import Derived.Test.YtafoepfhepdcoaaGreatLonger
namespace Go.Proofs.YtafoepfhepdcoaaGreat
open Go.RowKit Go.Trawl

def ptrV (k : Nat) : Value := .pointer (some ⟨k, 0, none⟩)
def holdT (t : TypeId) : Prop := t = 121 ∨ t = 5 ∨ t = 54 ∨ t = 41 ∨ t = 69

/-- No block of a hold has turned. -/
def SameT (w w' : World) : Prop := ∀ (k : Nat) (cs : Array Value) (t : TypeId), w.heap[k]? = some (.cells cs t) → holdT t → w'.heap[k]? = some (.cells cs t)

theorem RowM.move {U U' : Nat → Prop} {w w' : World} {e : TypeId} {sz : Nat} {v : Value} {es : List (List Value)} (h : RowM U w e sz v es) (hU : ∀ k, U k → U' k) (hk : ∀ (k : Nat) (cur : Array Value), U k → w.heap[k]? = some (.cells cur e) → w'.heap[k]? = some (.cells cur e)) : RowM U' w' e sz v es := by
  obtain ⟨a, c, h1, h2, h3⟩ := h
  refine ⟨a, c, h1, h2, ?_⟩
  rcases h3 with h3 | ⟨g, cur, h4, h5, h6, h7⟩
  · exact .inl h3
  · exact .inr ⟨g, cur, h4, hU g h5, hk g cur h5 h6, h7⟩

def HoldX (U : Nat → Prop) (w : World) (hb : Nat) : Prop := ∃ vb vr vq vc mk lb lr lq lc, HoldM U w hb vb vr vq vc mk lb lr lq lc

theorem HoldM.move {U U' : Nat → Prop} {w w' : World} {hb : Nat} {vb vr vq vc : Value} {mk : Int} {lb lr lq lc : Nat} (h : HoldM U w hb vb vr vq vc mk lb lr lq lc) (hU : ∀ k, U k → U' k) (hk : ∀ (k : Nat) (cs : Array Value) (t : TypeId), U k → holdT t → w.heap[k]? = some (.cells cs t) → w'.heap[k]? = some (.cells cs t)) : HoldM U' w' hb vb vr vq vc mk lb lr lq lc :=
  ⟨hU _ h.use, hk _ _ _ h.use (.inl rfl) h.box, h.lo, h.hi, h.b.move hU fun k cur hu => hk k cur _ hu (.inr (.inl rfl)), h.r.move hU fun k cur hu => hk k cur _ hu (.inr (.inr (.inl rfl))),
    h.q.move hU fun k cur hu => hk k cur _ hu (.inr (.inr (.inr (.inl rfl)))), h.c.move hU fun k cur hu => hk k cur _ hu (.inr (.inr (.inr (.inr rfl))))⟩
theorem HoldX.move {U U' : Nat → Prop} {w w' : World} {hb : Nat} (h : HoldX U w hb) (hU : ∀ k, U k → U' k) (hk : ∀ (k : Nat) (cs : Array Value) (t : TypeId), U k → holdT t → w.heap[k]? = some (.cells cs t) → w'.heap[k]? = some (.cells cs t)) : HoldX U' w' hb := by
  obtain ⟨vb, vr, vq, vc, mk, lb, lr, lq, lc, h⟩ := h
  exact ⟨vb, vr, vq, vc, mk, lb, lr, lq, lc, h.move hU hk⟩

theorem own_same {w w' : World} {e : TypeId} {sz : Nat} {v : Value} {n : Nat} {x : List Value} (h : w.ownsRow 0 e sz v n x) (hk : ∀ (k : Nat) (cs : Array Value), w.heap[k]? = some (.cells cs e) → w'.heap[k]? = some (.cells cs e)) : w'.ownsRow 0 e sz v n x := by
  refine ⟨h.1, ?_⟩
  rcases h.2 with h2 | ⟨g, cap, cur, h3, h4, h5, r⟩
  · exact .inl h2
  · exact .inr ⟨g, cap, cur, h3, h4, hk g cur h5, r⟩
theorem HoldO.same {w w' : World} {hb : Nat} {vb vr vq vc : Value} {mk : Int} {lb lr lq lc : Nat} (h : HoldO w hb vb vr vq vc mk lb lr lq lc) (hs : SameT w w') : HoldO w' hb vb vr vq vc mk lb lr lq lc :=
  ⟨hs _ _ _ h.box (.inl rfl), own_same h.b fun k cs hk => hs k cs _ hk (.inr (.inl rfl)), own_same h.r fun k cs hk => hs k cs _ hk (.inr (.inr (.inl rfl))),
    own_same h.q fun k cs hk => hs k cs _ hk (.inr (.inr (.inr (.inl rfl)))), own_same h.c fun k cs hk => hs k cs _ hk (.inr (.inr (.inr (.inr rfl))))⟩

theorem bEs_flat (mk : Int) (n : Nat) : (bEs mk n).flatten = bL mk n := by
  unfold bEs bL
  induction List.range n with
  | nil => rfl
  | cons x r ih => simp only [List.map_cons, List.flatten_cons, ih]; rfl

/-- A row of one's own reads as it does. -/
theorem own_rowM {U : Nat → Prop} {w : World} {e : TypeId} {sz : Nat} {v : Value} {n : Nat} {es : List (List Value)} (h : w.ownsRow 0 e sz v n es.flatten) (hlen : ∀ x ∈ es, x.length = sz) (hn : n = es.length) (hl : n ≤ 4194304) (hU : ∀ k, v.ownBlock = some k → U k) : RowM U w e sz v es := by
  rcases h.2 with ⟨rfl, h0⟩ | ⟨g, cap, cur, rfl, _, hg, hnc, hcm, hcs, htake⟩
  · have : es = [] := List.eq_nil_of_length_eq_zero (by omega)
    subst this
    exact ⟨none, 0, rfl, by simp, .inl rfl⟩
  · refine ⟨some ⟨g, 0, none⟩, cap, by rw [hn], by omega, .inr ⟨g, cur, rfl, hU g rfl, hg, fun i x hi j u hj => ?_⟩⟩
    have := flat_at es hlen i x j u hi hj
    rw [← htake, List.getElem?_take] at this
    split at this
    · simpa using this
    · cases this

/-- A row over the same block, of a shorter list. -/
theorem rowM_step {U : Nat → Prop} {w w' : World} {e : TypeId} {sz : Nat} {v v0 : Value} {n : Nat} {es es0 : List (List Value)} (h : RowM U w e sz v0 es0) (hpre : ∀ (i : Nat) (x : List Value), es0[i]? = some x → es[i]? = some x) (hlen : ∀ x ∈ es, x.length = sz)
    (old : w'.ownsRow 0 e sz v n es.flatten) (frame : ∀ (k : Nat) (cur : Array Value), w.heap[k]? = some (.cells cur e) → v.ownBlock ≠ some k → w'.heap[k]? = some (.cells cur e)) : RowM U w' e sz v0 es0 := by
  obtain ⟨a, c, h1, h2, h3⟩ := h
  refine ⟨a, c, h1, h2, ?_⟩
  rcases h3 with h3 | ⟨g, cur, h4, h5, h6, h7⟩
  · exact .inl h3
  · by_cases hg : v.ownBlock = some g
    · rcases old.2 with ⟨rfl, _⟩ | ⟨g2, cap, cur2, rfl, _, hg2, hnc, hcm, hcs, htake⟩
      · cases hg
      · have : g2 = g := Option.some.inj hg
        subst this
        refine .inr ⟨g2, cur2, h4, h5, hg2, fun i x hi j u hj => ?_⟩
        have := flat_at es hlen i x j u (hpre i x hi) hj
        rw [← htake, List.getElem?_take] at this
        split at this
        · simpa using this
        · cases this
    · exact .inr ⟨g, cur, h4, h5, frame g cur h6 hg, h7⟩

theorem bEs_len (mk : Int) (n : Nat) : ∀ x ∈ bEs mk n, x.length = 1 := by
  intro x hx; obtain ⟨j, _, rfl⟩ := List.mem_map.1 hx; rfl
theorem bEs_pre (mk : Int) {m n : Nat} (h : m ≤ n) : ∀ (i : Nat) (x : List Value), (bEs mk m)[i]? = some x → (bEs mk n)[i]? = some x := by
  intro i x hi
  simp only [bEs, List.getElem?_map, Option.map_eq_some_iff] at hi ⊢
  obtain ⟨j, hj, hx⟩ := hi
  rw [List.getElem?_eq_some_iff] at hj
  obtain ⟨hlt, hje⟩ := hj
  simp only [List.length_range] at hlt
  simp only [List.getElem_range] at hje
  subst hje
  exact ⟨i, by rw [List.getElem?_eq_some_iff]; exact ⟨by simp; omega, by simp⟩, hx⟩
theorem rep_pre (f : List Value) {m n : Nat} (h : m ≤ n) : ∀ (i : Nat) (x : List Value), (List.replicate m f)[i]? = some x → (List.replicate n f)[i]? = some x := by
  intro i x hi
  rw [List.getElem?_replicate] at hi ⊢
  split at hi
  · rw [if_pos (by omega)]; exact hi
  · cases hi
theorem rep_len (f : List Value) (n : Nat) : ∀ x ∈ List.replicate n f, x.length = f.length := by
  intro x hx; rw [List.eq_of_mem_replicate hx]

/-- A hold of one's own reads as it does. -/
theorem HoldO.holdM {U : Nat → Prop} {w : World} {hb : Nat} {vb vr vq vc : Value} {mk : Int} {lb lr lq lc : Nat} (h : HoldO w hb vb vr vq vc mk lb lr lq lc) (h0 : 1 ≤ mk) (h1 : mk ≤ 100000000) (b1 : lb ≤ 4194304) (b2 : lr ≤ 4194304) (b3 : lq ≤ 4194304) (b4 : lc ≤ 4194304) (hU : U hb)
    (u1 : ∀ k, vb.ownBlock = some k → U k) (u2 : ∀ k, vr.ownBlock = some k → U k) (u3 : ∀ k, vq.ownBlock = some k → U k) (u4 : ∀ k, vc.ownBlock = some k → U k) : HoldM U w hb vb vr vq vc mk lb lr lq lc := by
  refine ⟨hU, h.box, h0, h1, ?_, ?_, ?_, ?_⟩
  · have := h.b; rw [← bEs_flat] at this; exact own_rowM this (bEs_len mk lb) (by simp [bEs]) b1 u1
  · exact own_rowM h.r (rep_len _ _) (by simp) b2 u2
  · exact own_rowM h.q (rep_len _ _) (by simp) b3 u3
  · exact own_rowM h.c (rep_len _ _) (by simp) b4 u4

/-- An elder hold of the same mark, while longer makes another. -/
theorem HoldM.longer {U : Nat → Prop} {w w' : World} {h0 hb G : Nat} {vb vr vq vc yb yr yq yc x0 x1 x2 x3 : Value} {mk : Int} {lb lr lq lc mb mr mq mc : Nat} (h : HoldM U w h0 yb yr yq yc mk mb mr mq mc) (L : Lg w w' hb G vb vr vq vc mk lb lr lq lc x0 x1 x2 x3)
    (hO : HoldO w hb vb vr vq vc mk lb lr lq lc) (e1 : mb ≤ lb) (e2 : mr ≤ lr) (e3 : mq ≤ lq) (e4 : mc ≤ lc) : HoldM U w' h0 yb yr yq yc mk mb mr mq mc := by
  have fr : ∀ (k : Nat) (cs : Array Value) (t : TypeId), w.heap[k]? = some (.cells cs t) → vb.ownBlock ≠ some k → vr.ownBlock ≠ some k → vq.ownBlock ≠ some k → vc.ownBlock ≠ some k → w'.heap[k]? = some (.cells cs t) :=
    fun k cs t hk n1 n2 n3 n4 => (L.frame k (heap_lt hk) n1 n2 n3 n4).trans hk
  refine ⟨h.use, ?_, h.lo, h.hi, ?_, ?_, ?_, ?_⟩
  · exact fr _ _ _ h.box (own_type_ne' hO.b h.box (by decide)) (own_type_ne' hO.r h.box (by decide)) (own_type_ne' hO.q h.box (by decide)) (own_type_ne' hO.c h.box (by decide))
  · refine rowM_step h.b (bEs_pre mk e1) (bEs_len mk lb) (by rw [bEs_flat]; exact L.b) fun k cur hk n1 => ?_
    exact fr k cur _ hk n1 (own_type_ne' hO.r hk (by decide)) (own_type_ne' hO.q hk (by decide)) (own_type_ne' hO.c hk (by decide))
  · refine rowM_step h.r (rep_pre _ e2) (rep_len _ _) L.r fun k cur hk n1 => ?_
    exact fr k cur _ hk (own_type_ne' hO.b hk (by decide)) n1 (own_type_ne' hO.q hk (by decide)) (own_type_ne' hO.c hk (by decide))
  · refine rowM_step h.q (rep_pre _ e3) (rep_len _ _) L.q fun k cur hk n1 => ?_
    exact fr k cur _ hk (own_type_ne' hO.b hk (by decide)) (own_type_ne' hO.r hk (by decide)) n1 (own_type_ne' hO.c hk (by decide))
  · refine rowM_step h.c (rep_pre _ e4) (rep_len _ _) L.c fun k cur hk n1 => ?_
    exact fr k cur _ hk (own_type_ne' hO.b hk (by decide)) (own_type_ne' hO.r hk (by decide)) (own_type_ne' hO.q hk (by decide)) n1
end Go.Proofs.YtafoepfhepdcoaaGreat
