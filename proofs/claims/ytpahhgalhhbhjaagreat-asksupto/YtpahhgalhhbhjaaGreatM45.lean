import Derived.Test.YtpahhgalhhbhjaaGreatM44
/- A resolver more. -/
namespace Go.Proofs.YtpahhgalhhbhjaaGreat
open Go.RowKit Go.Trawl

section
variable {B : Nat} {U : Nat → Prop} {ws : Nat} {vps : Value} {hs : List Nat} {vh : Value} {ps : List Pl}
theorem Game.push {y1 y4 : World} {q : Pl} {v' : Value} (h : Game B U y1 ws vps hs vh ps) (hpb : q.pb = y1.heap.size) (hx : PAt y1 q.xb q.sb q.vr q.sx) (hr : RefAt y1 q.rb q.sr q.V q.cs)
    (hxf : ∀ k, q.po k → B ≤ k ∧ ∀ a, ¬ Own ws vps vh U ps a k) (hrf : ∀ k, q.ro k → B ≤ k ∧ ∀ a, ¬ Own ws vps vh U ps a k) (hxr : ∀ k, q.po k → q.ro k → False)
    (g : Grew 56 1 ((y1.alloc (.cells #[ptrV q.xb, ptrV q.rb] 66)).alloc (.cells #[ptrV q.pb] 56)) y4 vps v' (ps.length + 1) ((ps.map fun p => ptrV p.pb) ++ [ptrV q.pb])) :
    Game B U (y4.setCell ⟨ws, 0, none⟩ v') ws v' hs vh (ps ++ [q]) ∧ Below B y1 (y4.setCell ⟨ws, 0, none⟩ v') := by
  have hB := h.st.sz
  have z2 := alloc_size y1 (.cells #[ptrV q.xb, ptrV q.rb] 66)
  have z3 := alloc_size (y1.alloc (.cells #[ptrV q.xb, ptrV q.rb] 66)) (.cells #[ptrV q.pb] 56)
  rw [z2] at z3
  have z4 := g.grown.size
  rw [z3] at z4
  have z5 : (y4.setCell ⟨ws, 0, none⟩ v').heap.size = y4.heap.size := by simp [World.setCell]
  have a3 : ∀ k, k < y1.heap.size → ((y1.alloc (.cells #[ptrV q.xb, ptrV q.rb] 66)).alloc (.cells #[ptrV q.pb] 56)).heap[k]? = y1.heap[k]? := fun k hk => by
    rw [Below.heap_alloc _ _ k (by rw [z2]; omega), Below.heap_alloc _ _ k hk]
  have k4 : ∀ k, k < y1.heap.size → vps.ownBlock ≠ some k → y4.heap[k]? = y1.heap[k]? := fun k hk hn => (g.grown.block k (by rw [z3]; omega) (fun e => hn e.symm)).trans (a3 k hk)
  have k5 : ∀ k, k < y1.heap.size → vps.ownBlock ≠ some k → k ≠ ws → (y4.setCell ⟨ws, 0, none⟩ v').heap[k]? = y1.heap[k]? := fun k hk hn hw => (Below.heap_setCell y4 ⟨ws, 0, none⟩ v' k hw).trans (k4 k hk hn)
  have hwl : ws < y1.heap.size := heap_lt h.st.world.boxw
  have hvw : vps.ownBlock ≠ some ws := own_type_ne' h.row h.st.world.boxw (by decide)
  have hbw : (y4.setCell ⟨ws, 0, none⟩ v').heap[ws]? = some (.cells #[v', vh] 48) := by
    rw [heap_setCell_eq ((k4 ws hwl hvw).trans h.st.world.boxw)]
    rfl
  have byT : ∀ (k : Nat) (cs : Array Value) (t : TypeId), y1.heap[k]? = some (.cells cs t) → t ≠ 56 → t ≠ 48 → (y4.setCell ⟨ws, 0, none⟩ v').heap[k]? = some (.cells cs t) := fun k cs t hk n1 n2 => (k5 k (heap_lt hk) (own_type_ne' h.row hk (Ne.symm n1)) (type_ne hk h.st.world.boxw n2)).trans hk
  have hst : St B U (y4.setCell ⟨ws, 0, none⟩ v') ws v' hs vh := by
    refine ⟨⟨hbw, own_same h.st.world.row (fun k cs hk => byT k cs _ hk (by decide) (by decide)), h.st.world.rowB, fun x hx => (h.st.world.old x hx).move (fun _ h => h) fun k cs t _ ht hk => ?_⟩, fun k hk => by have := h.st.lt k hk; omega, h.st.lo, by omega⟩
    rcases ht with rfl | rfl | rfl | rfl | rfl <;> exact byT k cs _ hk (by decide) (by decide)
  have nb : (y4.setCell ⟨ws, 0, none⟩ v').heap[q.pb]? = some (.cells #[ptrV q.xb, ptrV q.rb] 66) := by
    rw [hpb, Below.heap_setCell y4 ⟨ws, 0, none⟩ v' _ (show y1.heap.size ≠ ws by omega)]
    have h3 : ((y1.alloc (.cells #[ptrV q.xb, ptrV q.rb] 66)).alloc (.cells #[ptrV q.pb] 56)).heap[y1.heap.size]? = some (.cells #[ptrV q.xb, ptrV q.rb] 66) := heap_old (heap_new y1 _) _
    rw [g.grown.block y1.heap.size (by rw [z3]; omega) (fun e => by have := (h.row.lt _ e.symm).2; omega)]
    exact h3
  have hv' : ∀ k, v'.ownBlock = some k → vps.ownBlock = some k ∨ y1.heap.size ≤ k := fun k hk => by
    rcases g.loc with e | ⟨i, e, hi⟩
    · exact .inl (by rw [← e]; exact hk)
    · rw [hk] at e
      cases e
      rw [z3] at hi
      exact .inr (by omega)
  have hget : ∀ (i : Nat) (p : Pl), (ps ++ [q])[i]? = some p → ps[i]? = some p ∨ (i = ps.length ∧ p = q) := fun i p hi => by
    rcases Nat.lt_or_ge i ps.length with hl | hl
    · rw [List.getElem?_append_left hl] at hi; exact .inl hi
    · rw [List.getElem?_append_right hl] at hi
      have : i - ps.length = 0 := by
        rcases Nat.eq_zero_or_pos (i - ps.length) with e | e
        · exact e
        · rw [List.getElem?_eq_none (by simp; omega)] at hi; cases hi
      rw [this] at hi
      exact .inr ⟨by omega, (Option.some.inj hi).symm⟩
  have hO : ∀ a k, Own ws v' vh U (ps ++ [q]) a k → Own ws vps vh U ps a k ∨ (a = .law ∧ y1.heap.size ≤ k ∧ k < y4.heap.size) ∨ (a = .prog ps.length ∧ q.po k) ∨ (a = .ref ps.length ∧ q.ro k) := by
    intro a k hk
    cases a with
    | law =>
      rcases hk with e | e | e | ⟨p, hp, e⟩ | e
      · exact .inl (.inl e)
      · exact .inl (.inr (.inl e))
      · rcases hv' k e with e1 | e1
        · exact .inl (.inr (.inr (.inl e1)))
        · exact .inr (.inl ⟨rfl, e1, (g.own.lt k e).2⟩)
      · rcases List.mem_append.1 hp with hp | hp
        · exact .inl (.inr (.inr (.inr (.inl ⟨p, hp, e⟩))))
        · simp at hp
          subst hp
          exact .inr (.inl ⟨rfl, by omega, by omega⟩)
      · exact .inl (.inr (.inr (.inr (.inr e))))
    | prog i =>
      obtain ⟨p, hp, hk⟩ := hk
      rcases hget i p hp with e | ⟨e, e'⟩
      · exact .inl ⟨p, e, hk⟩
      · subst e e'
        exact .inr (.inr (.inl ⟨rfl, hk⟩))
    | ref i =>
      obtain ⟨p, hp, hk⟩ := hk
      rcases hget i p hp with e | ⟨e, e'⟩
      · exact .inl ⟨p, e, hk⟩
      · subst e e'
        exact .inr (.inr (.inr ⟨rfl, hk⟩))
  have keepO : ∀ a k, Own ws vps vh U ps a k → a ≠ .law → (y4.setCell ⟨ws, 0, none⟩ v').heap[k]? = y1.heap[k]? := fun a k hk ha => k5 k (h.lt a k hk) (fun e => ha (h.one a .law k hk (.inr (.inr (.inl e))))) (fun e => ha (h.one a .law k hk (.inl e)))
  have keepN : ∀ k, k < y1.heap.size → (∀ a, ¬ Own ws vps vh U ps a k) → (y4.setCell ⟨ws, 0, none⟩ v').heap[k]? = y1.heap[k]? := fun k hk hn => k5 k hk (fun e => hn .law (.inr (.inr (.inl e)))) (fun e => hn .law (.inl e))
  have xl := hx.lt
  have rl := hr.lt
  refine ⟨⟨hst, ?_, ?_, ?_, ?_, ?_, ?_, ?_⟩, ?_⟩
  · have hrow := g.own
    have : (y4.setCell ⟨ws, 0, none⟩ v').ownsRow 0 56 1 v' (ps.length + 1) ((ps.map fun p => ptrV p.pb) ++ [ptrV q.pb]) := own_at hrow (fun k hk => Below.heap_setCell y4 ⟨ws, 0, none⟩ v' k (show k ≠ ws from fun e => by
      rcases hv' k hk with e1 | e1
      · exact hvw (by rw [← e]; exact e1)
      · omega))
    rw [List.length_append, List.map_append]
    exact this
  · intro p hp
    rcases List.mem_append.1 hp with hp | hp
    · exact byT _ _ _ (h.box p hp) (by decide) (by decide)
    · simp at hp
      subst hp
      exact nb
  · intro p hp
    rcases List.mem_append.1 hp with hp | hp
    · obtain ⟨j, hj⟩ := mem_get hp
      exact (h.prog p hp).keep (by omega) (fun k hk => keepO (.prog j) k ⟨p, hj, hk⟩ (by simp))
    · simp at hp
      subst hp
      exact hx.keep (by omega) (fun k hk => keepN k (xl k hk) (hxf k hk).2)
  · intro p hp
    rcases List.mem_append.1 hp with hp | hp
    · obtain ⟨j, hj⟩ := mem_get hp
      exact (h.ref p hp).at (by omega) (fun k hk => keepO (.ref j) k ⟨p, hj, hk⟩ (by simp))
    · simp at hp
      subst hp
      exact hr.at (by omega) (fun k hk => keepN k (rl k hk) (hrf k hk).2)
  · intro a k hk
    rcases hO a k hk with e | e | e | e
    · exact h.lo a k e
    · omega
    · exact (hxf k e.2).1
    · exact (hrf k e.2).1
  · intro a k hk
    rw [z5]
    rcases hO a k hk with e | e | e | e
    · have := h.lt a k e; omega
    · exact e.2.2
    · have := xl k e.2; omega
    · have := rl k e.2; omega
  · intro a b k ha hb
    rcases hO a k ha with e | e | e | e
    · rcases hO b k hb with e' | e' | e' | e'
      · exact h.one a b k e e'
      · have := h.lt a k e; omega
      · exact absurd e ((hxf k e'.2).2 a)
      · exact absurd e ((hrf k e'.2).2 a)
    · rcases hO b k hb with e' | e' | e' | e'
      · have := h.lt b k e'; omega
      · rw [e.1, e'.1]
      · have := xl k e'.2; omega
      · have := rl k e'.2; omega
    · rcases hO b k hb with e' | e' | e' | e'
      · exact absurd e' ((hxf k e.2).2 b)
      · have := xl k e.2; omega
      · rw [e.1, e'.1]
      · exact (hxr k e.2 e'.2).elim
    · rcases hO b k hb with e' | e' | e' | e'
      · exact absurd e' ((hrf k e.2).2 b)
      · have := rl k e.2; omega
      · exact (hxr k e'.2 e.2).elim
      · rw [e.1, e'.1]
  · refine ⟨g.grown.os, g.grown.tape, g.grown.output, by omega, fun k hk => k5 k (by omega) (fun e => by have := h.lo .law k (.inr (.inr (.inl e))); omega) (fun e => by have := h.st.lo; omega)⟩
end
end Go.Proofs.YtpahhgalhhbhjaaGreat
