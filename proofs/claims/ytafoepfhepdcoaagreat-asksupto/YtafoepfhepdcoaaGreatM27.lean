import Derived.Test.YtafoepfhepdcoaaGreatM26
/- The reference: its list of chases grows, shrinks, and its last turns. -/
namespace Go.Proofs.YtafoepfhepdcoaaGreat
open Go.RowKit Go.Trawl

def withL (V : RV) (v : Value) : RV := { V with vL := v }
theorem reads_snoc (V : RV) (cs : List ChV) (c : ChV) (v : Value) : v ∈ V.reads (cs ++ [c]) ↔ v ∈ V.reads cs ∨ v = c.vs ∨ v = c.vn := by
  simp only [RV.reads, List.flatMap_append, List.flatMap_cons, List.flatMap_nil, List.mem_cons, List.mem_append, List.append_nil, List.not_mem_nil, or_false]
  constructor
  · rintro (h | h | h | h | h | h | h | h) <;> simp [h]
  · rintro ((h | h | h | h | h | h) | h | h) <;> simp [h]
theorem chcells_len (l : List ChV) : ((l.map ChV.cells).flatten).length = l.length * 6 := by
  induction l with
  | nil => rfl
  | cons c l ih => simp only [List.map_cons, List.flatten_cons, List.length_append, ih, ChV.cells, List.length_cons, List.length_nil]; omega
/-- A chase is laid on top. -/
theorem RefAt.push {w w' : World} {rb : Nat} {st : RSt} {V : RV} {cs : List ChV} (h : RefAt w rb st V cs) {v' : Value} {n : Nat} {xs : List Value} (g : Grew 169 6 w w' V.vL v' n xs) (c : ChV) (hn : n = (cs ++ [c]).length) (hxs : xs = ((cs ++ [c]).map ChV.cells).flatten)
    (hs : Lies w' 1 c.vs (wordsV c.ch.servers)) (hm : Lies w' 1 c.vn (textsV c.ch.names)) (hrd : ∀ k, c.vs.ownBlock = some k ∨ c.vn.ownBlock = some k → ∃ v ∈ V.reads cs, v.ownBlock = some k) (hcap : capOk c.vn) :
    RefAt (w'.setCell ⟨rb, 21, none⟩ v') rb { st with l := st.l ++ [c.ch] } (withL V v') (cs ++ [c]) ∧ Fr w (w'.setCell ⟨rb, 21, none⟩ v') (V.owns cs rb) ((withL V v').owns (cs ++ [c]) rb) := by
  have hlt : ∀ k, c.vs.ownBlock = some k ∨ c.vn.ownBlock = some k → k < w.heap.size ∧ ¬ V.writes rb k := fun k hk => by
    obtain ⟨v, hv, e⟩ := hrd k hk
    exact ⟨h.lt k (.inr ⟨v, hv, e⟩), h.free v hv k e⟩
  have hrb : rb < w.heap.size := heap_lt h.box
  have hg := g.grown
  have n1 : V.vL.ownBlock ≠ some rb := own_type_ne h.row h.box (by decide)
  have hbox := (g.keeps hrb n1).1.trans h.box
  have hw := grownBy_setCell w' rb 21 v'
  have hz : (w'.setCell ⟨rb, 21, none⟩ v').heap.size = w'.heap.size := by simp [World.setCell]
  have hwr : ∀ k, (withL V v').writes rb k → V.writes rb k ∨ w.heap.size ≤ k := by
    rintro k (e | e | e | e)
    · exact .inl (.inl e)
    · exact .inl (.inr (.inl e))
    · exact .inl (.inr (.inr (.inl e)))
    · rcases g.loc with e1 | ⟨j, e1, hj⟩
      · exact .inl (.inr (.inr (.inr (e1 ▸ e))))
      · have e : v'.ownBlock = some k := e
        rw [e1] at e
        have := Option.some.inj e
        exact .inr (by omega)
  have hkeep : ∀ k, k < w.heap.size → ¬ V.writes rb k → (w'.setCell ⟨rb, 21, none⟩ v').heap[k]? = w.heap[k]? := fun k hk hn => by
    rw [hw.block k (Nat.lt_of_lt_of_le hk hg.size) (fun e => hn (.inl (Option.some.inj e)))]
    exact hg.block k hk (fun e => hn (.inr (.inr (.inr e.symm))))
  have hsz : w.heap.size ≤ (w'.setCell ⟨rb, 21, none⟩ v').heap.size := by rw [hz]; exact hg.size
  obtain ⟨h1, h2, h3⟩ := h.reads_keep hsz hkeep
  have hrl : ∀ v ∈ V.reads cs, ∀ k, v.ownBlock = some k → k < w.heap.size := fun v hv k hk => h.lt k (.inr ⟨v, hv, hk⟩)
  have nK := own_type_ne h.kept h.box (by decide : 69 ≠ 163)
  have nS := own_type_ne h.seen h.box (by decide : 9 ≠ 163)
  have neq : ∀ {e : TypeId} {sz : Nat} {v : Value} {m : Nat} {x : List Value}, w.ownsRow 0 e sz v m x → e ≠ 169 → V.vL.ownBlock = none ∨ v.ownBlock ≠ V.vL.ownBlock := by
    intro e sz v m x hv hne
    cases hb : V.vL.ownBlock with
    | none => exact .inl rfl
    | some b =>
      right
      rcases h.row.2 with ⟨e0, _⟩ | ⟨g0, cap, cur, e0, _, hg0, _⟩
      · rw [e0] at hb; cases hb
      · rw [e0] at hb
        have : g0 = b := Option.some.inj hb
        subst this
        exact own_type_ne hv hg0 hne
  have kept' : ∀ {e : TypeId} {sz : Nat} {v : Value} {m : Nat} {x : List Value}, w.ownsRow 0 e sz v m x → e ≠ 169 → v.ownBlock ≠ some rb → (w'.setCell ⟨rb, 21, none⟩ v').ownsRow 0 e sz v m x := by
    intro e sz v m x hv hne hnb
    have : w'.ownsRow 0 e sz v m x := by
      cases hb : V.vL.ownBlock with
      | none => exact hv.kept (row := none) (hb ▸ hg) (by cases v.ownBlock <;> simp)
      | some b =>
        rcases neq hv hne with e0 | e0
        · rw [hb] at e0; cases e0
        · exact hv.kept hg (.inr e0)
    exact this.kept hw (.inr hnb)
  have own' := g.own
  rw [hn, hxs] at own'
  have nv : v'.ownBlock ≠ some rb := (g.keeps hrb n1).2.1
  have hsl : ∀ {v : Value} {es : List (List Value)}, Lies w' 1 v es → (∀ k, v.ownBlock = some k → k < w.heap.size ∧ ¬ V.writes rb k) → Lies (w'.setCell ⟨rb, 21, none⟩ v') 1 v es := fun hl hv => hl.keep hw.size (fun b hb hlt' => hw.block b hlt' (fun e => (hv b hb).2 (.inl (Option.some.inj e))))
  refine ⟨⟨?_, ?_, h1, h2, kept' h.kept (by decide) nK, kept' h.seen (by decide) nS, own'.kept hw (.inr nv), ?_, ?_, ?_, ?_⟩, ⟨?_, ?_, ?_, hsz, ?_, ?_⟩⟩
  · rw [heap_setCell_eq hbox]; rfl
  · simp [h.chs]
  · intro x hx
    rcases List.mem_append.1 hx with hx | hx
    · exact h3 x hx
    · simp only [List.mem_singleton] at hx
      subst hx
      exact ⟨hsl hs (fun k hk => hlt k (.inl hk)), hsl hm (fun k hk => hlt k (.inr hk))⟩
  · intro v hv k hk hwk
    rcases (reads_snoc (withL V v') cs c v).1 hv with hv | rfl | rfl
    · rcases hwr k hwk with h4 | h4
      · exact h.free v hv k hk h4
      · have := hrl v hv k hk; omega
    · rcases hwr k hwk with h4 | h4
      · exact (hlt k (.inl hk)).2 h4
      · have := (hlt k (.inl hk)).1; omega
    · rcases hwr k hwk with h4 | h4
      · exact (hlt k (.inr hk)).2 h4
      · have := (hlt k (.inr hk)).1; omega
  · rintro k (hk | ⟨v, hv, hk⟩)
    · rcases hk with e | e | e | e
      · subst e; exact Nat.lt_of_lt_of_le hrb hsz
      · exact Nat.lt_of_lt_of_le (h.lt k (.inl (.inr (.inl e)))) hsz
      · exact Nat.lt_of_lt_of_le (h.lt k (.inl (.inr (.inr (.inl e))))) hsz
      · rw [hz]
        rcases own'.2 with ⟨e0, _⟩ | ⟨g0, cap, cur, e0, _, hg0, _⟩
        · have e : v'.ownBlock = some k := e
          rw [e0] at e; cases e
        · have e : v'.ownBlock = some k := e
          rw [e0] at e
          have : g0 = k := Option.some.inj e
          subst this
          exact heap_lt hg0
    · rcases (reads_snoc (withL V v') cs c v).1 hv with hv | rfl | rfl
      · exact Nat.lt_of_lt_of_le (hrl v hv k hk) hsz
      · exact Nat.lt_of_lt_of_le (hlt k (.inl hk)).1 hsz
      · exact Nat.lt_of_lt_of_le (hlt k (.inr hk)).1 hsz
  · intro x hx
    rcases List.mem_append.1 hx with hx | hx
    · exact h.caps x hx
    · simp only [List.mem_singleton] at hx
      subst hx
      exact hcap
  · exact hw.os.trans hg.os
  · exact hw.tape.trans hg.tape
  · exact hw.output.trans hg.output
  · exact fun k hk ho => hkeep k hk (fun e => ho (.inl e))
  · rintro k (hk | ⟨v, hv, hk⟩)
    · rcases hwr k hk with h4 | h4
      · exact .inl (.inl h4)
      · exact .inr h4
    · rcases (reads_snoc (withL V v') cs c v).1 hv with hv | rfl | rfl
      · exact .inl (.inr ⟨v, hv, hk⟩)
      · exact .inl (.inr (hrd k (.inl hk)))
      · exact .inl (.inr (hrd k (.inr hk)))
end Go.Proofs.YtafoepfhepdcoaaGreat

/- The reference: the list of chases shrinks, and its last turns. -/
namespace Go.Proofs.YtafoepfhepdcoaaGreat
open Go.RowKit Go.Trawl

theorem Fr.step {w0 w w' : World} {O0 O O' : Nat → Prop} (h : Fr w0 w O0 O) (ho : w'.os = w.os) (ht : w'.tape = w.tape) (hp : w'.output = w.output) (hs : w.heap.size ≤ w'.heap.size) (hb : ∀ k, k < w.heap.size → ¬ O k → w'.heap[k]? = w.heap[k]?) (hO : ∀ k, O' k → O k ∨ w0.heap.size ≤ k) : Fr w0 w' O0 O' := by
  refine ⟨ho.trans h.os, ht.trans h.tape, hp.trans h.output, Nat.le_trans h.size hs, fun k hk hn => ?_, fun k hk => ?_⟩
  · rw [hb k (Nat.lt_of_lt_of_le hk h.size) (fun e => by
      rcases h.new k e with e | e
      · exact hn e
      · omega)]
    exact h.block k hk hn
  · rcases hO k hk with e | e
    · exact h.new k e
    · exact .inr e
theorem row_at {w : World} {rb : Nat} {st : RSt} {V : RV} {cs : List ChV} {c : ChV} (h : RefAt w rb st V (cs ++ [c])) : ∃ g cap cur, V.vL = .slice (some ⟨g, 0, none⟩) (cs.length + 1) cap ∧ w.heap[g]? = some (.cells cur 169) ∧ cs.length + 1 ≤ cap ∧ cap ≤ maxLen ∧ cur.size = cap * 6 ∧ cur.toList.take ((cs.length + 1) * 6) = ((cs ++ [c]).map ChV.cells).flatten := by
  rcases h.row.2 with ⟨_, e⟩ | ⟨g, cap, cur, e, _, hg, h1, h2, h3, h4⟩
  · simp at e
  · simp only [List.length_append, List.length_cons, List.length_nil, Nat.zero_add] at e h1 h4
    exact ⟨g, cap, cur, e, hg, h1, h2, h3, h4⟩
theorem flat_snoc (cs : List ChV) (c : ChV) : ((cs ++ [c]).map ChV.cells).flatten = (cs.map ChV.cells).flatten ++ c.cells := by simp
theorem owns_snoc {V : RV} {cs : List ChV} {c : ChV} {rb k : Nat} (h : V.owns cs rb k) : V.owns (cs ++ [c]) rb k := by
  rcases h with h | ⟨v, hv, hk⟩
  · exact .inl h
  · exact .inr ⟨v, (reads_snoc V cs c v).2 (.inl hv), hk⟩
/-- The last chase is taken off. -/
theorem RefAt.pop {w : World} {rb : Nat} {st : RSt} {V : RV} {cs : List ChV} {c : ChV} (h : RefAt w rb st V (cs ++ [c])) {g cap : Nat} (hv : V.vL = .slice (some ⟨g, 0, none⟩) (cs.length + 1) cap) :
    RefAt (w.setCell ⟨rb, 21, none⟩ (.slice (some ⟨g, 0, none⟩) cs.length cap)) rb { st with l := cs.map ChV.ch } (withL V (.slice (some ⟨g, 0, none⟩) cs.length cap)) cs := by
  have hw := grownBy_setCell w rb 21 (.slice (some ⟨g, 0, none⟩) cs.length cap)
  obtain ⟨g', cap', cur, e, hg, k1, k2, k3, k4⟩ := row_at h
  rw [hv] at e
  cases e
  have hrb := heap_lt h.box
  have hgr : g ≠ rb := fun e => by
    subst e
    rw [h.box] at hg
    cases hg
  have hwr : ∀ k, (withL V (.slice (some ⟨g, 0, none⟩) cs.length cap)).writes rb k → V.writes rb k := by
    rintro k (e | e | e | e)
    · exact .inl e
    · exact .inr (.inl e)
    · exact .inr (.inr (.inl e))
    · exact .inr (.inr (.inr (by rw [hv]; exact e)))
  obtain ⟨h1, h2, h3⟩ := h.reads_keep (w' := w.setCell ⟨rb, 21, none⟩ (.slice (some ⟨g, 0, none⟩) cs.length cap)) hw.size (fun k hk hn => hw.block k hk (fun e => hn (.inl (Option.some.inj e))))
  have n1 : V.vK.ownBlock ≠ some rb := own_type_ne h.kept h.box (by decide)
  have n2 : V.vS.ownBlock ≠ some rb := own_type_ne h.seen h.box (by decide)
  have hz : (w.setCell ⟨rb, 21, none⟩ (.slice (some ⟨g, 0, none⟩) cs.length cap)).heap.size = w.heap.size := by simp [World.setCell]
  refine ⟨?_, rfl, h1, h2, h.kept.kept hw (.inr n1), h.seen.kept hw (.inr n2), ⟨?_, .inr ⟨g, cap, cur, rfl, Nat.zero_le _, (hw.block g (heap_lt hg) (fun e => hgr (Option.some.inj e))).trans hg, by omega, k2, k3, ?_⟩⟩, fun x hx => h3 x (List.mem_append_left _ hx), ?_, ?_, fun x hx => h.caps x (List.mem_append_left _ hx)⟩
  · rw [heap_setCell_eq h.box]
    rfl
  · exact chcells_len cs
  · rw [flat_snoc] at k4
    have := congrArg (List.take (cs.length * 6)) k4
    rw [List.take_take, Nat.min_eq_left (by omega), List.take_left' (chcells_len cs)] at this
    exact this
  · intro v hv' k hk hwk
    exact h.free v ((reads_snoc V cs c v).2 (.inl hv')) k hk (hwr k hwk)
  · rintro k (hk | ⟨v, hv', hk⟩)
    · rw [hz]; exact h.lt k (.inl (hwr k hk))
    · rw [hz]; exact h.lt k (.inr ⟨v, (reads_snoc V cs c v).2 (.inl hv'), hk⟩)
theorem Fr.pop {w0 w : World} {O0 : Nat → Prop} {rb : Nat} {V : RV} {cs : List ChV} {c : ChV} (h : Fr w0 w O0 (V.owns (cs ++ [c]) rb)) {g cap : Nat} (hv : V.vL = .slice (some ⟨g, 0, none⟩) (cs.length + 1) cap) :
    Fr w0 (w.setCell ⟨rb, 21, none⟩ (.slice (some ⟨g, 0, none⟩) cs.length cap)) O0 ((withL V (.slice (some ⟨g, 0, none⟩) cs.length cap)).owns cs rb) := by
  have hw := grownBy_setCell w rb 21 (.slice (some ⟨g, 0, none⟩) cs.length cap)
  refine h.step hw.os hw.tape hw.output hw.size (fun k hk hn => hw.block k hk (fun e => hn (.inl (.inl (Option.some.inj e))))) ?_
  rintro k (hk | ⟨v, hv', hk⟩)
  · refine .inl (.inl ?_)
    rcases hk with e | e | e | e
    · exact .inl e
    · exact .inr (.inl e)
    · exact .inr (.inr (.inl e))
    · exact .inr (.inr (.inr (by rw [hv]; exact e)))
  · exact .inl (.inr ⟨v, (reads_snoc V cs c v).2 (.inl hv'), hk⟩)
/-- A cell of the last chase is written. -/
theorem RefAt.top {w : World} {rb : Nat} {st : RSt} {V : RV} {cs : List ChV} {c c' : ChV} (h : RefAt w rb st V (cs ++ [c])) {g cap : Nat} (hv : V.vL = .slice (some ⟨g, 0, none⟩) (cs.length + 1) cap) (j : Nat) (u : Value) (hj : j < 6) (he : c.cells.set j u = c'.cells)
    (hs : Lies w 1 c'.vs (wordsV c'.ch.servers)) (hm : Lies w 1 c'.vn (textsV c'.ch.names)) (hrd : ∀ k, c'.vs.ownBlock = some k ∨ c'.vn.ownBlock = some k → k < w.heap.size ∧ ¬ V.writes rb k) (hcap : capOk c'.vn) :
    RefAt (w.setCell ⟨g, cs.length * 6 + j, none⟩ u) rb { st with l := cs.map ChV.ch ++ [c'.ch] } V (cs ++ [c']) := by
  have hw := grownBy_setCell w g (cs.length * 6 + j) u
  obtain ⟨g', cap', cur, e, hg, k1, k2, k3, k4⟩ := row_at h
  rw [hv] at e
  cases e
  have hgr : g ≠ rb := fun e => by
    subst e
    rw [h.box] at hg
    cases hg
  have hgw : V.writes rb g := .inr (.inr (.inr (by rw [hv]; rfl)))
  obtain ⟨h1, h2, h3⟩ := h.reads_keep (w' := w.setCell ⟨g, cs.length * 6 + j, none⟩ u) hw.size (fun k hk hn => hw.block k hk (fun e => hn (by have := Option.some.inj e; subst this; exact hgw)))
  have hz : (w.setCell ⟨g, cs.length * 6 + j, none⟩ u).heap.size = w.heap.size := by simp [World.setCell]
  have n1 : V.vK.ownBlock ≠ some g := own_type_ne h.kept hg (by decide)
  have n2 : V.vS.ownBlock ≠ some g := own_type_ne h.seen hg (by decide)
  have hsl : ∀ {v : Value} {es : List (List Value)}, Lies w 1 v es → (∀ k, v.ownBlock = some k → k < w.heap.size ∧ ¬ V.writes rb k) → Lies (w.setCell ⟨g, cs.length * 6 + j, none⟩ u) 1 v es := fun hl hv => hl.keep hw.size (fun b hb hlt' => hw.block b hlt' (fun e => (hv b hb).2 (by have := Option.some.inj e; subst this; exact hgw)))
  refine ⟨?_, by simp, h1, h2, h.kept.kept hw (.inr n1), h.seen.kept hw (.inr n2), ⟨?_, .inr ⟨g, cap, cur.setIfInBounds (cs.length * 6 + j) u, by simpa using hv, Nat.zero_le _, heap_setCell_eq hg u, by simp; omega, k2, by simp [k3], ?_⟩⟩, ?_, ?_, ?_, ?_⟩
  · exact (hw.block rb (heap_lt h.box) (fun e => hgr (Option.some.inj e).symm)).trans h.box
  · exact chcells_len _
  · have : (cs ++ [c']).length * 6 = (cs.length + 1) * 6 := by simp
    rw [this, Array.toList_setIfInBounds, List.take_set, k4, flat_snoc, flat_snoc, List.set_append_right _ _ (by rw [chcells_len]; omega), chcells_len]
    rw [show cs.length * 6 + j - cs.length * 6 = j by omega, he]
  · intro x hx
    rcases List.mem_append.1 hx with hx | hx
    · exact h3 x (List.mem_append_left _ hx)
    · simp only [List.mem_singleton] at hx
      subst hx
      exact ⟨hsl hs (fun k hk => hrd k (.inl hk)), hsl hm (fun k hk => hrd k (.inr hk))⟩
  · intro v hv' k hk hwk
    rcases (reads_snoc V cs c' v).1 hv' with hv' | rfl | rfl
    · exact h.free v ((reads_snoc V cs c v).2 (.inl hv')) k hk hwk
    · exact (hrd k (.inl hk)).2 hwk
    · exact (hrd k (.inr hk)).2 hwk
  · rintro k (hk | ⟨v, hv', hk⟩)
    · rw [hz]; exact h.lt k (.inl hk)
    · rw [hz]
      rcases (reads_snoc V cs c' v).1 hv' with hv' | rfl | rfl
      · exact h.lt k (.inr ⟨v, (reads_snoc V cs c v).2 (.inl hv'), hk⟩)
      · exact (hrd k (.inl hk)).1
      · exact (hrd k (.inr hk)).1
  · intro x hx
    rcases List.mem_append.1 hx with hx | hx
    · exact h.caps x (List.mem_append_left _ hx)
    · simp only [List.mem_singleton] at hx
      subst hx
      exact hcap
theorem Fr.top {w0 w : World} {O0 : Nat → Prop} {rb : Nat} {V : RV} {cs : List ChV} {c c' : ChV} (h : Fr w0 w O0 (V.owns (cs ++ [c]) rb)) {g cap : Nat} (hv : V.vL = .slice (some ⟨g, 0, none⟩) (cs.length + 1) cap) (j : Nat) (u : Value)
    (hO : ∀ k, c'.vs.ownBlock = some k ∨ c'.vn.ownBlock = some k → V.owns (cs ++ [c]) rb k ∨ w0.heap.size ≤ k) : Fr w0 (w.setCell ⟨g, cs.length * 6 + j, none⟩ u) O0 (V.owns (cs ++ [c']) rb) := by
  have hw := grownBy_setCell w g (cs.length * 6 + j) u
  refine h.step hw.os hw.tape hw.output hw.size (fun k hk hn => hw.block k hk (fun e => hn (.inl (.inr (.inr (.inr (by have := Option.some.inj e; subst this; rw [hv]; rfl))))))) ?_
  rintro k (hk | ⟨v, hv', hk⟩)
  · exact .inl (.inl hk)
  · rcases (reads_snoc V cs c' v).1 hv' with hv' | rfl | rfl
    · exact .inl (.inr ⟨v, (reads_snoc V cs c v).2 (.inl hv'), hk⟩)
    · exact hO k (.inl hk)
    · exact hO k (.inr hk)
end Go.Proofs.YtafoepfhepdcoaaGreat
