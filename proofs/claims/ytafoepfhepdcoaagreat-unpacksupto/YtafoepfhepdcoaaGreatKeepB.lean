/- keep: one list more that is its owner's. -/
import Derived.Test.YtafoepfhepdcoaaGreatKeepA
import Derived.Test.YtafoepfhepdcoaaGreatMarks
namespace Go.Proofs.YtafoepfhepdcoaaGreat
open Go.RowKit Go.Trawl

/-- Three of four lists are nil. -/
def One (vb vr vq vc : Value) : Prop :=
  (vr = .slice none 0 0 ∧ vq = .slice none 0 0 ∧ vc = .slice none 0 0) ∨ (vb = .slice none 0 0 ∧ vq = .slice none 0 0 ∧ vc = .slice none 0 0) ∨
  (vb = .slice none 0 0 ∧ vr = .slice none 0 0 ∧ vc = .slice none 0 0) ∨ (vb = .slice none 0 0 ∧ vr = .slice none 0 0 ∧ vq = .slice none 0 0)

/-- A hold, whatever its lists hold. -/
structure HoldP (w : World) (hb : Nat) (vb vr vq vc : Value) (mk : Int) (lb lr lq lc : Nat) : Prop where
  box : w.heap[hb]? = some (.cells #[vb, vr, vq, vc, .int .i64 mk] 121)
  b : ∃ x, w.ownsRow 0 5 1 vb lb x
  r : ∃ x, w.ownsRow 0 54 1 vr lr x
  q : ∃ x, w.ownsRow 0 41 3 vq lq x
  c : ∃ x, w.ownsRow 0 69 5 vc lc x

theorem own_none {w : World} {e : TypeId} {sz n : Nat} {x : List Value} (h : w.ownsRow 0 e sz (.slice none 0 0) n x) : n = 0 := by
  rcases h.2 with ⟨_, h⟩ | ⟨g, cap, cur, h, _⟩
  · exact h
  · cases h
theorem own_nil0 (w : World) (e : TypeId) (sz : Nat) {x : List Value} (h : x = []) : w.ownsRow 0 e sz (.slice none 0 0) 0 x := by
  subst h; exact World.ownsRow_nil _ _ _ _

/-- What marks leaves. -/
structure Marked (w w' : World) (hb : Nat) (vb vr vq vc : Value) (mk : Int) (lb lr lq lc : Nat) : Prop where
  hold : HoldO w' hb vb vr vq vc mk lb lr lq lc
  os : w'.os = w.os
  tape : w'.tape = w.tape
  output : w'.output = w.output
  size : w.heap.size ≤ w'.heap.size
  frame : ∀ k, k < w.heap.size → vb.ownBlock ≠ some k → vr.ownBlock ≠ some k → vq.ownBlock ≠ some k → vc.ownBlock ≠ some k → w'.heap[k]? = w.heap[k]?

theorem marks_any (w : World) (hb : Nat) (vb vr vq vc : Value) (mk : Int) (lb lr lq lc : Nat) (h0 : 1 ≤ mk) (h1 : mk ≤ 100000000) (b1 : lb ≤ 4194304) (b2 : lr ≤ 4194304) (b3 : lq ≤ 4194304) (b4 : lc ≤ 4194304)
    (hone : One vb vr vq vc) (h : HoldP w hb vb vr vq vc mk lb lr lq lc) :
    Calls Tryz.prog 92 #[.pointer (some ⟨hb, 0, none⟩)] w fun e w' => e = .returned (.tuple #[]) ∧ Marked w w' hb vb vr vq vc mk lb lr lq lc := by
  obtain ⟨hbox, ⟨xb, ob⟩, ⟨xr, or⟩, ⟨xq, oq⟩, ⟨xc, oc⟩⟩ := h
  have nilcase : vb = .slice none 0 0 → vr = .slice none 0 0 → vq = .slice none 0 0 → vc = .slice none 0 0 → Calls Tryz.prog 92 #[.pointer (some ⟨hb, 0, none⟩)] w fun e w' => e = .returned (.tuple #[]) ∧ Marked w w' hb vb vr vq vc mk lb lr lq lc := by
    rintro rfl rfl rfl rfl
    have e1 := own_none ob
    have e2 := own_none or
    have e3 := own_none oq
    have e4 := own_none oc
    subst e1 e2 e3 e4
    refine (marks0 w hb mk hbox).mono fun e w' ⟨he, hw⟩ => ⟨he, ?_⟩
    subst hw
    exact ⟨⟨hbox, own_nil0 _ _ _ rfl, own_nil0 _ _ _ rfl, own_nil0 _ _ _ rfl, own_nil0 _ _ _ rfl⟩, rfl, rfl, rfl, Nat.le_refl _, fun _ _ _ _ _ _ => rfl⟩
  rcases hone with ⟨e1, e2, e3⟩ | ⟨e1, e2, e3⟩ | ⟨e1, e2, e3⟩ | ⟨e1, e2, e3⟩
  · rcases ob.2 with ⟨e4, _⟩ | ⟨g, cap, cur, e4, _, hg, _⟩
    · exact nilcase e4 e1 e2 e3
    · clear nilcase
      subst e1 e2 e3 e4
      have e2 := own_none or
      have e3 := own_none oq
      have e4 := own_none oc
      subst e2 e3 e4
      have hne := own_type_ne ob hbox (by decide)
      refine (marksB w hb g cap mk lb xb h0 h1 b1 hbox ob).mono fun e w' ⟨he, ho, hgr⟩ => ⟨he, ?_⟩
      exact ⟨⟨(hgr.block hb (heap_lt hbox) (Ne.symm hne)).trans hbox, ho, own_nil0 _ _ _ rfl, own_nil0 _ _ _ rfl, own_nil0 _ _ _ rfl⟩, hgr.os, hgr.tape, hgr.output, hgr.size, fun k hk n1 _ _ _ => hgr.block k hk (Ne.symm n1)⟩
  · rcases or.2 with ⟨e4, _⟩ | ⟨g, cap, cur, e4, _, hg, _⟩
    · exact nilcase e1 e4 e2 e3
    · clear nilcase
      subst e1 e2 e3 e4
      have e2 := own_none ob
      have e3 := own_none oq
      have e4 := own_none oc
      subst e2 e3 e4
      have hne := own_type_ne or hbox (by decide)
      refine (marksR w hb g cap mk lr xr h0 h1 b2 hbox or).mono fun e w' ⟨he, ho, hgr⟩ => ⟨he, ?_⟩
      exact ⟨⟨(hgr.block hb (heap_lt hbox) (Ne.symm hne)).trans hbox, own_nil0 _ _ _ rfl, ho, own_nil0 _ _ _ rfl, own_nil0 _ _ _ rfl⟩, hgr.os, hgr.tape, hgr.output, hgr.size, fun k hk _ n1 _ _ => hgr.block k hk (Ne.symm n1)⟩
  · rcases oq.2 with ⟨e4, _⟩ | ⟨g, cap, cur, e4, _, hg, _⟩
    · exact nilcase e1 e2 e4 e3
    · clear nilcase
      subst e1 e2 e3 e4
      have e2 := own_none ob
      have e3 := own_none or
      have e4 := own_none oc
      subst e2 e3 e4
      have hne := own_type_ne oq hbox (by decide)
      refine (marksQ w hb g cap mk lq xq h0 h1 b3 hbox oq).mono fun e w' ⟨he, ho, hgr⟩ => ⟨he, ?_⟩
      exact ⟨⟨(hgr.block hb (heap_lt hbox) (Ne.symm hne)).trans hbox, own_nil0 _ _ _ rfl, own_nil0 _ _ _ rfl, ho, own_nil0 _ _ _ rfl⟩, hgr.os, hgr.tape, hgr.output, hgr.size, fun k hk _ _ n1 _ => hgr.block k hk (Ne.symm n1)⟩
  · rcases oc.2 with ⟨e4, _⟩ | ⟨g, cap, cur, e4, _, hg, _⟩
    · exact nilcase e1 e2 e3 e4
    · clear nilcase
      subst e1 e2 e3 e4
      have e2 := own_none ob
      have e3 := own_none or
      have e4 := own_none oq
      subst e2 e3 e4
      have hne := own_type_ne oc hbox (by decide)
      refine (marksC w hb g cap mk lc xc h0 h1 b4 hbox oc).mono fun e w' ⟨he, ho, hgr⟩ => ⟨he, ?_⟩
      exact ⟨⟨(hgr.block hb (heap_lt hbox) (Ne.symm hne)).trans hbox, own_nil0 _ _ _ rfl, own_nil0 _ _ _ rfl, own_nil0 _ _ _ rfl, ho⟩, hgr.os, hgr.tape, hgr.output, hgr.size, fun k hk _ _ _ n1 => hgr.block k hk (Ne.symm n1)⟩
end Go.Proofs.YtafoepfhepdcoaaGreat
