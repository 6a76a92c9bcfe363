/- keep, of a hold that was just boxed. -/
import Derived.Test.YthhjfadjkefkfaaLooks
namespace Go.Proofs.Ythhjfadjkefkfaa
open Go.RowKit Go.Trawl

/-- All that the script has made so far. -/
structure St (B : Nat) (U : Nat → Prop) (w : World) (ws : Nat) (vps : Value) (hs : List Nat) (vh : Value) : Prop where
  world : WorldW B U w ws vps hs vh
  lt : ∀ k, U k → k < w.heap.size
  lo : B ≤ ws
  sz : B ≤ w.heap.size

theorem own_below {w w' : World} {e : TypeId} {sz : Nat} {v : Value} {n : Nat} {x : List Value} (h : w.ownsRow 0 e sz v n x) (hb : Below w.heap.size w w') : w'.ownsRow 0 e sz v n x :=
  h.kept (row := none) ⟨hb.os, hb.tape, hb.output, hb.size, fun k hk _ => hb.block k hk⟩ (by cases h1 : v.ownBlock <;> simp)

theorem St.below {B : Nat} {U : Nat → Prop} {w w' : World} {ws : Nat} {vps : Value} {hs : List Nat} {vh : Value} (h : St B U w ws vps hs vh) (hb : Below w.heap.size w w') : St B U w' ws vps hs vh := by
  refine ⟨⟨?_, own_below h.world.row hb, h.world.rowB, fun x hx => ?_⟩, fun k hk => Nat.lt_of_lt_of_le (h.lt k hk) hb.size, h.lo, Nat.le_trans h.sz hb.size⟩
  · rw [hb.block ws (heap_lt h.world.boxw)]; exact h.world.boxw
  · exact (h.world.old x hx).move (fun _ h => h) fun k cs t hu _ hk => by rw [hb.block k (h.lt k hu)]; exact hk

/-- What keep leaves. -/
structure Kept (B : Nat) (U : Nat → Prop) (w w' : World) (ws : Nat) (vps : Value) (hs : List Nat) (vb vr vq vc : Value) (U' : Nat → Prop) (hs' : List Nat) (vh' : Value) : Prop where
  st : St B U' w' ws vps hs' vh'
  len : hs'.length = hs.length + 4
  use : ∀ k, U' k → U k ∨ vb.ownBlock = some k ∨ vr.ownBlock = some k ∨ vq.ownBlock = some k ∨ vc.ownBlock = some k ∨ w.heap.size ≤ k
  below : Below B w w'
  own : ∀ (e : TypeId) (sz : Nat) (v : Value) (n : Nat) (x : List Value), w.ownsRow 0 e sz v n x → e ≠ 48 → e ≠ 79 →
    (∀ k, v.ownBlock = some k → vb.ownBlock ≠ some k ∧ vr.ownBlock ≠ some k ∧ vq.ownBlock ≠ some k ∧ vc.ownBlock ≠ some k) → w'.ownsRow 0 e sz v n x

theorem keepBox (w : World) (B ws : Nat) (U : Nat → Prop) (vps : Value) (hs : List Nat) (vb vr vq vc vh : Value) (lb lr lq lc : Nat) (hl : hs.length ≤ 99999990) (b1 : lb ≤ 4194300) (b2 : lr ≤ 4194300) (b3 : lq ≤ 4194300) (b4 : lc ≤ 4194300)
    (hst : St B U w ws vps hs vh) (hone : One vb vr vq vc)
    (ob : ∃ x, w.ownsRow 0 5 1 vb lb x) (or : ∃ x, w.ownsRow 0 33 1 vr lr x) (oq : ∃ x, w.ownsRow 0 28 3 vq lq x) (oc : ∃ x, w.ownsRow 0 35 5 vc lc x)
    (nb : ∀ k, vb.ownBlock = some k → B ≤ k ∧ ¬ U k) (nr : ∀ k, vr.ownBlock = some k → B ≤ k ∧ ¬ U k) (nq : ∀ k, vq.ownBlock = some k → B ≤ k ∧ ¬ U k) (nc : ∀ k, vc.ownBlock = some k → B ≤ k ∧ ¬ U k) :
    Calls Try.prog 26 #[ptrV ws, ptrV w.heap.size] (w.alloc (.cells #[vb, vr, vq, vc, .int .i64 0] 81)) fun e w' =>
      e = .returned (.tuple #[]) ∧ ∃ U' hs' vh', Kept B U w w' ws vps hs vb vr vq vc U' hs' vh' := by
  have hbl : Below w.heap.size w (w.alloc (.cells #[vb, vr, vq, vc, .int .i64 0] 81)) := (Below.refl _ _).alloc (Nat.le_refl _) _
  have hs1 := hst.below hbl
  have hH : HoldP (w.alloc (.cells #[vb, vr, vq, vc, .int .i64 0] 81)) w.heap.size vb vr vq vc 0 lb lr lq lc := by
    refine ⟨heap_new _ _, ?_, ?_, ?_, ?_⟩
    · obtain ⟨x, hx⟩ := ob; exact ⟨x, hx.alloc _⟩
    · obtain ⟨x, hx⟩ := or; exact ⟨x, hx.alloc _⟩
    · obtain ⟨x, hx⟩ := oq; exact ⟨x, hx.alloc _⟩
    · obtain ⟨x, hx⟩ := oc; exact ⟨x, hx.alloc _⟩
  have hP : KPre (w.alloc (.cells #[vb, vr, vq, vc, .int .i64 0] 81)) B ws U w.heap.size vb vr vq vc :=
    ⟨hst.lo, hst.sz, nb, nr, nq, nc, fun h => Nat.lt_irrefl _ (hst.lt _ h), hs1.lt, hs1.sz⟩
  refine (keep_any _ B ws U vps hs w.heap.size vb vr vq vc vh lb lr lq lc hl b1 b2 b3 b4 hs1.world hP hone hH).mono ?_
  rintro e w' ⟨rfl, hsn, G, x0, x1, x2, x3, vh', hlen, K⟩
  refine ⟨rfl, _, _, _, ⟨K.world, fun k hk => hk.2, hst.lo, Nat.le_trans hs1.sz K.below.size⟩, by simp [hlen], ?_, (hbl.mono hst.sz).trans K.below, ?_⟩
  · rintro k ⟨h | h, _⟩
    · exact .inl h
    · rcases h with h | h | h | h | h | h
      · exact .inr (.inr (.inr (.inr (.inr (by omega)))))
      · exact .inr (.inl h)
      · exact .inr (.inr (.inl h))
      · exact .inr (.inr (.inr (.inl h)))
      · exact .inr (.inr (.inr (.inr (.inl h))))
      · rw [alloc_size] at h; exact .inr (.inr (.inr (.inr (.inr (by omega)))))
  · intro e sz v n x ho n1 n2 hne
    refine ⟨ho.1, ?_⟩
    rcases ho.2 with h2 | ⟨g, cap, cur, h3, h4, h5, r⟩
    · exact .inl h2
    · subst h3
      obtain ⟨m1, m2, m3, m4⟩ := hne g rfl
      have hlt := heap_lt h5
      exact .inr ⟨g, cap, cur, rfl, h4, K.frame g cur e (heap_old h5 _) n1 n2 (by omega) m1 m2 m3 m4, r⟩
end Go.Proofs.Ythhjfadjkefkfaa
