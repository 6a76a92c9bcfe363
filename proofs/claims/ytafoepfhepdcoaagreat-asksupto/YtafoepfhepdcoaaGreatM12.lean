import Derived.Test.YtafoepfhepdcoaaGreatM10
import Derived.Test.YtafoepfhepdcoaaGreatM11
/- keep: one list more that is its owner's. -/
namespace Go.Proofs.YtafoepfhepdcoaaGreat
open Go.RowKit Go.Trawl

/-- Three of four lists are nil. -/
def One (vb vr vq vc : Value) : Prop :=
  (vr = .slice none 0 0 ∧ vq = .slice none 0 0 ∧ vc = .slice none 0 0) ∨ (vb = .slice none 0 0 ∧ vq = .slice none 0 0 ∧ vc = .slice none 0 0) ∨
  (vb = .slice none 0 0 ∧ vr = .slice none 0 0 ∧ vc = .slice none 0 0) ∨ (vb = .slice none 0 0 ∧ vr = .slice none 0 0 ∧ vq = .slice none 0 0)

/-- A hold, whatever its lists hold. -/
structure HoldP (w : World) (hb : Nat) (vb vr vq vc : Value) (mk : Int) (lb lr lq lc : Nat) : Prop where
  box : w.heap[hb]? = some (.cells #[vb, vr, vq, vc, .int .i64 mk] 121)
  b : ∃ x, w.ownsRow 0 5 1 vb lb x
  r : ∃ x, w.ownsRow 0 54 1 vr lr x
  q : ∃ x, w.ownsRow 0 41 3 vq lq x
  c : ∃ x, w.ownsRow 0 69 5 vc lc x

theorem own_none {w : World} {e : TypeId} {sz n : Nat} {x : List Value} (h : w.ownsRow 0 e sz (.slice none 0 0) n x) : n = 0 := by
  rcases h.2 with ⟨_, h⟩ | ⟨g, cap, cur, h, _⟩
  · exact h
  · cases h
theorem own_nil0 (w : World) (e : TypeId) (sz : Nat) {x : List Value} (h : x = []) : w.ownsRow 0 e sz (.slice none 0 0) 0 x := by
  subst h; exact World.ownsRow_nil _ _ _ _

/-- What marks leaves. -/
structure Marked (w w' : World) (hb : Nat) (vb vr vq vc : Value) (mk : Int) (lb lr lq lc : Nat) : Prop where
  hold : HoldO w' hb vb vr vq vc mk lb lr lq lc
  os : w'.os = w.os
  tape : w'.tape = w.tape
  output : w'.output = w.output
  size : w.heap.size ≤ w'.heap.size
  frame : ∀ k, k < w.heap.size → vb.ownBlock ≠ some k → vr.ownBlock ≠ some k → vq.ownBlock ≠ some k → vc.ownBlock ≠ some k → w'.heap[k]? = w.heap[k]?

theorem marks_any (w : World) (hb : Nat) (vb vr vq vc : Value) (mk : Int) (lb lr lq lc : Nat) (h0 : 1 ≤ mk) (h1 : mk ≤ 100000000) (b1 : lb ≤ 4194304) (b2 : lr ≤ 4194304) (b3 : lq ≤ 4194304) (b4 : lc ≤ 4194304)
    (hone : One vb vr vq vc) (h : HoldP w hb vb vr vq vc mk lb lr lq lc) :
    Calls Tryz.prog 92 #[.pointer (some ⟨hb, 0, none⟩)] w fun e w' => e = .returned (.tuple #[]) ∧ Marked w w' hb vb vr vq vc mk lb lr lq lc := by
  obtain ⟨hbox, ⟨xb, ob⟩, ⟨xr, or⟩, ⟨xq, oq⟩, ⟨xc, oc⟩⟩ := h
  have nilcase : vb = .slice none 0 0 → vr = .slice none 0 0 → vq = .slice none 0 0 → vc = .slice none 0 0 → Calls Tryz.prog 92 #[.pointer (some ⟨hb, 0, none⟩)] w fun e w' => e = .returned (.tuple #[]) ∧ Marked w w' hb vb vr vq vc mk lb lr lq lc := by
    rintro rfl rfl rfl rfl
    have e1 := own_none ob
    have e2 := own_none or
    have e3 := own_none oq
    have e4 := own_none oc
    subst e1 e2 e3 e4
    refine (marks0 w hb mk hbox).mono fun e w' ⟨he, hw⟩ => ⟨he, ?_⟩
    subst hw
    exact ⟨⟨hbox, own_nil0 _ _ _ rfl, own_nil0 _ _ _ rfl, own_nil0 _ _ _ rfl, own_nil0 _ _ _ rfl⟩, rfl, rfl, rfl, Nat.le_refl _, fun _ _ _ _ _ _ => rfl⟩
  rcases hone with ⟨e1, e2, e3⟩ | ⟨e1, e2, e3⟩ | ⟨e1, e2, e3⟩ | ⟨e1, e2, e3⟩
  · rcases ob.2 with ⟨e4, _⟩ | ⟨g, cap, cur, e4, _, hg, _⟩
    · exact nilcase e4 e1 e2 e3
    · clear nilcase
      subst e1 e2 e3 e4
      have e2 := own_none or
      have e3 := own_none oq
      have e4 := own_none oc
      subst e2 e3 e4
      have hne := own_type_ne ob hbox (by decide)
      refine (marksB w hb g cap mk lb xb h0 h1 b1 hbox ob).mono fun e w' ⟨he, ho, hgr⟩ => ⟨he, ?_⟩
      exact ⟨⟨(hgr.block hb (heap_lt hbox) (Ne.symm hne)).trans hbox, ho, own_nil0 _ _ _ rfl, own_nil0 _ _ _ rfl, own_nil0 _ _ _ rfl⟩, hgr.os, hgr.tape, hgr.output, hgr.size, fun k hk n1 _ _ _ => hgr.block k hk (Ne.symm n1)⟩
  · rcases or.2 with ⟨e4, _⟩ | ⟨g, cap, cur, e4, _, hg, _⟩
    · exact nilcase e1 e4 e2 e3
    · clear nilcase
      subst e1 e2 e3 e4
      have e2 := own_none ob
      have e3 := own_none oq
      have e4 := own_none oc
      subst e2 e3 e4
      have hne := own_type_ne or hbox (by decide)
      refine (marksR w hb g cap mk lr xr h0 h1 b2 hbox or).mono fun e w' ⟨he, ho, hgr⟩ => ⟨he, ?_⟩
      exact ⟨⟨(hgr.block hb (heap_lt hbox) (Ne.symm hne)).trans hbox, own_nil0 _ _ _ rfl, ho, own_nil0 _ _ _ rfl, own_nil0 _ _ _ rfl⟩, hgr.os, hgr.tape, hgr.output, hgr.size, fun k hk _ n1 _ _ => hgr.block k hk (Ne.symm n1)⟩
  · rcases oq.2 with ⟨e4, _⟩ | ⟨g, cap, cur, e4, _, hg, _⟩
    · exact nilcase e1 e2 e4 e3
    · clear nilcase
      subst e1 e2 e3 e4
      have e2 := own_none ob
      have e3 := own_none or
      have e4 := own_none oc
      subst e2 e3 e4
      have hne := own_type_ne oq hbox (by decide)
      refine (marksQ w hb g cap mk lq xq h0 h1 b3 hbox oq).mono fun e w' ⟨he, ho, hgr⟩ => ⟨he, ?_⟩
      exact ⟨⟨(hgr.block hb (heap_lt hbox) (Ne.symm hne)).trans hbox, own_nil0 _ _ _ rfl, own_nil0 _ _ _ rfl, ho, own_nil0 _ _ _ rfl⟩, hgr.os, hgr.tape, hgr.output, hgr.size, fun k hk _ _ n1 _ => hgr.block k hk (Ne.symm n1)⟩
  · rcases oc.2 with ⟨e4, _⟩ | ⟨g, cap, cur, e4, _, hg, _⟩
    · exact nilcase e1 e2 e3 e4
    · clear nilcase
      subst e1 e2 e3 e4
      have e2 := own_none ob
      have e3 := own_none or
      have e4 := own_none oq
      subst e2 e3 e4
      have hne := own_type_ne oc hbox (by decide)
      refine (marksC w hb g cap mk lc xc h0 h1 b4 hbox oc).mono fun e w' ⟨he, ho, hgr⟩ => ⟨he, ?_⟩
      exact ⟨⟨(hgr.block hb (heap_lt hbox) (Ne.symm hne)).trans hbox, own_nil0 _ _ _ rfl, own_nil0 _ _ _ rfl, own_nil0 _ _ _ rfl, ho⟩, hgr.os, hgr.tape, hgr.output, hgr.size, fun k hk _ _ _ n1 => hgr.block k hk (Ne.symm n1)⟩
end Go.Proofs.YtafoepfhepdcoaaGreat

/- keep: the state of its loop, and its two steps. -/
namespace Go.Proofs.YtafoepfhepdcoaaGreat
open Go.RowKit Go.Trawl

/-- The blocks of the holds that keep makes. -/
def NewU (w0 : World) (hb : Nat) (vb vr vq vc : Value) (k : Nat) : Prop := k = hb ∨ vb.ownBlock = some k ∨ vr.ownBlock = some k ∨ vq.ownBlock = some k ∨ vc.ownBlock = some k ∨ w0.heap.size ≤ k

structure KS (w0 w : World) (B ws : Nat) (U : Nat → Prop) (vps : Value) (hs : List Nat) (hb : Nat) (vb vr vq vc : Value) (mk : Int) (lb lr lq lc : Nat) (j : Nat) (hsn : List Nat) (G : Nat) (x0 x1 x2 x3 vh : Value) : Prop where
  boxw : w.heap[ws]? = some (.cells #[vps, vh] 84)
  row : w.ownsRow 0 119 1 vh (hs.length + hsn.length) ((hs ++ hsn).map ptrV)
  rowB : ∀ k, vh.ownBlock = some k → B ≤ k
  cur : HoldO w G x0 x1 x2 x3 mk (lb + j) (lr + j) (lq + j) (lc + j)
  g : G = hb ∨ w0.heap.size ≤ G
  l0 : Go.Trawl.Loc w0 vb x0
  l1 : Go.Trawl.Loc w0 vr x1
  l2 : Go.Trawl.Loc w0 vq x2
  l3 : Go.Trawl.Loc w0 vc x3
  old : ∀ h ∈ hs, HoldX U w h
  new : ∀ h ∈ hsn, ∃ yb yr yq yc mb mr mq mc, HoldM (NewU w0 hb vb vr vq vc) w h yb yr yq yc mk mb mr mq mc ∧ mb ≤ lb + j ∧ mr ≤ lr + j ∧ mq ≤ lq + j ∧ mc ≤ lc + j
  below : Below B w0 w
  frame : ∀ (k : Nat) (cs : Array Value) (t : TypeId), w0.heap[k]? = some (.cells cs t) → t ≠ 84 → t ≠ 119 → k ≠ hb → vb.ownBlock ≠ some k → vr.ownBlock ≠ some k → vq.ownBlock ≠ some k → vc.ownBlock ≠ some k → w.heap[k]? = some (.cells cs t)

/-- What keep is handed. -/
structure KPre (w0 : World) (B ws : Nat) (U : Nat → Prop) (hb : Nat) (vb vr vq vc : Value) : Prop where
  lo : B ≤ ws
  hlo : B ≤ hb
  bB : ∀ k, vb.ownBlock = some k → B ≤ k ∧ ¬ U k
  rB : ∀ k, vr.ownBlock = some k → B ≤ k ∧ ¬ U k
  qB : ∀ k, vq.ownBlock = some k → B ≤ k ∧ ¬ U k
  cB : ∀ k, vc.ownBlock = some k → B ≤ k ∧ ¬ U k
  uh : ¬ U hb
  lt : ∀ k, U k → k < w0.heap.size
  sz : B ≤ w0.heap.size

theorem loc_ne {w0 : World} {v x : Value} (h : Go.Trawl.Loc w0 v x) {k : Nat} (hk : k < w0.heap.size) (hv : v.ownBlock ≠ some k) : x.ownBlock ≠ some k := by
  rcases h with e | ⟨i, e, hi⟩
  · rw [e]; exact hv
  · rw [e]; intro e2; have := Option.some.inj e2; omega
theorem loc_lo {w0 : World} {v x : Value} {B : Nat} (h : Go.Trawl.Loc w0 v x) (hB : B ≤ w0.heap.size) (hv : ∀ k, v.ownBlock = some k → B ≤ k) : ∀ k, x.ownBlock = some k → B ≤ k := by
  intro k hk
  rcases h with e | ⟨i, e, hi⟩
  · exact hv k (by rw [← e]; exact hk)
  · rw [e] at hk; have := Option.some.inj hk; omega
theorem loc_new {w0 : World} {v x : Value} (h : Go.Trawl.Loc w0 v x) : ∀ k, x.ownBlock = some k → v.ownBlock = some k ∨ w0.heap.size ≤ k := by
  intro k hk
  rcases h with e | ⟨i, e, hi⟩
  · exact .inl (by rw [← e]; exact hk)
  · rw [e] at hk; have := Option.some.inj hk; exact .inr (by omega)

theorem holdT_ne {t : TypeId} (h : holdT t) : 119 ≠ t ∧ t ≠ 84 := by
  rcases h with rfl | rfl | rfl | rfl | rfl <;> decide

theorem loc_of_grew {w0 w w2 : World} {e : TypeId} {sz n' : Nat} {v v' u : Value} {z : List Value} {T : Obj} (g : Grew e sz (w.alloc T) w2 v v' n' z) (hs : w0.heap.size ≤ w.heap.size) (hu : Go.Trawl.Loc w0 u v) : Go.Trawl.Loc w0 u v' := by
  rcases g.loc with e1 | ⟨k, e1, hk⟩
  · rcases hu with e2 | ⟨i, e2, hi⟩
    · exact .inl (e1.trans e2)
    · exact .inr ⟨i, e1.trans e2, hi⟩
  · rw [alloc_size] at hk; exact .inr ⟨k, e1, by omega⟩

/-- The pointer is appended to the list of holds. -/
theorem KS.append {w0 w w2 : World} {B ws : Nat} {U : Nat → Prop} {vps : Value} {hs : List Nat} {hb : Nat} {vb vr vq vc : Value} {mk : Int} {lb lr lq lc j : Nat} {hsn : List Nat} {G : Nat} {x0 x1 x2 x3 vh vh' : Value} {T : Obj}
    (h : KS w0 w B ws U vps hs hb vb vr vq vc mk lb lr lq lc j hsn G x0 x1 x2 x3 vh) (hp : KPre w0 B ws U hb vb vr vq vc) (h0 : 1 ≤ mk) (h1 : mk ≤ 100000000) (b1 : lb + j ≤ 4194304) (b2 : lr + j ≤ 4194304) (b3 : lq + j ≤ 4194304) (b4 : lc + j ≤ 4194304)
    (g : Grew 119 1 (w.alloc T) w2 vh vh' (hs.length + hsn.length + 1) ((hs ++ hsn).map ptrV ++ [ptrV G])) :
    KS w0 (w2.setCell ⟨ws, 1, none⟩ vh') B ws U vps hs hb vb vr vq vc mk lb lr lq lc j (hsn ++ [G]) G x0 x1 x2 x3 vh' := by
  have hrow : (w.alloc T).ownsRow 0 119 1 vh (hs.length + hsn.length) ((hs ++ hsn).map ptrV) := h.row.alloc _
  have hbw2 := block_other g hrow (heap_old h.boxw T) (by decide)
  have same : SameT w (w2.setCell ⟨ws, 1, none⟩ vh') := by
    intro k cs t hk ht
    have hn := holdT_ne ht
    have h2 := block_other g hrow (heap_old hk T) hn.1
    have hne : k ≠ ws := by
      intro e; subst e
      have := h.boxw
      rw [hk] at this
      injection this with this
      injection this with _ this
      exact hn.2 this
    rw [Below.heap_setCell _ _ _ _ hne]; exact h2
  have hsz : w0.heap.size ≤ w.heap.size := h.below.size
  refine ⟨?_, ?_, ?_, h.cur.same same, h.g, h.l0, h.l1, h.l2, h.l3, ?_, ?_, ?_, ?_⟩
  · rw [heap_setCell_eq hbw2]; rfl
  · have := own_setCell_ne (j := 1) g.own hbw2 (by decide) vh'
    rw [← List.append_assoc, List.map_append, List.length_append, List.length_singleton, ← Nat.add_assoc]
    exact this
  · intro k hk
    rcases g.loc with e1 | ⟨i, e1, hi⟩
    · exact h.rowB k (by rw [← e1]; exact hk)
    · rw [e1] at hk; have := Option.some.inj hk; rw [alloc_size] at hi; have := hp.sz; omega
  · intro x hx
    exact (h.old x hx).move (fun _ h => h) fun k cs t _ ht hk => same k cs t hk ht
  · intro x hx
    rcases List.mem_append.1 hx with hx | hx
    · obtain ⟨yb, yr, yq, yc, mb, mr, mq, mc, hm, r⟩ := h.new x hx
      exact ⟨yb, yr, yq, yc, mb, mr, mq, mc, hm.move (fun _ h => h) fun k cs t _ ht hk => same k cs t hk ht, r⟩
    · have : x = G := by simpa using hx
      subst this
      have hc := h.cur.same same
      refine ⟨x0, x1, x2, x3, lb + j, lr + j, lq + j, lc + j, hc.holdM h0 h1 b1 b2 b3 b4 ?_ ?_ ?_ ?_ ?_, Nat.le_refl _, Nat.le_refl _, Nat.le_refl _, Nat.le_refl _⟩
      · rcases h.g with e | e
        · exact .inl e
        · exact .inr (.inr (.inr (.inr (.inr e))))
      · intro k hk; rcases loc_new h.l0 k hk with e | e
        · exact .inr (.inl e)
        · exact .inr (.inr (.inr (.inr (.inr e))))
      · intro k hk; rcases loc_new h.l1 k hk with e | e
        · exact .inr (.inr (.inl e))
        · exact .inr (.inr (.inr (.inr (.inr e))))
      · intro k hk; rcases loc_new h.l2 k hk with e | e
        · exact .inr (.inr (.inr (.inl e)))
        · exact .inr (.inr (.inr (.inr (.inr e))))
      · intro k hk; rcases loc_new h.l3 k hk with e | e
        · exact .inr (.inr (.inr (.inr (.inl e))))
        · exact .inr (.inr (.inr (.inr (.inr e))))
  · refine (h.below.trans ?_).trans ((Below.refl B w2).setCell (show B ≤ (⟨ws, 1, none⟩ : Addr).block from hp.lo) vh')
    have b0 : Below B w (w.alloc T) := (Below.refl _ _).alloc (by have := hp.sz; omega) _
    exact b0.trans (g.below (B := B) (by rw [alloc_size]; have := hp.sz; omega) h.rowB).1
  · intro k cs t hk n1 n2 n3 n4 n5 n6 n7
    have h2 := h.frame k cs t hk n1 n2 n3 n4 n5 n6 n7
    have h3 := block_other g hrow (heap_old h2 T) (Ne.symm n2)
    have hne : k ≠ ws := by
      intro e; subst e
      have := h.boxw
      rw [h2] at this
      injection this with this
      injection this with _ this
      exact n1 this
    rw [Below.heap_setCell _ _ _ _ hne]; exact h3

/-- One hold more is made. -/
theorem KS.longer {w0 w w' : World} {B ws : Nat} {U : Nat → Prop} {vps : Value} {hs : List Nat} {hb : Nat} {vb vr vq vc : Value} {mk : Int} {lb lr lq lc j : Nat} {hsn : List Nat} {G G' : Nat} {x0 x1 x2 x3 vh y0 y1 y2 y3 : Value}
    (h : KS w0 w B ws U vps hs hb vb vr vq vc mk lb lr lq lc j hsn G x0 x1 x2 x3 vh) (hp : KPre w0 B ws U hb vb vr vq vc)
    (L : Lg w w' G G' x0 x1 x2 x3 mk (lb + j) (lr + j) (lq + j) (lc + j) y0 y1 y2 y3)
    (n0 : NewRow w w' 5 1 x0 y0 (lb + j + 1) (bL mk (lb + j + 1))) (n1 : NewRow w w' 54 1 x1 y1 (lr + j + 1) (List.replicate (lr + j + 1) [rM mk]).flatten)
    (n2 : NewRow w w' 41 3 x2 y2 (lq + j + 1) (List.replicate (lq + j + 1) (qM mk)).flatten) (n3 : NewRow w w' 69 5 x3 y3 (lc + j + 1) (List.replicate (lc + j + 1) (cM mk)).flatten) :
    KS w0 w' B ws U vps hs hb vb vr vq vc mk lb lr lq lc (j + 1) hsn G' y0 y1 y2 y3 vh := by
  have hsz : w0.heap.size ≤ w.heap.size := h.below.size
  have hO := h.cur
  have fr : ∀ (k : Nat) (cs : Array Value) (t : TypeId), w.heap[k]? = some (.cells cs t) → t ≠ 5 → t ≠ 54 → t ≠ 41 → t ≠ 69 → w'.heap[k]? = some (.cells cs t) :=
    fun k cs t hk e1 e2 e3 e4 => (L.frame k (heap_lt hk) (own_type_ne' hO.b hk (Ne.symm e1)) (own_type_ne' hO.r hk (Ne.symm e2)) (own_type_ne' hO.q hk (Ne.symm e3)) (own_type_ne' hO.c hk (Ne.symm e4))).trans hk
  have far : ∀ k, k < w0.heap.size → vb.ownBlock ≠ some k → vr.ownBlock ≠ some k → vq.ownBlock ≠ some k → vc.ownBlock ≠ some k → w'.heap[k]? = w.heap[k]? :=
    fun k hk e1 e2 e3 e4 => L.frame k (by omega) (loc_ne h.l0 hk e1) (loc_ne h.l1 hk e2) (loc_ne h.l2 hk e3) (loc_ne h.l3 hk e4)
  have tr : ∀ {v x y : Value}, Go.Trawl.Loc w0 v x → Go.Trawl.Loc w x y → Go.Trawl.Loc w0 v y := by
    intro v x y h1 h2
    rcases h2 with e | ⟨i, e, hi⟩
    · rcases h1 with e2 | ⟨i, e2, hi⟩
      · exact .inl (e.trans e2)
      · exact .inr ⟨i, e.trans e2, hi⟩
    · exact .inr ⟨i, e, by omega⟩
  refine ⟨fr _ _ _ h.boxw (by decide) (by decide) (by decide) (by decide), own_same h.row fun k cs hk => fr k cs _ hk (by decide) (by decide) (by decide) (by decide), h.rowB, ?_, ?_, tr h.l0 n0.loc, tr h.l1 n1.loc, tr h.l2 n2.loc, tr h.l3 n3.loc, ?_, ?_, ?_, ?_⟩
  · exact ⟨L.boxg, n0.own, n1.own, n2.own, n3.own⟩
  · exact .inr (Nat.le_trans hsz L.fresh)
  · intro x hx
    refine (h.old x hx).move (fun _ h => h) fun k cs t hu _ hk => ?_
    have hlt := hp.lt k hu
    rw [far k hlt (fun e => (hp.bB k e).2 hu) (fun e => (hp.rB k e).2 hu) (fun e => (hp.qB k e).2 hu) (fun e => (hp.cB k e).2 hu)]
    exact hk
  · intro x hx
    obtain ⟨yb, yr, yq, yc, mb, mr, mq, mc, hm, e1, e2, e3, e4⟩ := h.new x hx
    exact ⟨yb, yr, yq, yc, mb, mr, mq, mc, hm.longer L hO e1 e2 e3 e4, by omega, by omega, by omega, by omega⟩
  · refine h.below.trans ⟨L.os, L.tape, L.output, L.size, fun k hk => ?_⟩
    have hB := hp.sz
    exact L.frame k (by omega) (fun e => by have := loc_lo h.l0 hB (fun i hi => (hp.bB i hi).1) k e; omega) (fun e => by have := loc_lo h.l1 hB (fun i hi => (hp.rB i hi).1) k e; omega) (fun e => by have := loc_lo h.l2 hB (fun i hi => (hp.qB i hi).1) k e; omega) (fun e => by have := loc_lo h.l3 hB (fun i hi => (hp.cB i hi).1) k e; omega)
  · intro k cs t hk m1 m2 m3 m4 m5 m6 m7
    rw [far k (heap_lt hk) m4 m5 m6 m7]
    exact h.frame k cs t hk m1 m2 m3 m4 m5 m6 m7

/-- What has not turned, place by place. -/
structure KF (w0 w : World) (ws hb : Nat) (vh0 vb vr vq vc vh : Value) : Prop where
  loc : Go.Trawl.Loc w0 vh0 vh
  block : ∀ k, k < w0.heap.size → k ≠ ws → k ≠ hb → vh0.ownBlock ≠ some k → vb.ownBlock ≠ some k → vr.ownBlock ≠ some k → vq.ownBlock ≠ some k → vc.ownBlock ≠ some k → w.heap[k]? = w0.heap[k]?
theorem KF.append {w0 w w2 : World} {ws hb : Nat} {vh0 vb vr vq vc vh vh' : Value} {n' : Nat} {z : List Value} {T : Obj} (h : KF w0 w ws hb vh0 vb vr vq vc vh) (hs : w0.heap.size ≤ w.heap.size) (g : Grew 119 1 (w.alloc T) w2 vh vh' n' z) :
    KF w0 (w2.setCell ⟨ws, 1, none⟩ vh') ws hb vh0 vb vr vq vc vh' := by
  refine ⟨loc_of_grew g hs h.loc, fun k hk n1 n2 n3 n4 n5 n6 n7 => ?_⟩
  rw [Below.heap_setCell _ _ _ _ (show k ≠ (⟨ws, 1, none⟩ : Addr).block from n1), g.grown.block k (by rw [alloc_size]; omega) (fun e => loc_ne h.loc hk n3 e.symm), Below.heap_alloc w T k (by omega)]
  exact h.block k hk n1 n2 n3 n4 n5 n6 n7
theorem KF.longer {w0 w w' : World} {B ws : Nat} {U : Nat → Prop} {vps : Value} {hs : List Nat} {hb : Nat} {vb vr vq vc : Value} {mk : Int} {lb lr lq lc j : Nat} {hsn : List Nat} {G G' : Nat} {x0 x1 x2 x3 vh0 vh y0 y1 y2 y3 : Value}
    (h : KF w0 w ws hb vh0 vb vr vq vc vh) (hK : KS w0 w B ws U vps hs hb vb vr vq vc mk lb lr lq lc j hsn G x0 x1 x2 x3 vh)
    (L : Lg w w' G G' x0 x1 x2 x3 mk (lb + j) (lr + j) (lq + j) (lc + j) y0 y1 y2 y3) : KF w0 w' ws hb vh0 vb vr vq vc vh := by
  refine ⟨h.loc, fun k hk n1 n2 n3 n4 n5 n6 n7 => ?_⟩
  have hsz := hK.below.size
  rw [L.frame k (by omega) (loc_ne hK.l0 hk n4) (loc_ne hK.l1 hk n5) (loc_ne hK.l2 hk n6) (loc_ne hK.l3 hk n7)]
  exact h.block k hk n1 n2 n3 n4 n5 n6 n7
end Go.Proofs.YtafoepfhepdcoaaGreat
