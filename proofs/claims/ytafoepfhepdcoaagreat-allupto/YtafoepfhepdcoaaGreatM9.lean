import Derived.Test.YtafoepfhepdcoaaGreatM8
set_option maxRecDepth 100000
set_option maxHeartbeats 8000000
namespace Go.Proofs.YtafoepfhepdcoaaGreat
open Go.RowKit Go.Trawl
def One (vb vr vq vc : Value) : Prop :=
 (vr = .slice none 0 0 ∧ vq = .slice none 0 0 ∧ vc = .slice none 0 0) ∨ (vb = .slice none 0 0 ∧ vq = .slice none 0 0 ∧ vc = .slice none 0 0) ∨
 (vb = .slice none 0 0 ∧ vr = .slice none 0 0 ∧ vc = .slice none 0 0) ∨ (vb = .slice none 0 0 ∧ vr = .slice none 0 0 ∧ vq = .slice none 0 0)
structure HoldP (w : World) (hb : Nat) (vb vr vq vc : Value) (mk : Int) (lb lr lq lc : Nat) : Prop where
 box : w.heap[hb]? = some (.cells #[vb, vr, vq, vc, .int .i64 mk] 121)
 b : ∃ x, w.ownsRow 0 5 1 vb lb x
 r : ∃ x, w.ownsRow 0 54 1 vr lr x
 q : ∃ x, w.ownsRow 0 41 3 vq lq x
 c : ∃ x, w.ownsRow 0 69 5 vc lc x
theorem own_none {w : World} {e : TypeId} {sz n : Nat} {x : List Value} (h : w.ownsRow 0 e sz (.slice none 0 0) n x) : n = 0 := by
 rcases h.2 with ⟨_, h⟩ | ⟨g, cap, cur, h, _⟩
 ·exact h
 ·cases h
theorem own_nil0 (w : World) (e : TypeId) (sz : Nat) {x : List Value} (h : x = []) : w.ownsRow 0 e sz (.slice none 0 0) 0 x := by
 subst h; exact World.ownsRow_nil _ _ _ _
structure Marked (w w' : World) (hb : Nat) (vb vr vq vc : Value) (mk : Int) (lb lr lq lc : Nat) : Prop where
 hold : HoldO w' hb vb vr vq vc mk lb lr lq lc
 os : w'.os = w.os
 tape : w'.tape = w.tape
 output : w'.output = w.output
 size : w.heap.size ≤ w'.heap.size
 frame : ∀ k, k < w.heap.size → vb.ownBlock ≠ some k → vr.ownBlock ≠ some k → vq.ownBlock ≠ some k → vc.ownBlock ≠ some k → w'.heap[k]? = w.heap[k]?
theorem marks_any (w : World) (hb : Nat) (vb vr vq vc : Value) (mk : Int) (lb lr lq lc : Nat) (h0 : 1 ≤ mk) (h1 : mk ≤ 100000000) (b1 : lb ≤ 4194304) (b2 : lr ≤ 4194304) (b3 : lq ≤ 4194304) (b4 : lc ≤ 4194304)
  (hone : One vb vr vq vc) (h : HoldP w hb vb vr vq vc mk lb lr lq lc) :
  Calls Tryz.prog 92 #[.pointer (some ⟨hb, 0, none⟩)] w fun e w' => e = .returned (.tuple #[]) ∧ Marked w w' hb vb vr vq vc mk lb lr lq lc := by
 obtain ⟨hbox, ⟨xb, ob⟩, ⟨xr, or⟩, ⟨xq, oq⟩, ⟨xc, oc⟩⟩ := h
 have nilcase : vb = .slice none 0 0 → vr = .slice none 0 0 → vq = .slice none 0 0 → vc = .slice none 0 0 → Calls Tryz.prog 92 #[.pointer (some ⟨hb, 0, none⟩)] w fun e w' => e = .returned (.tuple #[]) ∧ Marked w w' hb vb vr vq vc mk lb lr lq lc := by
  rintro rfl rfl rfl rfl
  have e1 := own_none ob
  have e2 := own_none or
  have e3 := own_none oq
  have e4 := own_none oc
  subst e1 e2 e3 e4
  refine (marks0 w hb mk hbox).mono fun e w' ⟨he, hw⟩ => ⟨he, ?_⟩
  subst hw
  exact ⟨⟨hbox, own_nil0 _ _ _ rfl, own_nil0 _ _ _ rfl, own_nil0 _ _ _ rfl, own_nil0 _ _ _ rfl⟩, rfl, rfl, rfl, Nat.le_refl _, fun _ _ _ _ _ _ => rfl⟩
 rcases hone with ⟨e1, e2, e3⟩ | ⟨e1, e2, e3⟩ | ⟨e1, e2, e3⟩ | ⟨e1, e2, e3⟩
 ·rcases ob.2 with ⟨e4, _⟩ | ⟨g, cap, cur, e4, _, hg, _⟩
  ·exact nilcase e4 e1 e2 e3
  ·clear nilcase
   subst e1 e2 e3 e4
   have e2 := own_none or
   have e3 := own_none oq
   have e4 := own_none oc
   subst e2 e3 e4
   have hne := ot_ ob hbox (by decide)
   refine (marksB w hb g cap mk lb xb h0 h1 b1 hbox ob).mono fun e w' ⟨he, ho, hgr⟩ => ⟨he, ?_⟩
   exact ⟨⟨(hgr.block hb (hl_ hbox) (Ne.symm hne)).trans hbox, ho, own_nil0 _ _ _ rfl, own_nil0 _ _ _ rfl, own_nil0 _ _ _ rfl⟩, hgr.os, hgr.tape, hgr.output, hgr.size, fun k hk n1 _ _ _ => hgr.block k hk (Ne.symm n1)⟩
 ·rcases or.2 with ⟨e4, _⟩ | ⟨g, cap, cur, e4, _, hg, _⟩
  ·exact nilcase e1 e4 e2 e3
  ·clear nilcase
   subst e1 e2 e3 e4
   have e2 := own_none ob
   have e3 := own_none oq
   have e4 := own_none oc
   subst e2 e3 e4
   have hne := ot_ or hbox (by decide)
   refine (marksR w hb g cap mk lr xr h0 h1 b2 hbox or).mono fun e w' ⟨he, ho, hgr⟩ => ⟨he, ?_⟩
   exact ⟨⟨(hgr.block hb (hl_ hbox) (Ne.symm hne)).trans hbox, own_nil0 _ _ _ rfl, ho, own_nil0 _ _ _ rfl, own_nil0 _ _ _ rfl⟩, hgr.os, hgr.tape, hgr.output, hgr.size, fun k hk _ n1 _ _ => hgr.block k hk (Ne.symm n1)⟩
 ·rcases oq.2 with ⟨e4, _⟩ | ⟨g, cap, cur, e4, _, hg, _⟩
  ·exact nilcase e1 e2 e4 e3
  ·clear nilcase
   subst e1 e2 e3 e4
   have e2 := own_none ob
   have e3 := own_none or
   have e4 := own_none oc
   subst e2 e3 e4
   have hne := ot_ oq hbox (by decide)
   refine (marksQ w hb g cap mk lq xq h0 h1 b3 hbox oq).mono fun e w' ⟨he, ho, hgr⟩ => ⟨he, ?_⟩
   exact ⟨⟨(hgr.block hb (hl_ hbox) (Ne.symm hne)).trans hbox, own_nil0 _ _ _ rfl, own_nil0 _ _ _ rfl, ho, own_nil0 _ _ _ rfl⟩, hgr.os, hgr.tape, hgr.output, hgr.size, fun k hk _ _ n1 _ => hgr.block k hk (Ne.symm n1)⟩
 ·rcases oc.2 with ⟨e4, _⟩ | ⟨g, cap, cur, e4, _, hg, _⟩
  ·exact nilcase e1 e2 e3 e4
  ·clear nilcase
   subst e1 e2 e3 e4
   have e2 := own_none ob
   have e3 := own_none or
   have e4 := own_none oq
   subst e2 e3 e4
   have hne := ot_ oc hbox (by decide)
   refine (marksC w hb g cap mk lc xc h0 h1 b4 hbox oc).mono fun e w' ⟨he, ho, hgr⟩ => ⟨he, ?_⟩
   exact ⟨⟨(hgr.block hb (hl_ hbox) (Ne.symm hne)).trans hbox, own_nil0 _ _ _ rfl, own_nil0 _ _ _ rfl, own_nil0 _ _ _ rfl, ho⟩, hgr.os, hgr.tape, hgr.output, hgr.size, fun k hk _ _ _ n1 => hgr.block k hk (Ne.symm n1)⟩
def NewU (w0 : World) (hb : Nat) (vb vr vq vc : Value) (k : Nat) : Prop := k = hb ∨ vb.ownBlock = some k ∨ vr.ownBlock = some k ∨ vq.ownBlock = some k ∨ vc.ownBlock = some k ∨ w0.heap.size ≤ k
structure KS (w0 w : World) (B ws : Nat) (U : Nat → Prop) (vps : Value) (hs : List Nat) (hb : Nat) (vb vr vq vc : Value) (mk : Int) (lb lr lq lc : Nat) (j : Nat) (hsn : List Nat) (G : Nat) (x0 x1 x2 x3 vh : Value) : Prop where
 boxw : w.heap[ws]? = some (.cells #[vps, vh] 84)
 row : w.ownsRow 0 119 1 vh (hs.length + hsn.length) ((hs ++ hsn).map ptrV)
 rowB : ∀ k, vh.ownBlock = some k → B ≤ k
 cur : HoldO w G x0 x1 x2 x3 mk (lb + j) (lr + j) (lq + j) (lc + j)
 g : G = hb ∨ w0.heap.size ≤ G
 l0 : Go.Trawl.Loc w0 vb x0
 l1 : Go.Trawl.Loc w0 vr x1
 l2 : Go.Trawl.Loc w0 vq x2
 l3 : Go.Trawl.Loc w0 vc x3
 old : ∀ h ∈ hs, HoldX U w h
 new : ∀ h ∈ hsn, ∃ yb yr yq yc mb mr mq mc, HoldM (NewU w0 hb vb vr vq vc) w h yb yr yq yc mk mb mr mq mc ∧ mb ≤ lb + j ∧ mr ≤ lr + j ∧ mq ≤ lq + j ∧ mc ≤ lc + j
 below : Below B w0 w
 frame : ∀ (k : Nat) (cs : Array Value) (t : TypeId), w0.heap[k]? = some (.cells cs t) → t ≠ 84 → t ≠ 119 → k ≠ hb → vb.ownBlock ≠ some k → vr.ownBlock ≠ some k → vq.ownBlock ≠ some k → vc.ownBlock ≠ some k → w.heap[k]? = some (.cells cs t)
structure KPre (w0 : World) (B ws : Nat) (U : Nat → Prop) (hb : Nat) (vb vr vq vc : Value) : Prop where
 lo : B ≤ ws
 hlo : B ≤ hb
 bB : ∀ k, vb.ownBlock = some k → B ≤ k ∧ ¬ U k
 rB : ∀ k, vr.ownBlock = some k → B ≤ k ∧ ¬ U k
 qB : ∀ k, vq.ownBlock = some k → B ≤ k ∧ ¬ U k
 cB : ∀ k, vc.ownBlock = some k → B ≤ k ∧ ¬ U k
 uh : ¬ U hb
 lt : ∀ k, U k → k < w0.heap.size
 sz : B ≤ w0.heap.size
theorem loc_ne {w0 : World} {v x : Value} (h : Go.Trawl.Loc w0 v x) {k : Nat} (hk : k < w0.heap.size) (hv : v.ownBlock ≠ some k) : x.ownBlock ≠ some k := by
 rcases h with e | ⟨i, e, hi⟩
 ·rw [e]; exact hv
 ·rw [e]; intro e2; have := Option.some.inj e2; omega
theorem loc_lo {w0 : World} {v x : Value} {B : Nat} (h : Go.Trawl.Loc w0 v x) (hB : B ≤ w0.heap.size) (hv : ∀ k, v.ownBlock = some k → B ≤ k) : ∀ k, x.ownBlock = some k → B ≤ k := by
 intro k hk
 rcases h with e | ⟨i, e, hi⟩
 ·exact hv k (by rw [← e]; exact hk)
 ·rw [e] at hk; have := Option.some.inj hk; omega
theorem loc_new {w0 : World} {v x : Value} (h : Go.Trawl.Loc w0 v x) : ∀ k, x.ownBlock = some k → v.ownBlock = some k ∨ w0.heap.size ≤ k := by
 intro k hk
 rcases h with e | ⟨i, e, hi⟩
 ·exact .inl (by rw [← e]; exact hk)
 ·rw [e] at hk; have := Option.some.inj hk; exact .inr (by omega)
theorem holdT_ne {t : TypeId} (h : holdT t) : 119 ≠ t ∧ t ≠ 84 := by
 rcases h with rfl | rfl | rfl | rfl | rfl <;> decide
theorem loc_of_grew {w0 w w2 : World} {e : TypeId} {sz n' : Nat} {v v' u : Value} {z : List Value} {T : Obj} (g : Grew e sz (w.alloc T) w2 v v' n' z) (hs : w0.heap.size ≤ w.heap.size) (hu : Go.Trawl.Loc w0 u v) : Go.Trawl.Loc w0 u v' := by
 rcases g.loc with e1 | ⟨k, e1, hk⟩
 ·rcases hu with e2 | ⟨i, e2, hi⟩
  ·exact .inl (e1.trans e2)
  ·exact .inr ⟨i, e1.trans e2, hi⟩
 ·rw [as_] at hk; exact .inr ⟨k, e1, by omega⟩
theorem KS.append {w0 w w2 : World} {B ws : Nat} {U : Nat → Prop} {vps : Value} {hs : List Nat} {hb : Nat} {vb vr vq vc : Value} {mk : Int} {lb lr lq lc j : Nat} {hsn : List Nat} {G : Nat} {x0 x1 x2 x3 vh vh' : Value} {T : Obj}
  (h : KS w0 w B ws U vps hs hb vb vr vq vc mk lb lr lq lc j hsn G x0 x1 x2 x3 vh) (hp : KPre w0 B ws U hb vb vr vq vc) (h0 : 1 ≤ mk) (h1 : mk ≤ 100000000) (b1 : lb + j ≤ 4194304) (b2 : lr + j ≤ 4194304) (b3 : lq + j ≤ 4194304) (b4 : lc + j ≤ 4194304)
  (g : Grew 119 1 (w.alloc T) w2 vh vh' (hs.length + hsn.length + 1) ((hs ++ hsn).map ptrV ++ [ptrV G])) :
  KS w0 (w2.setCell ⟨ws, 1, none⟩ vh') B ws U vps hs hb vb vr vq vc mk lb lr lq lc j (hsn ++ [G]) G x0 x1 x2 x3 vh' := by
 have hrow : (w.alloc T).ownsRow 0 119 1 vh (hs.length + hsn.length) ((hs ++ hsn).map ptrV) := h.row.alloc _
 have hbw2 := block_other g hrow (heap_old h.boxw T) (by decide)
 have same : SameT w (w2.setCell ⟨ws, 1, none⟩ vh') := by
  intro k cs t hk ht
  have hn := holdT_ne ht
  have h2 := block_other g hrow (heap_old hk T) hn.1
  have hne : k ≠ ws := by
   intro e; subst e
   have := h.boxw
   rw [hk] at this
   injection this with this
   injection this with _ this
   exact hn.2 this
  rw [Below.heap_setCell _ _ _ _ hne]; exact h2
 have hsz : w0.heap.size ≤ w.heap.size := h.below.size
 refine ⟨?_, ?_, ?_, h.cur.same same, h.g, h.l0, h.l1, h.l2, h.l3, ?_, ?_, ?_, ?_⟩
 ·rw [hs_ hbw2]; rfl
 ·have := own_setCell_ne (j := 1) g.own hbw2 (by decide) vh'
  rw [← List.append_assoc, List.map_append, List.length_append, List.length_singleton, ← Nat.add_assoc]
  exact this
 ·intro k hk
  rcases g.loc with e1 | ⟨i, e1, hi⟩
  ·exact h.rowB k (by rw [← e1]; exact hk)
  ·rw [e1] at hk; have := Option.some.inj hk; rw [as_] at hi; have := hp.sz; omega
 ·intro x hx
  exact (h.old x hx).move (fun _ h => h) fun k cs t _ ht hk => same k cs t hk ht
 ·intro x hx
  rcases List.mem_append.1 hx with hx | hx
  ·obtain ⟨yb, yr, yq, yc, mb, mr, mq, mc, hm, r⟩ := h.new x hx
   exact ⟨yb, yr, yq, yc, mb, mr, mq, mc, hm.move (fun _ h => h) fun k cs t _ ht hk => same k cs t hk ht, r⟩
  ·have : x = G := by simpa using hx
   subst this
   have hc := h.cur.same same
   refine ⟨x0, x1, x2, x3, lb + j, lr + j, lq + j, lc + j, hc.holdM h0 h1 b1 b2 b3 b4 ?_ ?_ ?_ ?_ ?_, Nat.le_refl _, Nat.le_refl _, Nat.le_refl _, Nat.le_refl _⟩
   ·rcases h.g with e | e
    ·exact .inl e
    ·exact .inr (.inr (.inr (.inr (.inr e))))
   ·intro k hk; rcases loc_new h.l0 k hk with e | e
    ·exact .inr (.inl e)
    ·exact .inr (.inr (.inr (.inr (.inr e))))
   ·intro k hk; rcases loc_new h.l1 k hk with e | e
    ·exact .inr (.inr (.inl e))
    ·exact .inr (.inr (.inr (.inr (.inr e))))
   ·intro k hk; rcases loc_new h.l2 k hk with e | e
    ·exact .inr (.inr (.inr (.inl e)))
    ·exact .inr (.inr (.inr (.inr (.inr e))))
   ·intro k hk; rcases loc_new h.l3 k hk with e | e
    ·exact .inr (.inr (.inr (.inr (.inl e))))
    ·exact .inr (.inr (.inr (.inr (.inr e))))
 ·refine (h.below.trans ?_).trans ((Below.refl B w2).setCell (show B ≤ (⟨ws, 1, none⟩ : Addr).block from hp.lo) vh')
  have b0 : Below B w (w.alloc T) := (Below.refl _ _).alloc (by have := hp.sz; omega) _
  exact b0.trans (g.below (B := B) (by rw [as_]; have := hp.sz; omega) h.rowB).1
 ·intro k cs t hk n1 n2 n3 n4 n5 n6 n7
  have h2 := h.frame k cs t hk n1 n2 n3 n4 n5 n6 n7
  have h3 := block_other g hrow (heap_old h2 T) (Ne.symm n2)
  have hne : k ≠ ws := by
   intro e; subst e
   have := h.boxw
   rw [h2] at this
   injection this with this
   injection this with _ this
   exact n1 this
  rw [Below.heap_setCell _ _ _ _ hne]; exact h3
theorem KS.longer {w0 w w' : World} {B ws : Nat} {U : Nat → Prop} {vps : Value} {hs : List Nat} {hb : Nat} {vb vr vq vc : Value} {mk : Int} {lb lr lq lc j : Nat} {hsn : List Nat} {G G' : Nat} {x0 x1 x2 x3 vh y0 y1 y2 y3 : Value}
  (h : KS w0 w B ws U vps hs hb vb vr vq vc mk lb lr lq lc j hsn G x0 x1 x2 x3 vh) (hp : KPre w0 B ws U hb vb vr vq vc)
  (L : Lg w w' G G' x0 x1 x2 x3 mk (lb + j) (lr + j) (lq + j) (lc + j) y0 y1 y2 y3)
  (n0 : NewRow w w' 5 1 x0 y0 (lb + j + 1) (bL mk (lb + j + 1))) (n1 : NewRow w w' 54 1 x1 y1 (lr + j + 1) (List.replicate (lr + j + 1) [rM mk]).flatten)
  (n2 : NewRow w w' 41 3 x2 y2 (lq + j + 1) (List.replicate (lq + j + 1) (qM mk)).flatten) (n3 : NewRow w w' 69 5 x3 y3 (lc + j + 1) (List.replicate (lc + j + 1) (cM mk)).flatten) :
  KS w0 w' B ws U vps hs hb vb vr vq vc mk lb lr lq lc (j + 1) hsn G' y0 y1 y2 y3 vh := by
 have hsz : w0.heap.size ≤ w.heap.size := h.below.size
 have hO := h.cur
 have fr : ∀ (k : Nat) (cs : Array Value) (t : TypeId), w.heap[k]? = some (.cells cs t) → t ≠ 5 → t ≠ 54 → t ≠ 41 → t ≠ 69 → w'.heap[k]? = some (.cells cs t) :=
  fun k cs t hk e1 e2 e3 e4 => (L.frame k (hl_ hk) (own_type_ne' hO.b hk (Ne.symm e1)) (own_type_ne' hO.r hk (Ne.symm e2)) (own_type_ne' hO.q hk (Ne.symm e3)) (own_type_ne' hO.c hk (Ne.symm e4))).trans hk
 have far : ∀ k, k < w0.heap.size → vb.ownBlock ≠ some k → vr.ownBlock ≠ some k → vq.ownBlock ≠ some k → vc.ownBlock ≠ some k → w'.heap[k]? = w.heap[k]? :=
  fun k hk e1 e2 e3 e4 => L.frame k (by omega) (loc_ne h.l0 hk e1) (loc_ne h.l1 hk e2) (loc_ne h.l2 hk e3) (loc_ne h.l3 hk e4)
 have tr : ∀ {v x y : Value}, Go.Trawl.Loc w0 v x → Go.Trawl.Loc w x y → Go.Trawl.Loc w0 v y := by
  intro v x y h1 h2
  rcases h2 with e | ⟨i, e, hi⟩
  ·rcases h1 with e2 | ⟨i, e2, hi⟩
   ·exact .inl (e.trans e2)
   ·exact .inr ⟨i, e.trans e2, hi⟩
  ·exact .inr ⟨i, e, by omega⟩
 refine ⟨fr _ _ _ h.boxw (by decide) (by decide) (by decide) (by decide), own_same h.row fun k cs hk => fr k cs _ hk (by decide) (by decide) (by decide) (by decide), h.rowB, ?_, ?_, tr h.l0 n0.loc, tr h.l1 n1.loc, tr h.l2 n2.loc, tr h.l3 n3.loc, ?_, ?_, ?_, ?_⟩
 ·exact ⟨L.boxg, n0.own, n1.own, n2.own, n3.own⟩
 ·exact .inr (Nat.le_trans hsz L.fresh)
 ·intro x hx
  refine (h.old x hx).move (fun _ h => h) fun k cs t hu _ hk => ?_
  have hlt := hp.lt k hu
  rw [far k hlt (fun e => (hp.bB k e).2 hu) (fun e => (hp.rB k e).2 hu) (fun e => (hp.qB k e).2 hu) (fun e => (hp.cB k e).2 hu)]
  exact hk
 ·intro x hx
  obtain ⟨yb, yr, yq, yc, mb, mr, mq, mc, hm, e1, e2, e3, e4⟩ := h.new x hx
  exact ⟨yb, yr, yq, yc, mb, mr, mq, mc, hm.longer L hO e1 e2 e3 e4, by omega, by omega, by omega, by omega⟩
 ·refine h.below.trans ⟨L.os, L.tape, L.output, L.size, fun k hk => ?_⟩
  have hB := hp.sz
  exact L.frame k (by omega) (fun e => by have := loc_lo h.l0 hB (fun i hi => (hp.bB i hi).1) k e; omega) (fun e => by have := loc_lo h.l1 hB (fun i hi => (hp.rB i hi).1) k e; omega) (fun e => by have := loc_lo h.l2 hB (fun i hi => (hp.qB i hi).1) k e; omega) (fun e => by have := loc_lo h.l3 hB (fun i hi => (hp.cB i hi).1) k e; omega)
 ·intro k cs t hk m1 m2 m3 m4 m5 m6 m7
  rw [far k (hl_ hk) m4 m5 m6 m7]
  exact h.frame k cs t hk m1 m2 m3 m4 m5 m6 m7
structure KF (w0 w : World) (ws hb : Nat) (vh0 vb vr vq vc vh : Value) : Prop where
 loc : Go.Trawl.Loc w0 vh0 vh
 block : ∀ k, k < w0.heap.size → k ≠ ws → k ≠ hb → vh0.ownBlock ≠ some k → vb.ownBlock ≠ some k → vr.ownBlock ≠ some k → vq.ownBlock ≠ some k → vc.ownBlock ≠ some k → w.heap[k]? = w0.heap[k]?
theorem KF.append {w0 w w2 : World} {ws hb : Nat} {vh0 vb vr vq vc vh vh' : Value} {n' : Nat} {z : List Value} {T : Obj} (h : KF w0 w ws hb vh0 vb vr vq vc vh) (hs : w0.heap.size ≤ w.heap.size) (g : Grew 119 1 (w.alloc T) w2 vh vh' n' z) :
  KF w0 (w2.setCell ⟨ws, 1, none⟩ vh') ws hb vh0 vb vr vq vc vh' := by
 refine ⟨loc_of_grew g hs h.loc, fun k hk n1 n2 n3 n4 n5 n6 n7 => ?_⟩
 rw [Below.heap_setCell _ _ _ _ (show k ≠ (⟨ws, 1, none⟩ : Addr).block from n1), g.grown.block k (by rw [as_]; omega) (fun e => loc_ne h.loc hk n3 e.symm), Below.heap_alloc w T k (by omega)]
 exact h.block k hk n1 n2 n3 n4 n5 n6 n7
theorem KF.longer {w0 w w' : World} {B ws : Nat} {U : Nat → Prop} {vps : Value} {hs : List Nat} {hb : Nat} {vb vr vq vc : Value} {mk : Int} {lb lr lq lc j : Nat} {hsn : List Nat} {G G' : Nat} {x0 x1 x2 x3 vh0 vh y0 y1 y2 y3 : Value}
  (h : KF w0 w ws hb vh0 vb vr vq vc vh) (hK : KS w0 w B ws U vps hs hb vb vr vq vc mk lb lr lq lc j hsn G x0 x1 x2 x3 vh)
  (L : Lg w w' G G' x0 x1 x2 x3 mk (lb + j) (lr + j) (lq + j) (lc + j) y0 y1 y2 y3) : KF w0 w' ws hb vh0 vb vr vq vc vh := by
 refine ⟨h.loc, fun k hk n1 n2 n3 n4 n5 n6 n7 => ?_⟩
 have hsz := hK.below.size
 rw [L.frame k (by omega) (loc_ne hK.l0 hk n4) (loc_ne hK.l1 hk n5) (loc_ne hK.l2 hk n6) (loc_ne hK.l3 hk n7)]
 exact h.block k hk n1 n2 n3 n4 n5 n6 n7
theorem pI : (Tryz.prog.info? 119).map (fun i => (i.zero, i.size, i.bytes)) = some (some (.pointer none), 1, 8) := by kernel_rfl
theorem uP : Tryz.prog.underlying 82 = some (.slice 119) := by kernel_rfl
theorem one_p (k : Nat) : ∀ u ∈ [ptrV k], u.oneCell' = true := by
 intro u hu; simp at hu; subst hu; rfl
structure WorldW (B : Nat) (U : Nat → Prop) (w : World) (ws : Nat) (vps : Value) (hs : List Nat) (vh : Value) : Prop where
 boxw : w.heap[ws]? = some (.cells #[vps, vh] 84)
 row : w.ownsRow 0 119 1 vh hs.length (hs.map ptrV)
 rowB : ∀ k, vh.ownBlock = some k → B ≤ k
 old : ∀ h ∈ hs, HoldX U w h
theorem type_ne {w : World} {a b : Nat} {c1 c2 : Array Value} {t1 t2 : TypeId} (h1 : w.heap[a]? = some (.cells c1 t1)) (h2 : w.heap[b]? = some (.cells c2 t2)) (hne : t1 ≠ t2) : a ≠ b := by
 intro e; subst e
 rw [h1] at h2
 injection h2 with h2
 injection h2 with _ h2
 exact hne h2
theorem KS.start {w w2 : World} {B ws : Nat} {U : Nat → Prop} {vps : Value} {hs : List Nat} {hb : Nat} {vb vr vq vc vh : Value} {mk : Int} {lb lr lq lc : Nat} {m0 : Value}
  (hw : WorldW B U w ws vps hs vh) (hp : KPre w B ws U hb vb vr vq vc) (hbox : w.heap[hb]? = some (.cells #[vb, vr, vq, vc, m0] 121))
  (M : Marked (w.setCell ⟨hb, 4, none⟩ (.int .i64 mk)) w2 hb vb vr vq vc mk lb lr lq lc)
  (ob : ∃ x, w.ownsRow 0 5 1 vb lb x) (or : ∃ x, w.ownsRow 0 54 1 vr lr x) (oq : ∃ x, w.ownsRow 0 41 3 vq lq x) (oc : ∃ x, w.ownsRow 0 69 5 vc lc x) :
  KS w w2 B ws U vps hs hb vb vr vq vc mk lb lr lq lc 0 [] hb vb vr vq vc vh := by
 obtain ⟨_, ob⟩ := ob
 obtain ⟨_, or⟩ := or
 obtain ⟨_, oq⟩ := oq
 obtain ⟨_, oc⟩ := oc
 have sz1 : (w.setCell ⟨hb, 4, none⟩ (.int .i64 mk)).heap.size = w.heap.size := by simp [World.setCell]
 have far : ∀ k, k < w.heap.size → k ≠ hb → vb.ownBlock ≠ some k → vr.ownBlock ≠ some k → vq.ownBlock ≠ some k → vc.ownBlock ≠ some k → w2.heap[k]? = w.heap[k]? :=
  fun k hk e0 e1 e2 e3 e4 => (M.frame k (by rw [sz1]; exact hk) e1 e2 e3 e4).trans (Below.heap_setCell w ⟨hb, 4, none⟩ _ k e0)
 have fr : ∀ (k : Nat) (cs : Array Value) (t : TypeId), w.heap[k]? = some (.cells cs t) → t ≠ 121 → t ≠ 5 → t ≠ 54 → t ≠ 41 → t ≠ 69 → w2.heap[k]? = some (.cells cs t) :=
  fun k cs t hk e0 e1 e2 e3 e4 => (far k (hl_ hk) (type_ne hk hbox e0) (own_type_ne' ob hk (Ne.symm e1)) (own_type_ne' or hk (Ne.symm e2)) (own_type_ne' oq hk (Ne.symm e3)) (own_type_ne' oc hk (Ne.symm e4))).trans hk
 refine ⟨fr _ _ _ hw.boxw (by decide) (by decide) (by decide) (by decide) (by decide), ?_, hw.rowB, M.hold, .inl rfl, .inl rfl, .inl rfl, .inl rfl, .inl rfl, ?_, by simp, ?_, ?_⟩
 ·have := own_same hw.row fun k cs hk => fr k cs _ hk (by decide) (by decide) (by decide) (by decide) (by decide)
  simpa using this
 ·intro x hx
  refine (hw.old x hx).move (fun _ h => h) fun k cs t hu _ hk => ?_
  rw [far k (hp.lt k hu) (fun e => hp.uh (by rw [← e]; exact hu)) (fun e => (hp.bB k e).2 hu) (fun e => (hp.rB k e).2 hu) (fun e => (hp.qB k e).2 hu) (fun e => (hp.cB k e).2 hu)]
  exact hk
 ·refine ⟨M.os, M.tape, M.output, by have := M.size; omega, fun k hk => ?_⟩
  have h1 := hp.sz
  have h2 := hp.hlo
  exact far k (by omega) (by omega) (fun e => by have := (hp.bB k e).1; omega) (fun e => by have := (hp.rB k e).1; omega) (fun e => by have := (hp.qB k e).1; omega) (fun e => by have := (hp.cB k e).1; omega)
 ·intro k cs t hk _ _ n3 n4 n5 n6 n7
  rw [far k (hl_ hk) n3 n4 n5 n6 n7]; exact hk
theorem KF.start {w w2 : World} {ws hb : Nat} {vb vr vq vc vh : Value} {mk : Int} {lb lr lq lc : Nat} (M : Marked (w.setCell ⟨hb, 4, none⟩ (.int .i64 mk)) w2 hb vb vr vq vc mk lb lr lq lc) : KF w w2 ws hb vh vb vr vq vc vh := by
 refine ⟨.inl rfl, fun k hk n1 n2 n3 n4 n5 n6 n7 => ?_⟩
 have sz1 : (w.setCell ⟨hb, 4, none⟩ (.int .i64 mk)).heap.size = w.heap.size := by simp [World.setCell]
 exact (M.frame k (by rw [sz1]; exact hk) n4 n5 n6 n7).trans (Below.heap_setCell w ⟨hb, 4, none⟩ _ k n2)
theorem keep_any (w : World) (B ws : Nat) (U : Nat → Prop) (vps : Value) (hs : List Nat) (hb : Nat) (vb vr vq vc vh : Value) (lb lr lq lc : Nat) (hl : hs.length ≤ 99999990) (b1 : lb ≤ 4194300) (b2 : lr ≤ 4194300) (b3 : lq ≤ 4194300) (b4 : lc ≤ 4194300)
  (hw : WorldW B U w ws vps hs vh) (hp : KPre w B ws U hb vb vr vq vc) (hone : One vb vr vq vc) (h : HoldP w hb vb vr vq vc 0 lb lr lq lc) :
  Calls Tryz.prog 58 #[ptrV ws, ptrV hb] w fun e w' => e = .returned (.tuple #[]) ∧ ∃ hsn G x0 x1 x2 x3 vh', hsn.length = 4 ∧ KS w w' B ws U vps hs hb vb vr vq vc (hs.length + 1) lb lr lq lc 3 hsn G x0 x1 x2 x3 vh' ∧ KF w w' ws hb vh vb vr vq vc vh' := by
 obtain ⟨ip, ip0, ip1, ip2, ip3⟩ := info_parts pI
 obtain ⟨ah, ch, rfl⟩ := os_ hw.row
 have hcw := bc_ hw.boxw
 have hch := bc_ h.box
 have hfh := fz_ h.box
 have HW := hide hw
 have HP := hide hp
 have HH := hide h
 have HONE := hide hone
 clear hw hp h hone
 unfold ptrV
 go_enter Tryz.func58, Tryz.ntmps58
 go_wp2_with fail
 have hp1 : HoldP (w.setCell ⟨hb, 4, none⟩ (.int .i64 (hs.length + 1))) hb vb vr vq vc (hs.length + 1) lb lr lq lc := by
  have hh := HH.out
  refine ⟨by rw [hs_ hh.box]; rfl, ?_, ?_, ?_, ?_⟩
  ·obtain ⟨x, hx⟩ := hh.b; exact ⟨x, own_setCell_ne hx hh.box (by decide) _⟩
  ·obtain ⟨x, hx⟩ := hh.r; exact ⟨x, own_setCell_ne hx hh.box (by decide) _⟩
  ·obtain ⟨x, hx⟩ := hh.q; exact ⟨x, own_setCell_ne hx hh.box (by decide) _⟩
  ·obtain ⟨x, hx⟩ := hh.c; exact ⟨x, own_setCell_ne hx hh.box (by decide) _⟩
 refine (marks_any _ hb vb vr vq vc (hs.length + 1) lb lr lq lc (by omega) (by omega) (by omega) (by omega) (by omega) (by omega) HONE.out hp1).mono ?_
 rintro e w2 ⟨rfl, hM⟩
 have K2 := KS.start HW.out HP.out HH.out.box hM HH.out.b HH.out.r HH.out.q HH.out.c
 have KK2 := hide K2
 have KF2 : Hid (KF w w2 ws hb (.slice ah hs.length ch) vb vr vq vc (.slice ah hs.length ch)) := KF.start hM
 clear hp1 hM hch hfh hcw K2
 have hcw := bc_ KK2.out.boxw
 have tok1 : True := trivial
 go_wp2_with (at_builtin; have _t := tok1; refine wpList_append_grew _ rfl _ _ 82 rfl 119 ip (.pointer none) 1 8 uP ip0 ip1 ip2 ip3 rfl (by decide) (.slice ah hs.length ch) _ _ rfl ⟨w2.heap.size, 0, none⟩ 1 1 [ptrV hb] rfl rfl (one_p hb) (KK2.out.row.alloc _) (cells_new w2 #[ptrV hb] _) (by simp; unfold maxLen; omega) (by simp; omega) ?_; intro v3 w3 g3; obtain ⟨a3, c3, rfl⟩ := os_ g3.own; have bw3 := block_other g3 (KK2.out.row.alloc _) (heap_old KK2.out.boxw _) (by decide); clear hcw tok1; have hcw := bc_ bw3; have hfw := fz_ bw3; clear bw3)
 have K3 := KK2.out.append HP.out (by omega) (by omega) (by omega) (by omega) (by omega) (by omega) g3
 have KK3 := hide K3
 have KF3 := hide (KF2.out.append KK2.out.below.size g3)
 clear hcw hfw K3 g3
 go_loopw [4, 5] (fun g n wr => ∃ (j : Nat) (hsn : List Nat) (G : Nat) (x0 x1 x2 x3 vh' : Value), n = .int .i64 j ∧ j ≤ 3 ∧ g = .pointer (some ⟨G, 0, none⟩) ∧ hsn.length = j + 1 ∧ Hid (KS w wr B ws U vps hs hb vb vr vq vc (hs.length + 1) lb lr lq lc j hsn G x0 x1 x2 x3 vh') ∧ Hid (KF w wr ws hb (.slice ah hs.length ch) vb vr vq vc vh')) (fun _ n _ => 3 - (intOf n).toNat)
 case atStart => exact ⟨0, _, _, _, _, _, _, _, rfl, by omega, rfl, rfl, KK3.out, KF3.out⟩
 case round =>
  obtain ⟨j, hsn, G, x0, x1, x2, x3, vh', rfl, hj, rfl, hlen, KJ, KFJ⟩ := hrel
  have hle4 : hsn.length ≤ 4 := by omega
  have HL := hide hlen
  clear hlen
  by_cases hj3 : j < 3
  ·obtain ⟨aj, cj, rfl⟩ := os_ KJ.out.row
   go_wp2_with fail
   refine (longer_any _ G x0 x1 x2 x3 (hs.length + 1) (lb + j) (lr + j) (lq + j) (lc + j) (by omega) (by omega) (by omega) (by omega) (by omega) (by omega) KJ.out.cur).mono ?_
   rintro e w4 ⟨G', y0, y1, y2, y3, rfl, L, n0, n1, n2, n3⟩
   have K4 := hide (KJ.out.longer HP.out L n0 n1 n2 n3)
   have KF4 := hide (KFJ.out.longer KJ.out L)
   clear L n0 n1 n2 n3
   have hcw := bc_ K4.out.boxw
   have tok1 : True := trivial
   go_wp2_with (at_builtin; have _t := tok1; refine wpList_append_grew _ rfl _ _ 82 rfl 119 ip (.pointer none) 1 8 uP ip0 ip1 ip2 ip3 rfl (by decide) (.slice aj (hs.length + hsn.length) cj) _ _ rfl ⟨w4.heap.size, 0, none⟩ 1 1 [ptrV G'] rfl rfl (one_p G') (K4.out.row.alloc _) (cells_new w4 #[ptrV G'] _) (by unfold maxLen; omega) (by omega) ?_; intro v5 w5 g5; obtain ⟨a5, c5, rfl⟩ := os_ g5.own; have bw5 := block_other g5 (K4.out.row.alloc _) (heap_old K4.out.boxw _) (by decide); clear hcw tok1; have hcw := bc_ bw5; have hfw := fz_ bw5; clear bw5)
   have K5 := hide (K4.out.append HP.out (by omega) (by omega) (by omega) (by omega) (by omega) (by omega) g5)
   have KF5 := hide (KF4.out.append K4.out.below.size g5)
   exact ⟨⟨j + 1, hsn ++ [G'], G', y0, y1, y2, y3, _, by go_num, by omega, rfl, by simp [HL.out], K5, KF5⟩, by simp [intOf]; omega⟩
  ·have hj' : j = 3 := by omega
   subst hj'
   go_wp2_with fail
   go_end0
   exact ⟨rfl, hsn, G, x0, x1, x2, x3, vh', HL.out, KJ.out, KFJ.out⟩
theorem HoldM.lt {U : Nat → Prop} {w : World} {hb : Nat} {vb vr vq vc : Value} {mk : Int} {lb lr lq lc : Nat} (h : HoldM U w hb vb vr vq vc mk lb lr lq lc) : HoldM (fun k => U k ∧ k < w.heap.size) w hb vb vr vq vc mk lb lr lq lc := by
 have r : ∀ {e : TypeId} {sz : Nat} {v : Value} {es : List (List Value)}, RowM U w e sz v es → RowM (fun k => U k ∧ k < w.heap.size) w e sz v es := by
  intro e sz v es h
  obtain ⟨a, c, h1, h2, h3⟩ := h
  refine ⟨a, c, h1, h2, ?_⟩
  rcases h3 with h3 | ⟨g, cur, h4, h5, h6, h7⟩
  ·exact .inl h3
  ·exact .inr ⟨g, cur, h4, ⟨h5, hl_ h6⟩, h6, h7⟩
 exact ⟨⟨h.use, hl_ h.box⟩, h.box, h.lo, h.hi, r h.b, r h.r, r h.q, r h.c⟩
def NextU (w0 w : World) (U : Nat → Prop) (hb : Nat) (vb vr vq vc : Value) (k : Nat) : Prop := (U k ∨ NewU w0 hb vb vr vq vc k) ∧ k < w.heap.size
theorem KS.world {w0 w : World} {B ws : Nat} {U : Nat → Prop} {vps : Value} {hs : List Nat} {hb : Nat} {vb vr vq vc : Value} {mk : Int} {lb lr lq lc j : Nat} {hsn : List Nat} {G : Nat} {x0 x1 x2 x3 vh : Value}
  (h : KS w0 w B ws U vps hs hb vb vr vq vc mk lb lr lq lc j hsn G x0 x1 x2 x3 vh) : WorldW B (NextU w0 w U hb vb vr vq vc) w ws vps (hs ++ hsn) vh := by
 refine ⟨h.boxw, by rw [List.length_append]; exact h.row, h.rowB, fun x hx => ?_⟩
 rcases List.mem_append.1 hx with hx | hx
 ·obtain ⟨vb', vr', vq', vc', mk', a, b, c, d, hm⟩ := h.old x hx
  exact ⟨vb', vr', vq', vc', mk', a, b, c, d, hm.lt.move (fun k hk => ⟨.inl hk.1, hk.2⟩) fun _ _ _ _ _ hk => hk⟩
 ·obtain ⟨yb, yr, yq, yc, mb, mr, mq, mc, hm, _⟩ := h.new x hx
  exact ⟨yb, yr, yq, yc, mk, mb, mr, mq, mc, hm.lt.move (fun k hk => ⟨.inr hk.1, hk.2⟩) fun _ _ _ _ _ hk => hk⟩
theorem looks_any (w : World) (B ws : Nat) (U : Nat → Prop) (vps : Value) (hs : List Nat) (vh : Value) (hl : hs.length ≤ 99999999) (hw : WorldW B U w ws vps hs vh) :
  Calls Tryz.prog 29 #[ptrV ws] w fun e w' => e = .returned (.bool true) ∧ ∃ n, w' = w.drewN n := by
 obtain ⟨ah, ch, rfl⟩ := os_ hw.row
 have HW := hide hw
 clear hw
 have hcw := bc_ HW.out.boxw
 unfold ptrV
 go_enter Tryz.func29, Tryz.ntmps29
 go_wp2_with fail
 clear hcw
 go_loopw [3] (fun i wr => ∃ k : Nat, i = .int .i64 k ∧ k ≤ hs.length ∧ Hid (∃ n, wr = w.drewN n)) (fun i _ => hs.length - (intOf i).toNat)
 case atStart => exact ⟨0, rfl, Nat.zero_le _, 0, rfl⟩
 case round =>
  obtain ⟨k, rfl, hk, HN⟩ := hrel
  have hcr : ∀ p, wr.cell? p = w.cell? p := by obtain ⟨n, rfl⟩ := HN.out; intro p; rfl
  have hcw : ∀ o, wr.cell? ⟨ws, o, none⟩ = _ := fun o => (hcr ⟨ws, o, none⟩).trans (bc_ HW.out.boxw o)
  by_cases hlt : k < hs.length
  ·obtain ⟨h, hh⟩ : ∃ h, hs[k]? = some h := ⟨_, List.getElem?_eq_getElem hlt⟩
   obtain ⟨vb, vr, vq, vc, mk, lb, lr, lq, lc, hm⟩ := HW.out.old h (List.mem_of_getElem? hh)
   have hmr : HoldM U wr h vb vr vq vc mk lb lr lq lc := by
    obtain ⟨n, rfl⟩ := HN.out
    exact hm.move (fun _ h => h) fun _ _ _ _ _ hk => hk
   have HM := hide hmr
   have hrow : ∃ g, ah = some ⟨g, 0, none⟩ ∧ wr.cell? ⟨g, k, none⟩ = some (ptrV h) := by
    rcases HW.out.row.2 with ⟨_, h0⟩ | ⟨g, cap, cur, e1, _, hg, _⟩
    ·omega
    ·injection e1 with e2 _ _
     refine ⟨g, e2, ?_⟩
     rw [hcr]
     have hr := HW.out.row
     subst e2
     have h1 := hr.cells (g := g) rfl k (ptrV h) (by simp [hh])
     have e3 : (⟨g, 0, none⟩ : Addr).add k = ⟨g, k, none⟩ := by simp [Addr.add]; omega
     rw [e3] at h1; exact h1
   obtain ⟨g, rfl, hck⟩ := hrow
   unfold ptrV at hck
   clear hm hmr hcr hh
   go_wp2_with fail
   refine (marked_any U _ h vb vr vq vc mk lb lr lq lc HM.out).mono ?_
   rintro e w2 ⟨rfl, n2, rfl⟩
   go_wp2_with fail
   exact ⟨⟨k + 1, by go_num, by omega, by obtain ⟨n, hn⟩ := HN.out; exact ⟨n + n2, by rw [hn, World.drewN_drewN]⟩⟩, by simp [intOf]; omega⟩
  ·clear hcr
   go_wp2_with fail
   go_ret
   exact ⟨rfl, HN.out⟩
end Go.Proofs.YtafoepfhepdcoaaGreat
