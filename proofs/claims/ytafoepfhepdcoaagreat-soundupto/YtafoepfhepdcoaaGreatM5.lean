import Derived.Test.YtafoepfhepdcoaaGreatM3
import Derived.Test.YtafoepfhepdcoaaGreatM4
import Derived.Test.YtafoepfhepdcoaaGreatM1
import Derived.Lib.QuietBelow
import Derived.Test.YtafoepfhepdcoaaGreatM2
set_option maxRecDepth 100000
set_option maxHeartbeats 8000000
namespace Go.Proofs.YtafoepfhepdcoaaGreat
open Go.RowKit Go.Trawl
attribute [local go_sem] equalQ equalR guardQ guardR buildQ0 buildR0
def zQ : Qn := ⟨⟨#[]⟩, 0, 0⟩
def zR : Rc := ⟨⟨#[]⟩, 0, 0, 0, ⟨#[]⟩⟩
def lentR (L : List Rc) : List Rc := L ++ List.replicate 8 zR
def lentQ (L : List Qn) : List Qn := L ++ List.replicate 8 zQ
def newV (g n : Nat) : Value := .slice (some ⟨g, 0, none⟩) n n
theorem tpack_any (m : Msg) (vq va vu vx : Value) (w : World) (hwf : WfM m) (hat : MsgAt w m vq va vu vx) :
  Calls Tryz.prog 15 #[.agg (msgCells m vq va vu vx)] w fun e w' => Below w.heap.size w w' ∧
   (packOk m = false → e = .returned (.tuple #[.slice none 0 0, .int .i64 1])) ∧
   (packOk m = true → ∃ v, e = .returned (.tuple #[v, .int .i64 0]) ∧ w'.ownsRow w.heap.size 5 1 v (pack m).length (bytesV (pack m))) := by
 have HAT := hide hat
 have HWF := hide hwf
 clear hat hwf
 unfold msgCells
 go_enter Tryz.func15, Tryz.ntmps15
 go_wp2_with fail
 have hb1 : Below w.heap.size w (w.alloc (.cells (msgCells m vq va vu vx) 30)) := (Below.refl _ _).alloc (Nat.le_refl _) _
 refine (wirePack_any m vq va vu vx _ HWF.out (HAT.out.below hb1)).mono ?_
 rintro e w2 ⟨hb2, hno, hyes⟩
 have hb3 : Below w.heap.size w w2 := hb1.trans ⟨hb2.os, hb2.tape, hb2.output, hb2.size, fun k hk => hb2.block k (by rw [alloc_size]; omega)⟩
 have HB3 := hide hb3
 clear hb1 hb2 hb3
 by_cases hp : packOk m = true
 ·obtain ⟨v, rfl, ho⟩ := hyes hp
  have HO := hide ho
  have HP := hide hp
  clear hno hyes ho hp
  go_wp2_with fail
  go_ret2
  refine ⟨HB3.out, fun h => ?_, fun _ => ⟨v, rfl, ?_⟩⟩
  ·rw [HP.out] at h; cases h
  ·exact own_base ⟨HO.out.1, by
    rcases HO.out.2 with h | ⟨g, cap, cur, h1, _, h3⟩
    ·exact .inl h
    ·exact .inr ⟨g, cap, cur, h1, Nat.zero_le _, h3⟩⟩ fun k hk => by
    have := (HO.out.lt k hk).1
    rw [alloc_size] at this; omega
 ·have hp' : packOk m = false := by simpa using hp
  have he := hno hp'
  subst he
  have HP := hide hp'
  clear hno hyes hp hp'
  go_wp2_with fail
  go_ret2
  exact ⟨HB3.out, fun _ => rfl, fun h => by rw [HP.out] at h; cases h⟩
end Go.Proofs.YtafoepfhepdcoaaGreat
namespace Go.Proofs.YtafoepfhepdcoaaGreat
open Go.RowKit Go.Trawl
theorem selfR (s t : ByteArray) (a b c : Int) (W : World) : (Op.equalIn 10000 69 (.agg #[.string s, .int .u16 a, .int .u16 b, .int .u32 c, .string t]) (.agg #[.string s, .int .u16 a, .int .u16 b, .int .u32 c, .string t])).run Tryz.prog W = .ok true W := by
 rw [equalR]; simp
theorem selfQ (s : ByteArray) (a b : Int) (W : World) : (Op.equalIn 10000 41 (.agg #[.string s, .int .u16 a, .int .u16 b]) (.agg #[.string s, .int .u16 a, .int .u16 b])).run Tryz.prog W = .ok true W := by
 rw [equalQ]; simp
attribute [local go_sem] selfQ selfR guardQ guardR buildQ0 buildR0
end Go.Proofs.YtafoepfhepdcoaaGreat
namespace Go.Proofs.YtafoepfhepdcoaaGreat
open Go.RowKit Go.Trawl
def ptrV (k : Nat) : Value := .pointer (some ⟨k, 0, none⟩)
def holdT (t : TypeId) : Prop := t = 121 ∨ t = 5 ∨ t = 54 ∨ t = 41 ∨ t = 69
def SameT (w w' : World) : Prop := ∀ (k : Nat) (cs : Array Value) (t : TypeId), w.heap[k]? = some (.cells cs t) → holdT t → w'.heap[k]? = some (.cells cs t)
theorem RowM.move {U U' : Nat → Prop} {w w' : World} {e : TypeId} {sz : Nat} {v : Value} {es : List (List Value)} (h : RowM U w e sz v es) (hU : ∀ k, U k → U' k) (hk : ∀ (k : Nat) (cur : Array Value), U k → w.heap[k]? = some (.cells cur e) → w'.heap[k]? = some (.cells cur e)) : RowM U' w' e sz v es := by
 obtain ⟨a, c, h1, h2, h3⟩ := h
 refine ⟨a, c, h1, h2, ?_⟩
 rcases h3 with h3 | ⟨g, cur, h4, h5, h6, h7⟩
 ·exact .inl h3
 ·exact .inr ⟨g, cur, h4, hU g h5, hk g cur h5 h6, h7⟩
def HoldX (U : Nat → Prop) (w : World) (hb : Nat) : Prop := ∃ vb vr vq vc mk lb lr lq lc, HoldM U w hb vb vr vq vc mk lb lr lq lc
theorem HoldM.move {U U' : Nat → Prop} {w w' : World} {hb : Nat} {vb vr vq vc : Value} {mk : Int} {lb lr lq lc : Nat} (h : HoldM U w hb vb vr vq vc mk lb lr lq lc) (hU : ∀ k, U k → U' k) (hk : ∀ (k : Nat) (cs : Array Value) (t : TypeId), U k → holdT t → w.heap[k]? = some (.cells cs t) → w'.heap[k]? = some (.cells cs t)) : HoldM U' w' hb vb vr vq vc mk lb lr lq lc :=
 ⟨hU _ h.use, hk _ _ _ h.use (.inl rfl) h.box, h.lo, h.hi, h.b.move hU fun k cur hu => hk k cur _ hu (.inr (.inl rfl)), h.r.move hU fun k cur hu => hk k cur _ hu (.inr (.inr (.inl rfl))),
  h.q.move hU fun k cur hu => hk k cur _ hu (.inr (.inr (.inr (.inl rfl)))), h.c.move hU fun k cur hu => hk k cur _ hu (.inr (.inr (.inr (.inr rfl))))⟩
theorem HoldX.move {U U' : Nat → Prop} {w w' : World} {hb : Nat} (h : HoldX U w hb) (hU : ∀ k, U k → U' k) (hk : ∀ (k : Nat) (cs : Array Value) (t : TypeId), U k → holdT t → w.heap[k]? = some (.cells cs t) → w'.heap[k]? = some (.cells cs t)) : HoldX U' w' hb := by
 obtain ⟨vb, vr, vq, vc, mk, lb, lr, lq, lc, h⟩ := h
 exact ⟨vb, vr, vq, vc, mk, lb, lr, lq, lc, h.move hU hk⟩
theorem own_same {w w' : World} {e : TypeId} {sz : Nat} {v : Value} {n : Nat} {x : List Value} (h : w.ownsRow 0 e sz v n x) (hk : ∀ (k : Nat) (cs : Array Value), w.heap[k]? = some (.cells cs e) → w'.heap[k]? = some (.cells cs e)) : w'.ownsRow 0 e sz v n x := by
 refine ⟨h.1, ?_⟩
 rcases h.2 with h2 | ⟨g, cap, cur, h3, h4, h5, r⟩
 ·exact .inl h2
 ·exact .inr ⟨g, cap, cur, h3, h4, hk g cur h5, r⟩
theorem HoldO.same {w w' : World} {hb : Nat} {vb vr vq vc : Value} {mk : Int} {lb lr lq lc : Nat} (h : HoldO w hb vb vr vq vc mk lb lr lq lc) (hs : SameT w w') : HoldO w' hb vb vr vq vc mk lb lr lq lc :=
 ⟨hs _ _ _ h.box (.inl rfl), own_same h.b fun k cs hk => hs k cs _ hk (.inr (.inl rfl)), own_same h.r fun k cs hk => hs k cs _ hk (.inr (.inr (.inl rfl))),
  own_same h.q fun k cs hk => hs k cs _ hk (.inr (.inr (.inr (.inl rfl)))), own_same h.c fun k cs hk => hs k cs _ hk (.inr (.inr (.inr (.inr rfl))))⟩
theorem bEs_flat (mk : Int) (n : Nat) : (bEs mk n).flatten = bL mk n := by
 unfold bEs bL
 induction List.range n with
 | nil => rfl
 | cons x r ih => simp only [List.map_cons, List.flatten_cons, ih]; rfl
theorem own_rowM {U : Nat → Prop} {w : World} {e : TypeId} {sz : Nat} {v : Value} {n : Nat} {es : List (List Value)} (h : w.ownsRow 0 e sz v n es.flatten) (hlen : ∀ x ∈ es, x.length = sz) (hn : n = es.length) (hl : n ≤ 4194304) (hU : ∀ k, v.ownBlock = some k → U k) : RowM U w e sz v es := by
 rcases h.2 with ⟨rfl, h0⟩ | ⟨g, cap, cur, rfl, _, hg, hnc, hcm, hcs, htake⟩
 ·have : es = [] := List.eq_nil_of_length_eq_zero (by omega)
  subst this
  exact ⟨none, 0, rfl, by simp, .inl rfl⟩
 ·refine ⟨some ⟨g, 0, none⟩, cap, by rw [hn], by omega, .inr ⟨g, cur, rfl, hU g rfl, hg, fun i x hi j u hj => ?_⟩⟩
  have := flat_at es hlen i x j u hi hj
  rw [← htake, List.getElem?_take] at this
  split at this
  ·simpa using this
  ·cases this
theorem bEs_len (mk : Int) (n : Nat) : ∀ x ∈ bEs mk n, x.length = 1 := by
 intro x hx; obtain ⟨j, _, rfl⟩ := List.mem_map.1 hx; rfl
theorem rep_len (f : List Value) (n : Nat) : ∀ x ∈ List.replicate n f, x.length = f.length := by
 intro x hx; rw [List.eq_of_mem_replicate hx]
theorem HoldO.holdM {U : Nat → Prop} {w : World} {hb : Nat} {vb vr vq vc : Value} {mk : Int} {lb lr lq lc : Nat} (h : HoldO w hb vb vr vq vc mk lb lr lq lc) (h0 : 1 ≤ mk) (h1 : mk ≤ 100000000) (b1 : lb ≤ 4194304) (b2 : lr ≤ 4194304) (b3 : lq ≤ 4194304) (b4 : lc ≤ 4194304) (hU : U hb)
  (u1 : ∀ k, vb.ownBlock = some k → U k) (u2 : ∀ k, vr.ownBlock = some k → U k) (u3 : ∀ k, vq.ownBlock = some k → U k) (u4 : ∀ k, vc.ownBlock = some k → U k) : HoldM U w hb vb vr vq vc mk lb lr lq lc := by
 refine ⟨hU, h.box, h0, h1, ?_, ?_, ?_, ?_⟩
 ·have := h.b; rw [← bEs_flat] at this; exact own_rowM this (bEs_len mk lb) (by simp [bEs]) b1 u1
 ·exact own_rowM h.r (rep_len _ _) (by simp) b2 u2
 ·exact own_rowM h.q (rep_len _ _) (by simp) b3 u3
 ·exact own_rowM h.c (rep_len _ _) (by simp) b4 u4
attribute [local go_sem] equalQ equalR guardQ guardR buildQ buildR buildQ0 buildR0 Stg.upon
theorem own_type_ne {w : World} {e t : TypeId} {sz : Nat} {v : Value} {n : Nat} {x : List Value} {b : Nat} {cs : Array Value} (h : w.ownsRow 0 e sz v n x) (hb : w.heap[b]? = some (.cells cs t)) (hne : e ≠ t) : v.ownBlock ≠ some b := by
 rcases h.2 with ⟨rfl, _⟩ | ⟨g, cap, cur, rfl, _, hg, _⟩
 ·simp [Value.ownBlock]
 ·intro e1
  have := Option.some.inj e1
  simp only at this
  subst this
  rw [hb] at hg
  injection hg with h1
  injection h1 with _ h2
  exact hne h2.symm
end Go.Proofs.YtafoepfhepdcoaaGreat
namespace Go.Proofs.YtafoepfhepdcoaaGreat
open Go.RowKit Go.Trawl
structure Marked (w w' : World) (hb : Nat) (vb vr vq vc : Value) (mk : Int) (lb lr lq lc : Nat) : Prop where
 hold : HoldO w' hb vb vr vq vc mk lb lr lq lc
 os : w'.os = w.os
 tape : w'.tape = w.tape
 output : w'.output = w.output
 size : w.heap.size ≤ w'.heap.size
 frame : ∀ k, k < w.heap.size → vb.ownBlock ≠ some k → vr.ownBlock ≠ some k → vq.ownBlock ≠ some k → vc.ownBlock ≠ some k → w'.heap[k]? = w.heap[k]?
def NewU (w0 : World) (hb : Nat) (vb vr vq vc : Value) (k : Nat) : Prop := k = hb ∨ vb.ownBlock = some k ∨ vr.ownBlock = some k ∨ vq.ownBlock = some k ∨ vc.ownBlock = some k ∨ w0.heap.size ≤ k
structure KS (w0 w : World) (B ws : Nat) (U : Nat → Prop) (vps : Value) (hs : List Nat) (hb : Nat) (vb vr vq vc : Value) (mk : Int) (lb lr lq lc : Nat) (j : Nat) (hsn : List Nat) (G : Nat) (x0 x1 x2 x3 vh : Value) : Prop where
 boxw : w.heap[ws]? = some (.cells #[vps, vh] 84)
 row : w.ownsRow 0 119 1 vh (hs.length + hsn.length) ((hs ++ hsn).map ptrV)
 rowB : ∀ k, vh.ownBlock = some k → B ≤ k
 cur : HoldO w G x0 x1 x2 x3 mk (lb + j) (lr + j) (lq + j) (lc + j)
 g : G = hb ∨ w0.heap.size ≤ G
 l0 : Go.Trawl.Loc w0 vb x0
 l1 : Go.Trawl.Loc w0 vr x1
 l2 : Go.Trawl.Loc w0 vq x2
 l3 : Go.Trawl.Loc w0 vc x3
 old : ∀ h ∈ hs, HoldX U w h
 new : ∀ h ∈ hsn, ∃ yb yr yq yc mb mr mq mc, HoldM (NewU w0 hb vb vr vq vc) w h yb yr yq yc mk mb mr mq mc ∧ mb ≤ lb + j ∧ mr ≤ lr + j ∧ mq ≤ lq + j ∧ mc ≤ lc + j
 below : Below B w0 w
 frame : ∀ (k : Nat) (cs : Array Value) (t : TypeId), w0.heap[k]? = some (.cells cs t) → t ≠ 84 → t ≠ 119 → k ≠ hb → vb.ownBlock ≠ some k → vr.ownBlock ≠ some k → vq.ownBlock ≠ some k → vc.ownBlock ≠ some k → w.heap[k]? = some (.cells cs t)
structure KPre (w0 : World) (B ws : Nat) (U : Nat → Prop) (hb : Nat) (vb vr vq vc : Value) : Prop where
 lo : B ≤ ws
 hlo : B ≤ hb
 bB : ∀ k, vb.ownBlock = some k → B ≤ k ∧ ¬ U k
 rB : ∀ k, vr.ownBlock = some k → B ≤ k ∧ ¬ U k
 qB : ∀ k, vq.ownBlock = some k → B ≤ k ∧ ¬ U k
 cB : ∀ k, vc.ownBlock = some k → B ≤ k ∧ ¬ U k
 uh : ¬ U hb
 lt : ∀ k, U k → k < w0.heap.size
 sz : B ≤ w0.heap.size
theorem loc_ne {w0 : World} {v x : Value} (h : Go.Trawl.Loc w0 v x) {k : Nat} (hk : k < w0.heap.size) (hv : v.ownBlock ≠ some k) : x.ownBlock ≠ some k := by
 rcases h with e | ⟨i, e, hi⟩
 ·rw [e]; exact hv
 ·rw [e]; intro e2; have := Option.some.inj e2; omega
theorem loc_new {w0 : World} {v x : Value} (h : Go.Trawl.Loc w0 v x) : ∀ k, x.ownBlock = some k → v.ownBlock = some k ∨ w0.heap.size ≤ k := by
 intro k hk
 rcases h with e | ⟨i, e, hi⟩
 ·exact .inl (by rw [← e]; exact hk)
 ·rw [e] at hk; have := Option.some.inj hk; exact .inr (by omega)
theorem holdT_ne {t : TypeId} (h : holdT t) : 119 ≠ t ∧ t ≠ 84 := by
 rcases h with rfl | rfl | rfl | rfl | rfl <;> decide
theorem loc_of_grew {w0 w w2 : World} {e : TypeId} {sz n' : Nat} {v v' u : Value} {z : List Value} {T : Obj} (g : Grew e sz (w.alloc T) w2 v v' n' z) (hs : w0.heap.size ≤ w.heap.size) (hu : Go.Trawl.Loc w0 u v) : Go.Trawl.Loc w0 u v' := by
 rcases g.loc with e1 | ⟨k, e1, hk⟩
 ·rcases hu with e2 | ⟨i, e2, hi⟩
  ·exact .inl (e1.trans e2)
  ·exact .inr ⟨i, e1.trans e2, hi⟩
 ·rw [alloc_size] at hk; exact .inr ⟨k, e1, by omega⟩
theorem KS.append {w0 w w2 : World} {B ws : Nat} {U : Nat → Prop} {vps : Value} {hs : List Nat} {hb : Nat} {vb vr vq vc : Value} {mk : Int} {lb lr lq lc j : Nat} {hsn : List Nat} {G : Nat} {x0 x1 x2 x3 vh vh' : Value} {T : Obj}
  (h : KS w0 w B ws U vps hs hb vb vr vq vc mk lb lr lq lc j hsn G x0 x1 x2 x3 vh) (hp : KPre w0 B ws U hb vb vr vq vc) (h0 : 1 ≤ mk) (h1 : mk ≤ 100000000) (b1 : lb + j ≤ 4194304) (b2 : lr + j ≤ 4194304) (b3 : lq + j ≤ 4194304) (b4 : lc + j ≤ 4194304)
  (g : Grew 119 1 (w.alloc T) w2 vh vh' (hs.length + hsn.length + 1) ((hs ++ hsn).map ptrV ++ [ptrV G])) :
  KS w0 (w2.setCell ⟨ws, 1, none⟩ vh') B ws U vps hs hb vb vr vq vc mk lb lr lq lc j (hsn ++ [G]) G x0 x1 x2 x3 vh' := by
 have hrow : (w.alloc T).ownsRow 0 119 1 vh (hs.length + hsn.length) ((hs ++ hsn).map ptrV) := h.row.alloc _
 have hbw2 := block_other g hrow (heap_old h.boxw T) (by decide)
 have same : SameT w (w2.setCell ⟨ws, 1, none⟩ vh') := by
  intro k cs t hk ht
  have hn := holdT_ne ht
  have h2 := block_other g hrow (heap_old hk T) hn.1
  have hne : k ≠ ws := by
   intro e; subst e
   have := h.boxw
   rw [hk] at this
   injection this with this
   injection this with _ this
   exact hn.2 this
  rw [Below.heap_setCell _ _ _ _ hne]; exact h2
 have hsz : w0.heap.size ≤ w.heap.size := h.below.size
 refine ⟨?_, ?_, ?_, h.cur.same same, h.g, h.l0, h.l1, h.l2, h.l3, ?_, ?_, ?_, ?_⟩
 ·rw [heap_setCell_eq hbw2]; rfl
 ·have := own_setCell_ne (j := 1) g.own hbw2 (by decide) vh'
  rw [← List.append_assoc, List.map_append, List.length_append, List.length_singleton, ← Nat.add_assoc]
  exact this
 ·intro k hk
  rcases g.loc with e1 | ⟨i, e1, hi⟩
  ·exact h.rowB k (by rw [← e1]; exact hk)
  ·rw [e1] at hk; have := Option.some.inj hk; rw [alloc_size] at hi; have := hp.sz; omega
 ·intro x hx
  exact (h.old x hx).move (fun _ h => h) fun k cs t _ ht hk => same k cs t hk ht
 ·intro x hx
  rcases List.mem_append.1 hx with hx | hx
  ·obtain ⟨yb, yr, yq, yc, mb, mr, mq, mc, hm, r⟩ := h.new x hx
   exact ⟨yb, yr, yq, yc, mb, mr, mq, mc, hm.move (fun _ h => h) fun k cs t _ ht hk => same k cs t hk ht, r⟩
  ·have : x = G := by simpa using hx
   subst this
   have hc := h.cur.same same
   refine ⟨x0, x1, x2, x3, lb + j, lr + j, lq + j, lc + j, hc.holdM h0 h1 b1 b2 b3 b4 ?_ ?_ ?_ ?_ ?_, Nat.le_refl _, Nat.le_refl _, Nat.le_refl _, Nat.le_refl _⟩
   ·rcases h.g with e | e
    ·exact .inl e
    ·exact .inr (.inr (.inr (.inr (.inr e))))
   ·intro k hk; rcases loc_new h.l0 k hk with e | e
    ·exact .inr (.inl e)
    ·exact .inr (.inr (.inr (.inr (.inr e))))
   ·intro k hk; rcases loc_new h.l1 k hk with e | e
    ·exact .inr (.inr (.inl e))
    ·exact .inr (.inr (.inr (.inr (.inr e))))
   ·intro k hk; rcases loc_new h.l2 k hk with e | e
    ·exact .inr (.inr (.inr (.inl e)))
    ·exact .inr (.inr (.inr (.inr (.inr e))))
   ·intro k hk; rcases loc_new h.l3 k hk with e | e
    ·exact .inr (.inr (.inr (.inr (.inl e))))
    ·exact .inr (.inr (.inr (.inr (.inr e))))
 ·refine (h.below.trans ?_).trans ((Below.refl B w2).setCell (show B ≤ (⟨ws, 1, none⟩ : Addr).block from hp.lo) vh')
  have b0 : Below B w (w.alloc T) := (Below.refl _ _).alloc (by have := hp.sz; omega) _
  exact b0.trans (g.below (B := B) (by rw [alloc_size]; have := hp.sz; omega) h.rowB).1
 ·intro k cs t hk n1 n2 n3 n4 n5 n6 n7
  have h2 := h.frame k cs t hk n1 n2 n3 n4 n5 n6 n7
  have h3 := block_other g hrow (heap_old h2 T) (Ne.symm n2)
  have hne : k ≠ ws := by
   intro e; subst e
   have := h.boxw
   rw [h2] at this
   injection this with this
   injection this with _ this
   exact n1 this
  rw [Below.heap_setCell _ _ _ _ hne]; exact h3
structure KF (w0 w : World) (ws hb : Nat) (vh0 vb vr vq vc vh : Value) : Prop where
 loc : Go.Trawl.Loc w0 vh0 vh
 block : ∀ k, k < w0.heap.size → k ≠ ws → k ≠ hb → vh0.ownBlock ≠ some k → vb.ownBlock ≠ some k → vr.ownBlock ≠ some k → vq.ownBlock ≠ some k → vc.ownBlock ≠ some k → w.heap[k]? = w0.heap[k]?
theorem KF.append {w0 w w2 : World} {ws hb : Nat} {vh0 vb vr vq vc vh vh' : Value} {n' : Nat} {z : List Value} {T : Obj} (h : KF w0 w ws hb vh0 vb vr vq vc vh) (hs : w0.heap.size ≤ w.heap.size) (g : Grew 119 1 (w.alloc T) w2 vh vh' n' z) :
  KF w0 (w2.setCell ⟨ws, 1, none⟩ vh') ws hb vh0 vb vr vq vc vh' := by
 refine ⟨loc_of_grew g hs h.loc, fun k hk n1 n2 n3 n4 n5 n6 n7 => ?_⟩
 rw [Below.heap_setCell _ _ _ _ (show k ≠ (⟨ws, 1, none⟩ : Addr).block from n1), g.grown.block k (by rw [alloc_size]; omega) (fun e => loc_ne h.loc hk n3 e.symm), Below.heap_alloc w T k (by omega)]
 exact h.block k hk n1 n2 n3 n4 n5 n6 n7
structure WorldW (B : Nat) (U : Nat → Prop) (w : World) (ws : Nat) (vps : Value) (hs : List Nat) (vh : Value) : Prop where
 boxw : w.heap[ws]? = some (.cells #[vps, vh] 84)
 row : w.ownsRow 0 119 1 vh hs.length (hs.map ptrV)
 rowB : ∀ k, vh.ownBlock = some k → B ≤ k
 old : ∀ h ∈ hs, HoldX U w h
theorem type_ne {w : World} {a b : Nat} {c1 c2 : Array Value} {t1 t2 : TypeId} (h1 : w.heap[a]? = some (.cells c1 t1)) (h2 : w.heap[b]? = some (.cells c2 t2)) (hne : t1 ≠ t2) : a ≠ b := by
 intro e; subst e
 rw [h1] at h2
 injection h2 with h2
 injection h2 with _ h2
 exact hne h2
theorem KS.start {w w2 : World} {B ws : Nat} {U : Nat → Prop} {vps : Value} {hs : List Nat} {hb : Nat} {vb vr vq vc vh : Value} {mk : Int} {lb lr lq lc : Nat} {m0 : Value}
  (hw : WorldW B U w ws vps hs vh) (hp : KPre w B ws U hb vb vr vq vc) (hbox : w.heap[hb]? = some (.cells #[vb, vr, vq, vc, m0] 121))
  (M : Marked (w.setCell ⟨hb, 4, none⟩ (.int .i64 mk)) w2 hb vb vr vq vc mk lb lr lq lc)
  (ob : ∃ x, w.ownsRow 0 5 1 vb lb x) (or : ∃ x, w.ownsRow 0 54 1 vr lr x) (oq : ∃ x, w.ownsRow 0 41 3 vq lq x) (oc : ∃ x, w.ownsRow 0 69 5 vc lc x) :
  KS w w2 B ws U vps hs hb vb vr vq vc mk lb lr lq lc 0 [] hb vb vr vq vc vh := by
 obtain ⟨_, ob⟩ := ob
 obtain ⟨_, or⟩ := or
 obtain ⟨_, oq⟩ := oq
 obtain ⟨_, oc⟩ := oc
 have sz1 : (w.setCell ⟨hb, 4, none⟩ (.int .i64 mk)).heap.size = w.heap.size := by simp [World.setCell]
 have far : ∀ k, k < w.heap.size → k ≠ hb → vb.ownBlock ≠ some k → vr.ownBlock ≠ some k → vq.ownBlock ≠ some k → vc.ownBlock ≠ some k → w2.heap[k]? = w.heap[k]? :=
  fun k hk e0 e1 e2 e3 e4 => (M.frame k (by rw [sz1]; exact hk) e1 e2 e3 e4).trans (Below.heap_setCell w ⟨hb, 4, none⟩ _ k e0)
 have fr : ∀ (k : Nat) (cs : Array Value) (t : TypeId), w.heap[k]? = some (.cells cs t) → t ≠ 121 → t ≠ 5 → t ≠ 54 → t ≠ 41 → t ≠ 69 → w2.heap[k]? = some (.cells cs t) :=
  fun k cs t hk e0 e1 e2 e3 e4 => (far k (heap_lt hk) (type_ne hk hbox e0) (own_type_ne' ob hk (Ne.symm e1)) (own_type_ne' or hk (Ne.symm e2)) (own_type_ne' oq hk (Ne.symm e3)) (own_type_ne' oc hk (Ne.symm e4))).trans hk
 refine ⟨fr _ _ _ hw.boxw (by decide) (by decide) (by decide) (by decide) (by decide), ?_, hw.rowB, M.hold, .inl rfl, .inl rfl, .inl rfl, .inl rfl, .inl rfl, ?_, by simp, ?_, ?_⟩
 ·have := own_same hw.row fun k cs hk => fr k cs _ hk (by decide) (by decide) (by decide) (by decide) (by decide)
  simpa using this
 ·intro x hx
  refine (hw.old x hx).move (fun _ h => h) fun k cs t hu _ hk => ?_
  rw [far k (hp.lt k hu) (fun e => hp.uh (by rw [← e]; exact hu)) (fun e => (hp.bB k e).2 hu) (fun e => (hp.rB k e).2 hu) (fun e => (hp.qB k e).2 hu) (fun e => (hp.cB k e).2 hu)]
  exact hk
 ·refine ⟨M.os, M.tape, M.output, by have := M.size; omega, fun k hk => ?_⟩
  have h1 := hp.sz
  have h2 := hp.hlo
  exact far k (by omega) (by omega) (fun e => by have := (hp.bB k e).1; omega) (fun e => by have := (hp.rB k e).1; omega) (fun e => by have := (hp.qB k e).1; omega) (fun e => by have := (hp.cB k e).1; omega)
 ·intro k cs t hk _ _ n3 n4 n5 n6 n7
  rw [far k (heap_lt hk) n3 n4 n5 n6 n7]; exact hk
theorem KF.start {w w2 : World} {ws hb : Nat} {vb vr vq vc vh : Value} {mk : Int} {lb lr lq lc : Nat} (M : Marked (w.setCell ⟨hb, 4, none⟩ (.int .i64 mk)) w2 hb vb vr vq vc mk lb lr lq lc) : KF w w2 ws hb vh vb vr vq vc vh := by
 refine ⟨.inl rfl, fun k hk n1 n2 n3 n4 n5 n6 n7 => ?_⟩
 have sz1 : (w.setCell ⟨hb, 4, none⟩ (.int .i64 mk)).heap.size = w.heap.size := by simp [World.setCell]
 exact (M.frame k (by rw [sz1]; exact hk) n4 n5 n6 n7).trans (Below.heap_setCell w ⟨hb, 4, none⟩ _ k n2)
theorem HoldM.lt {U : Nat → Prop} {w : World} {hb : Nat} {vb vr vq vc : Value} {mk : Int} {lb lr lq lc : Nat} (h : HoldM U w hb vb vr vq vc mk lb lr lq lc) : HoldM (fun k => U k ∧ k < w.heap.size) w hb vb vr vq vc mk lb lr lq lc := by
 have r : ∀ {e : TypeId} {sz : Nat} {v : Value} {es : List (List Value)}, RowM U w e sz v es → RowM (fun k => U k ∧ k < w.heap.size) w e sz v es := by
  intro e sz v es h
  obtain ⟨a, c, h1, h2, h3⟩ := h
  refine ⟨a, c, h1, h2, ?_⟩
  rcases h3 with h3 | ⟨g, cur, h4, h5, h6, h7⟩
  ·exact .inl h3
  ·exact .inr ⟨g, cur, h4, ⟨h5, heap_lt h6⟩, h6, h7⟩
 exact ⟨⟨h.use, heap_lt h.box⟩, h.box, h.lo, h.hi, r h.b, r h.r, r h.q, r h.c⟩
def NextU (w0 w : World) (U : Nat → Prop) (hb : Nat) (vb vr vq vc : Value) (k : Nat) : Prop := (U k ∨ NewU w0 hb vb vr vq vc k) ∧ k < w.heap.size
theorem KS.world {w0 w : World} {B ws : Nat} {U : Nat → Prop} {vps : Value} {hs : List Nat} {hb : Nat} {vb vr vq vc : Value} {mk : Int} {lb lr lq lc j : Nat} {hsn : List Nat} {G : Nat} {x0 x1 x2 x3 vh : Value}
  (h : KS w0 w B ws U vps hs hb vb vr vq vc mk lb lr lq lc j hsn G x0 x1 x2 x3 vh) : WorldW B (NextU w0 w U hb vb vr vq vc) w ws vps (hs ++ hsn) vh := by
 refine ⟨h.boxw, by rw [List.length_append]; exact h.row, h.rowB, fun x hx => ?_⟩
 rcases List.mem_append.1 hx with hx | hx
 ·obtain ⟨vb', vr', vq', vc', mk', a, b, c, d, hm⟩ := h.old x hx
  exact ⟨vb', vr', vq', vc', mk', a, b, c, d, hm.lt.move (fun k hk => ⟨.inl hk.1, hk.2⟩) fun _ _ _ _ _ hk => hk⟩
 ·obtain ⟨yb, yr, yq, yc, mb, mr, mq, mc, hm, _⟩ := h.new x hx
  exact ⟨yb, yr, yq, yc, mk, mb, mr, mq, mc, hm.lt.move (fun k hk => ⟨.inr hk.1, hk.2⟩) fun _ _ _ _ _ hk => hk⟩
structure St (B : Nat) (U : Nat → Prop) (w : World) (ws : Nat) (vps : Value) (hs : List Nat) (vh : Value) : Prop where
 world : WorldW B U w ws vps hs vh
 lt : ∀ k, U k → k < w.heap.size
 lo : B ≤ ws
 sz : B ≤ w.heap.size
theorem own_below {w w' : World} {e : TypeId} {sz : Nat} {v : Value} {n : Nat} {x : List Value} (h : w.ownsRow 0 e sz v n x) (hb : Below w.heap.size w w') : w'.ownsRow 0 e sz v n x :=
 h.kept (row := none) ⟨hb.os, hb.tape, hb.output, hb.size, fun k hk _ => hb.block k hk⟩ (by cases h1 : v.ownBlock <;> simp)
theorem St.below {B : Nat} {U : Nat → Prop} {w w' : World} {ws : Nat} {vps : Value} {hs : List Nat} {vh : Value} (h : St B U w ws vps hs vh) (hb : Below w.heap.size w w') : St B U w' ws vps hs vh := by
 refine ⟨⟨?_, own_below h.world.row hb, h.world.rowB, fun x hx => ?_⟩, fun k hk => Nat.lt_of_lt_of_le (h.lt k hk) hb.size, h.lo, Nat.le_trans h.sz hb.size⟩
 ·rw [hb.block ws (heap_lt h.world.boxw)]; exact h.world.boxw
 ·exact (h.world.old x hx).move (fun _ h => h) fun k cs t hu _ hk => by rw [hb.block k (h.lt k hu)]; exact hk
structure Kept (B : Nat) (U : Nat → Prop) (w w' : World) (ws : Nat) (vps : Value) (hs : List Nat) (vb vr vq vc : Value) (U' : Nat → Prop) (hs' : List Nat) (vh vh' : Value) : Prop where
 st : St B U' w' ws vps hs' vh'
 len : hs'.length = hs.length + 4
 use : ∀ k, U' k → U k ∨ vb.ownBlock = some k ∨ vr.ownBlock = some k ∨ vq.ownBlock = some k ∨ vc.ownBlock = some k ∨ w.heap.size ≤ k
 below : Below B w w'
 loc : Go.Trawl.Loc w vh vh'
 block : ∀ k, k < w.heap.size → k ≠ ws → vh.ownBlock ≠ some k → vb.ownBlock ≠ some k → vr.ownBlock ≠ some k → vq.ownBlock ≠ some k → vc.ownBlock ≠ some k → w'.heap[k]? = w.heap[k]?
 own : ∀ (e : TypeId) (sz : Nat) (v : Value) (n : Nat) (x : List Value), w.ownsRow 0 e sz v n x → e ≠ 84 → e ≠ 119 →
  (∀ k, v.ownBlock = some k → vb.ownBlock ≠ some k ∧ vr.ownBlock ≠ some k ∧ vq.ownBlock ≠ some k ∧ vc.ownBlock ≠ some k) → w'.ownsRow 0 e sz v n x
structure Went (w w' : World) (ws : Nat) (T U U' : Nat → Prop) (vh vh' : Value) : Prop where
 os : w'.os = w.os
 tape : w'.tape = w.tape
 output : w'.output = w.output
 size : w.heap.size ≤ w'.heap.size
 block : ∀ k, k < w.heap.size → k ≠ ws → vh.ownBlock ≠ some k → ¬ T k → w'.heap[k]? = w.heap[k]?
 use : ∀ k, U' k → U k ∨ w.heap.size ≤ k
 loc : ∀ k, vh'.ownBlock = some k → vh.ownBlock = some k ∨ w.heap.size ≤ k
theorem Went.of_below {w w' : World} {ws : Nat} {T U : Nat → Prop} {vh : Value} (h : Below w.heap.size w w') : Went w w' ws T U U vh vh :=
 ⟨h.os, h.tape, h.output, h.size, fun k hk _ _ _ => h.block k hk, fun _ h => .inl h, fun _ h => .inl h⟩
theorem Went.after {w w1 w' : World} {ws : Nat} {T U U' : Nat → Prop} {vh vh' : Value} (h : Below w.heap.size w w1) (k : Went w1 w' ws T U U' vh vh') : Went w w' ws T U U' vh vh' :=
 ⟨k.os.trans h.os, k.tape.trans h.tape, k.output.trans h.output, Nat.le_trans h.size k.size, fun i hi n1 n2 n3 => (k.block i (Nat.lt_of_lt_of_le hi h.size) n1 n2 n3).trans (h.block i hi),
  fun i hi => (k.use i hi).imp id (Nat.le_trans h.size), fun i hi => (k.loc i hi).imp id (Nat.le_trans h.size)⟩
theorem Went.below {w w1 w' : World} {ws : Nat} {T U U' : Nat → Prop} {vh vh' : Value} (h : Went w w1 ws T U U' vh vh') (k : Below w1.heap.size w1 w') : Went w w' ws T U U' vh vh' :=
 ⟨k.os.trans h.os, k.tape.trans h.tape, k.output.trans h.output, Nat.le_trans h.size k.size, fun i hi n1 n2 n3 => (k.block i (Nat.lt_of_lt_of_le hi h.size)).trans (h.block i hi n1 n2 n3), h.use, h.loc⟩
theorem Went.trans {w w1 w' : World} {ws : Nat} {T U U1 U' : Nat → Prop} {vh vh1 vh' : Value} (h : Went w w1 ws T U U1 vh vh1) (k : Went w1 w' ws T U1 U' vh1 vh') : Went w w' ws T U U' vh vh' := by
 refine ⟨k.os.trans h.os, k.tape.trans h.tape, k.output.trans h.output, Nat.le_trans h.size k.size, fun i hi n1 n2 n3 => ?_, fun i hi => ?_, fun i hi => ?_⟩
 ·rw [k.block i (Nat.lt_of_lt_of_le hi h.size) n1 (fun e => by
   rcases h.loc i e with e | e
   ·exact n2 e
   ·omega) n3]
  exact h.block i hi n1 n2 n3
 ·rcases k.use i hi with e | e
  ·exact h.use i e
  ·exact .inr (Nat.le_trans h.size e)
 ·rcases k.loc i hi with e | e
  ·exact h.loc i e
  ·exact .inr (Nat.le_trans h.size e)
theorem Went.keep {w0 w w' : World} {B ws : Nat} {T U U1 U' : Nat → Prop} {vps : Value} {hs hs' : List Nat} {vb vr vq vc vh vh1 vh' : Value} (h : Went w0 w ws T U U1 vh vh1) (K : Kept B U1 w w' ws vps hs vb vr vq vc U' hs' vh1 vh')
  (nb : ∀ k, vb.ownBlock = some k → w0.heap.size ≤ k) (nr : ∀ k, vr.ownBlock = some k → w0.heap.size ≤ k) (nq : ∀ k, vq.ownBlock = some k → w0.heap.size ≤ k) (nc : ∀ k, vc.ownBlock = some k → w0.heap.size ≤ k) : Went w0 w' ws T U U' vh vh' := by
 refine ⟨K.below.os.trans h.os, K.below.tape.trans h.tape, K.below.output.trans h.output, Nat.le_trans h.size K.below.size, fun i hi n1 n2 n3 => ?_, fun i hi => ?_, fun i hi => ?_⟩
 ·rw [K.block i (Nat.lt_of_lt_of_le hi h.size) n1 (fun e => by
   rcases h.loc i e with e | e
   ·exact n2 e
   ·omega) (fun e => by have := nb i e; omega) (fun e => by have := nr i e; omega) (fun e => by have := nq i e; omega) (fun e => by have := nc i e; omega)]
  exact h.block i hi n1 n2 n3
 ·rcases K.use i hi with e | e | e | e | e | e
  ·exact h.use i e
  ·exact .inr (nb i e)
  ·exact .inr (nr i e)
  ·exact .inr (nq i e)
  ·exact .inr (nc i e)
  ·exact .inr (Nat.le_trans h.size e)
 ·rcases loc_new K.loc i hi with e | e
  ·exact h.loc i e
  ·exact .inr (Nat.le_trans h.size e)
theorem und_bytes' : Tryz.prog.underlying 32 = some (.slice 5) := by kernel_rfl
theorem und_u8' : Tryz.prog.underlying 5 = some (.int .u8) := by kernel_rfl
theorem und_string' : Tryz.prog.underlying 9 = some .string := by kernel_rfl
def str (l : List UInt8) : ByteArray := ⟨l.toArray⟩
theorem str_append (a b : List UInt8) : str a ++ str b = str (a ++ b) := by
 apply ByteArray.ext
 simp [str]
theorem buildH0 (a : Option Addr) (n c : Nat) (W : World) : (Instr.build 121 #[(0, .slice a n c)]).run Tryz.prog W = .ok (.agg #[.slice a n c, .slice none 0 0, .slice none 0 0, .slice none 0 0, .int .i64 0]) W := run_build W _ _ _ (by kernel_rfl)
theorem buildH2 (a : Option Addr) (n c : Nat) (W : World) : (Instr.build 121 #[(2, .slice a n c)]).run Tryz.prog W = .ok (.agg #[.slice none 0 0, .slice none 0 0, .slice a n c, .slice none 0 0, .int .i64 0]) W := run_build W _ _ _ (by kernel_rfl)
theorem buildH3 (a : Option Addr) (n c : Nat) (W : World) : (Instr.build 121 #[(3, .slice a n c)]).run Tryz.prog W = .ok (.agg #[.slice none 0 0, .slice none 0 0, .slice none 0 0, .slice a n c, .int .i64 0]) W := run_build W _ _ _ (by kernel_rfl)
attribute [local go_sem] selfQ selfR guardQ guardR buildQ0 buildR0 buildH0 buildH2 buildH3
theorem nil_free {p : Nat → Prop} : ∀ k, (Value.slice none 0 0).ownBlock = some k → p k := by intro k hk; cases hk
structure PS (w0 w : World) (m : Msg) (vq va vu vx : Value) (q a u e : Nat) : Prop where
 below : Below w0.heap.size w0 w
 box : w.heap[w0.heap.size]? = some (.cells (msgCells m vq va vu vx) 30)
 rq : w.ownsRow 0 41 3 (newV q (m.qs.length + 8)) (m.qs.length + 8) ((lentQ m.qs).map Qn.cells).flatten
 ra : w.ownsRow 0 69 5 (newV a (m.an.length + 8)) (m.an.length + 8) ((lentR m.an).map Rc.cells).flatten
 ru : w.ownsRow 0 69 5 (newV u (m.au.length + 8)) (m.au.length + 8) ((lentR m.au).map Rc.cells).flatten
 rx : w.ownsRow 0 69 5 (newV e (m.ex.length + 8)) (m.ex.length + 8) ((lentR m.ex).map Rc.cells).flatten
 lq : w0.heap.size < q
 la : q < a
 lu : a < u
 lx : u < e
 le : e < w.heap.size
theorem PS.move {w0 w w' : World} {m : Msg} {vq va vu vx : Value} {q a u e : Nat} (h : PS w0 w m vq va vu vx q a u e) (hb : Below w.heap.size w w') : PS w0 w' m vq va vu vx q a u e := by
 have hs := h.below.size
 have h1 := h.lq
 have h2 := h.la
 have h3 := h.lu
 have h4 := h.lx
 have h5 := h.le
 exact ⟨h.below.trans (hb.mono hs), by rw [hb.block _ (heap_lt h.box)]; exact h.box, own_below h.rq hb, own_below h.ra hb, own_below h.ru hb, own_below h.rx hb, h1, h2, h3, h4, Nat.lt_of_lt_of_le h5 hb.size⟩
theorem own_zero {w : World} {base : Nat} {e : TypeId} {sz : Nat} {v : Value} {n : Nat} {x : List Value} (h : w.ownsRow base e sz v n x) : w.ownsRow 0 e sz v n x := by
 refine ⟨h.1, ?_⟩
 rcases h.2 with h2 | ⟨g, cap, cur, h3, _, r⟩
 ·exact .inl h2
 ·exact .inr ⟨g, cap, cur, h3, Nat.zero_le _, r⟩
def packL (m : Msg) : List UInt8 := if packOk m then pack m else []
def packE (m : Msg) : Int := if packOk m then 0 else 1
theorem tpack2 (m : Msg) (vq va vu vx : Value) (w : World) (hwf : WfM m) (hat : MsgAt w m vq va vu vx) :
  Calls Tryz.prog 15 #[.agg (msgCells m vq va vu vx)] w fun e w' => Below w.heap.size w w' ∧ ∃ a c, e = .returned (.tuple #[.slice a (packL m).length c, .int .i64 (packE m)]) ∧ w'.ownsRow w.heap.size 5 1 (.slice a (packL m).length c) (packL m).length (bytesV (packL m)) := by
 refine (tpack_any m vq va vu vx w hwf hat).mono ?_
 rintro e w' ⟨hb, hno, hyes⟩
 refine ⟨hb, ?_⟩
 unfold packL packE
 by_cases hp : packOk m = true
 ·obtain ⟨v, rfl, ho⟩ := hyes hp
  obtain ⟨a, c, rfl⟩ := own_slice ho
  simp only [hp, if_true]
  exact ⟨a, c, rfl, ho⟩
 ·have hp' : packOk m = false := by simpa using hp
  rw [hno hp']
  simp only [hp']
  exact ⟨none, 0, rfl, World.ownsRow_nil _ _ _ _⟩
theorem packL_length (m : Msg) : (packL m).length ≤ 512 := by
 unfold packL
 split
 ·rename_i h
  unfold packOk at h
  simp only [Bool.and_eq_true, decide_eq_true_eq] at h
  unfold pack
  rw [List.length_append, ← shorts_head, two_length]
  simp only [shorts, List.length_cons, List.length_nil]
  omega
 ·simp
theorem conv_own (w : World) (base : Nat) (a : Option Addr) (c : Nat) (l : List UInt8) (h : w.ownsRow base 5 1 (.slice a l.length c) l.length (bytesV l)) :
  (convert 32 9 (.slice a l.length c)).run Tryz.prog w = .ok (.string (str l)) w := by
 rw [run_convert_bytes_string _ _ _ 5 _ _ _ und_bytes' und_u8' und_string']
 rcases h.2 with ⟨h1, h2⟩ | ⟨g, cap, cur, h1, _, hg, _, _, _, htake⟩
 ·have hl : l = [] := List.eq_nil_of_length_eq_zero h2
  subst hl
  injection h1 with h1 _ h3
  subst h1 h3
  rfl
 ·injection h1 with h1 _ h3
  subst h1 h3
  have hload := run_loadCells_list (P := Tryz.prog) w ⟨g, 0, none⟩ (bytesV l) (fun j u hj => h.cells (g := g) rfl j u hj)
  rw [bytesV_length] at hload
  have e1 : bytesV l = (l.map fun b => (b.toNat : Int)).map (Value.int .u8) := by simp [bytesV]
  rw [e1] at hload
  rw [run_bytesToString w ⟨g, 0, none⟩ l.length c _ hload]
  congr 2
  have key : ∀ (l : List UInt8) (r : ByteArray), (l.map fun b => (b.toNat : Int)).foldl (fun r n => r.push (UInt8.ofNat n.toNat)) r = ⟨r.data ++ l.toArray⟩ := by
   intro l
   induction l with
   | nil => intro r; simp
   | cons b l ih =>
    intro r
    rw [List.map_cons, List.foldl_cons, ih]
    simp [ByteArray.push]
  rw [key]
  simp [str]
end Go.Proofs.YtafoepfhepdcoaaGreat
