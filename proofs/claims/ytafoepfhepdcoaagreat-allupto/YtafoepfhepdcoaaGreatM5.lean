import Derived.Test.YtafoepfhepdcoaaGreatM4
set_option maxRecDepth 100000
set_option maxHeartbeats 8000000
namespace Go.Proofs.YtafoepfhepdcoaaGreat
open Go.RowKit Go.Trawl
attribute [local go_sem] equalQ equalR guardQ guardR buildQ buildR buildQ0 buildR0 Stg.upon
theorem wpList_append_grew2 {P : Program} (w : World) {ops : Array Oper} {rest : List Oper} {o : Oper} {a : Act} {Q : Exit → Act → World → Prop} (hgd : o.guard = none) (s x : Operand) (t : TypeId) (ho : o.op = .call { callee := .builtin .append, args := #[s, x], argTypes := #[t, t] })
  (e : TypeId) (i : TypeInfo) (z : Value) (size bytes : Nat) (ht : P.underlying t = some (.slice e)) (hi : P.info? e = some i) (hz : i.zero = some z)
  (hsize : i.size = size) (hby : i.bytes = bytes) (hzs : z.cells.size = size) (hsz : 0 < size)
  (v : Value) (n : Nat) (xs : List Value) (hs : a.eval s = v) (ad : Addr) (m c : Nat) (news : List Value) (hx : a.eval x = .slice (some ad) m c) (hl : news.length = m * size)
  (h1 : ∀ u ∈ news, u.oneCell' = true)
  (hown : w.ownsRow 0 e size v n xs) (hnews : ∀ j u, news[j]? = some u → w.cell? (ad.add j) = some u) (h63 : n + m ≤ maxLen) (hbytes : (n + m) * bytes ≤ 140737488355328)
  (h : ∀ v' w', Grew e size w w' v v' (n + m) (xs ++ news) → w'.ownsRow 0 e size v n xs → wpList P ops Q rest (a.put o.dst v') w') : wpList P ops Q (o :: rest) a w := by
 refine wpList_plain hgd fun K hK => ?_
 obtain ⟨v', w', hr, h2, h3⟩ := append_grew2 (P := P) w t o.type e i z size bytes ht hi hz hsize hby hzs hsz v n xs hown ad m c news hl hnews h1 h63 hbytes
 unfold Oper.wp execOp
 simp only [ho, resolve, invoke, builtin, Sem.run_bind, Sem.run_pure, Result.andThen_ok, List.map_toArray, List.map_cons, List.map_nil, hs, hx, hr]
 exact hK _ _ (h v' w' h2 h3)
theorem u8I : (Tryz.prog.info? 5).map (fun i => (i.zero, i.size, i.bytes)) = some (some (.int .u8 0), 1, 1) := by kernel_rfl
theorem u32I : (Tryz.prog.info? 54).map (fun i => (i.zero, i.size, i.bytes)) = some (some (.int .u32 0), 1, 4) := by kernel_rfl
theorem qI : (Tryz.prog.info? 41).map (fun i => (i.zero, i.size, i.bytes)) = some (some (.agg #[.string ⟨#[]⟩, .int .u16 0, .int .u16 0]), 3, 24) := by kernel_rfl
theorem rI : (Tryz.prog.info? 69).map (fun i => (i.zero, i.size, i.bytes)) = some (some (.agg #[.string ⟨#[]⟩, .int .u16 0, .int .u16 0, .int .u32 0, .string ⟨#[]⟩]), 5, 40) := by kernel_rfl
theorem uB : Tryz.prog.underlying 32 = some (.slice 5) := by kernel_rfl
theorem uR : Tryz.prog.underlying 55 = some (.slice 54) := by kernel_rfl
theorem uQ : Tryz.prog.underlying 27 = some (.slice 41) := by kernel_rfl
theorem uC : Tryz.prog.underlying 28 = some (.slice 69) := by kernel_rfl
def bL (mk : Int) (n : Nat) : List Value := (List.range n).map (bM mk)
structure HoldO (w : World) (hb : Nat) (vb vr vq vc : Value) (mk : Int) (lb lr lq lc : Nat) : Prop where
 box : w.heap[hb]? = some (.cells #[vb, vr, vq, vc, .int .i64 mk] 121)
 b : w.ownsRow 0 5 1 vb lb (bL mk lb)
 r : w.ownsRow 0 54 1 vr lr (List.replicate lr [rM mk]).flatten
 q : w.ownsRow 0 41 3 vq lq (List.replicate lq (qM mk)).flatten
 c : w.ownsRow 0 69 5 vc lc (List.replicate lc (cM mk)).flatten
theorem os_ {w : World} {base : Nat} {e : TypeId} {sz : Nat} {v : Value} {n : Nat} {x : List Value} (h : w.ownsRow base e sz v n x) : ∃ a c, v = .slice a n c := by
 rcases h.2 with ⟨rfl, rfl⟩ | ⟨g, cap, cur, rfl, _⟩
 ·exact ⟨_, _, rfl⟩
 ·exact ⟨_, _, rfl⟩
theorem hl_ {w : World} {b : Nat} {o : Obj} (h : w.heap[b]? = some o) : b < w.heap.size := (Array.getElem?_eq_some_iff.1 h).1
theorem hs_ {w : World} {G j : Nat} {cs : Array Value} {t : TypeId} (hG : w.heap[G]? = some (.cells cs t)) (u : Value) : (w.setCell ⟨G, j, none⟩ u).heap[G]? = some (.cells (cs.setIfInBounds j u) t) := by
 simp only [World.setCell, Array.getElem?_modify, if_true, hG]
 rfl
theorem gs_ (w : World) (G j : Nat) (u : Value) : w.grownBy (w.setCell ⟨G, j, none⟩ u) (some G) :=
 ⟨rfl, rfl, rfl, by simp [World.setCell], fun k _ hne => Below.heap_setCell w ⟨G, j, none⟩ u k (fun e => hne (by rw [e]))⟩
theorem own_type_ne' {w : World} {e t : TypeId} {sz : Nat} {v : Value} {n : Nat} {x : List Value} {b : Nat} {cs : Array Value} (h : w.ownsRow 0 e sz v n x) (hb : w.heap[b]? = some (.cells cs t)) (hne : e ≠ t) : v.ownBlock ≠ some b := by
 rcases h.2 with ⟨rfl, _⟩ | ⟨g, cap, cur, rfl, _, hg, _⟩
 ·simp [Value.ownBlock]
 ·intro e1
  have := Option.some.inj e1
  simp only at this
  subst this
  rw [hb] at hg
  injection hg with h1
  injection h1 with _ h2
  exact hne h2.symm
theorem own_setCell_ne {w : World} {e t : TypeId} {sz : Nat} {v : Value} {n : Nat} {x : List Value} {G j : Nat} {cs : Array Value} (h : w.ownsRow 0 e sz v n x) (hG : w.heap[G]? = some (.cells cs t)) (hne : e ≠ t) (u : Value) : (w.setCell ⟨G, j, none⟩ u).ownsRow 0 e sz v n x :=
 h.kept (gs_ w G j u) (.inr (own_type_ne' h hG hne))
theorem own_other {w w2 : World} {e e2 : TypeId} {sz sz2 : Nat} {v v' u : Value} {n n2 n' : Nat} {x x2 x' : List Value} (g : Grew e sz w w2 v v' n' x') (hv : w.ownsRow 0 e sz v n x) (hu : w.ownsRow 0 e2 sz2 u n2 x2) (hne : e2 ≠ e) : w2.ownsRow 0 e2 sz2 u n2 x2 := by
 refine hu.kept g.grown ?_
 rcases hv.2 with ⟨rfl, _⟩ | ⟨gg, cap, cur, rfl, _, hg, _⟩
 ·cases h1 : u.ownBlock
  ·exact .inl rfl
  ·exact .inr (by simp [Value.ownBlock])
 ·exact .inr (own_type_ne' hu hg hne)
theorem block_other {w w2 : World} {e t : TypeId} {sz : Nat} {v v' : Value} {n n' : Nat} {x x' : List Value} {b : Nat} {cs : Array Value} (g : Grew e sz w w2 v v' n' x') (hv : w.ownsRow 0 e sz v n x) (hb : w.heap[b]? = some (.cells cs t)) (hne : e ≠ t) : w2.heap[b]? = some (.cells cs t) :=
 (g.keeps (hl_ hb) (own_type_ne' hv hb hne)).1.trans hb
theorem heap_old {w : World} {b : Nat} {o : Obj} (h : w.heap[b]? = some o) (x : Obj) : (w.alloc x).heap[b]? = some o := by
 rw [Below.heap_alloc w x b (hl_ h)]; exact h
structure Lg (w0 w : World) (hb G : Nat) (vb vr vq vc : Value) (mk : Int) (lb lr lq lc : Nat) (x0 x1 x2 x3 : Value) : Prop where
 boxh : w.heap[hb]? = some (.cells #[vb, vr, vq, vc, .int .i64 mk] 121)
 boxg : w.heap[G]? = some (.cells #[x0, x1, x2, x3, .int .i64 mk] 121)
 ne : hb ≠ G
 b : w.ownsRow 0 5 1 vb lb (bL mk lb)
 r : w.ownsRow 0 54 1 vr lr (List.replicate lr [rM mk]).flatten
 q : w.ownsRow 0 41 3 vq lq (List.replicate lq (qM mk)).flatten
 c : w.ownsRow 0 69 5 vc lc (List.replicate lc (cM mk)).flatten
 os : w.os = w0.os
 tape : w.tape = w0.tape
 output : w.output = w0.output
 size : w0.heap.size ≤ w.heap.size
 frame : ∀ k, k < w0.heap.size → vb.ownBlock ≠ some k → vr.ownBlock ≠ some k → vq.ownBlock ≠ some k → vc.ownBlock ≠ some k → w.heap[k]? = w0.heap[k]?
 fresh : w0.heap.size ≤ G
theorem Lg.stepB {w0 w w2 : World} {hb G : Nat} {vb vr vq vc : Value} {mk : Int} {lb lr lq lc : Nat} {x0 x1 x2 x3 v' : Value} {n' : Nat} {z : List Value} {T : Obj} (h : Lg w0 w hb G vb vr vq vc mk lb lr lq lc x0 x1 x2 x3)
  (g : Grew 5 1 (w.alloc T) w2 vb v' n' z) (old : w2.ownsRow 0 5 1 vb lb (bL mk lb)) : Lg w0 (w2.setCell ⟨G, 0, none⟩ v') hb G vb vr vq vc mk lb lr lq lc v' x1 x2 x3 := by
 have hv : (w.alloc T).ownsRow 0 5 1 vb lb (bL mk lb) := h.b.alloc _
 have hg := block_other g hv (heap_old h.boxg T) (by decide)
 have hh := block_other g hv (heap_old h.boxh T) (by decide)
 refine ⟨?_, ?_, h.ne, ?_, ?_, ?_, ?_, g.grown.os.trans h.os, g.grown.tape.trans h.tape, g.grown.output.trans h.output, ?_, ?_, h.fresh⟩
 ·rw [Below.heap_setCell _ _ _ _ (show hb ≠ G from h.ne)]; exact hh
 ·rw [hs_ hg]; rfl
 ·exact own_setCell_ne old hg (by decide) v'
 ·exact own_setCell_ne (own_other g hv (h.r.alloc _) (by decide)) hg (by decide) v'
 ·exact own_setCell_ne (own_other g hv (h.q.alloc _) (by decide)) hg (by decide) v'
 ·exact own_setCell_ne (own_other g hv (h.c.alloc _) (by decide)) hg (by decide) v'
 ·have := g.grown.size
  rw [as_] at this
  have h2 := h.size
  simp only [World.setCell, Array.size_modify]; omega
 ·intro k hk n1 n2 n3 n4
  have hf := h.fresh
  have hs := h.size
  rw [Below.heap_setCell _ _ _ _ (show k ≠ G by omega), (g.keeps (b := k) (by rw [as_]; omega) n1).1, Below.heap_alloc w T k (by omega)]
  exact h.frame k hk n1 n2 n3 n4
theorem Lg.stepR {w0 w w2 : World} {hb G : Nat} {vb vr vq vc : Value} {mk : Int} {lb lr lq lc : Nat} {x0 x1 x2 x3 v' : Value} {n' : Nat} {z : List Value} {T : Obj} (h : Lg w0 w hb G vb vr vq vc mk lb lr lq lc x0 x1 x2 x3)
  (g : Grew 54 1 (w.alloc T) w2 vr v' n' z) (old : w2.ownsRow 0 54 1 vr lr (List.replicate lr [rM mk]).flatten) : Lg w0 (w2.setCell ⟨G, 1, none⟩ v') hb G vb vr vq vc mk lb lr lq lc x0 v' x2 x3 := by
 have hv : (w.alloc T).ownsRow 0 54 1 vr lr (List.replicate lr [rM mk]).flatten := h.r.alloc _
 have hg := block_other g hv (heap_old h.boxg T) (by decide)
 have hh := block_other g hv (heap_old h.boxh T) (by decide)
 refine ⟨?_, ?_, h.ne, ?_, ?_, ?_, ?_, g.grown.os.trans h.os, g.grown.tape.trans h.tape, g.grown.output.trans h.output, ?_, ?_, h.fresh⟩
 ·rw [Below.heap_setCell _ _ _ _ (show hb ≠ G from h.ne)]; exact hh
 ·rw [hs_ hg]; rfl
 ·exact own_setCell_ne (own_other g hv (h.b.alloc _) (by decide)) hg (by decide) v'
 ·exact own_setCell_ne old hg (by decide) v'
 ·exact own_setCell_ne (own_other g hv (h.q.alloc _) (by decide)) hg (by decide) v'
 ·exact own_setCell_ne (own_other g hv (h.c.alloc _) (by decide)) hg (by decide) v'
 ·have := g.grown.size
  rw [as_] at this
  have h2 := h.size
  simp only [World.setCell, Array.size_modify]; omega
 ·intro k hk n1 n2 n3 n4
  have hf := h.fresh
  have hs := h.size
  rw [Below.heap_setCell _ _ _ _ (show k ≠ G by omega), (g.keeps (b := k) (by rw [as_]; omega) n2).1, Below.heap_alloc w T k (by omega)]
  exact h.frame k hk n1 n2 n3 n4
theorem Lg.stepQ {w0 w w2 : World} {hb G : Nat} {vb vr vq vc : Value} {mk : Int} {lb lr lq lc : Nat} {x0 x1 x2 x3 v' : Value} {n' : Nat} {z : List Value} {T : Obj} (h : Lg w0 w hb G vb vr vq vc mk lb lr lq lc x0 x1 x2 x3)
  (g : Grew 41 3 (w.alloc T) w2 vq v' n' z) (old : w2.ownsRow 0 41 3 vq lq (List.replicate lq (qM mk)).flatten) : Lg w0 (w2.setCell ⟨G, 2, none⟩ v') hb G vb vr vq vc mk lb lr lq lc x0 x1 v' x3 := by
 have hv : (w.alloc T).ownsRow 0 41 3 vq lq (List.replicate lq (qM mk)).flatten := h.q.alloc _
 have hg := block_other g hv (heap_old h.boxg T) (by decide)
 have hh := block_other g hv (heap_old h.boxh T) (by decide)
 refine ⟨?_, ?_, h.ne, ?_, ?_, ?_, ?_, g.grown.os.trans h.os, g.grown.tape.trans h.tape, g.grown.output.trans h.output, ?_, ?_, h.fresh⟩
 ·rw [Below.heap_setCell _ _ _ _ (show hb ≠ G from h.ne)]; exact hh
 ·rw [hs_ hg]; rfl
 ·exact own_setCell_ne (own_other g hv (h.b.alloc _) (by decide)) hg (by decide) v'
 ·exact own_setCell_ne (own_other g hv (h.r.alloc _) (by decide)) hg (by decide) v'
 ·exact own_setCell_ne old hg (by decide) v'
 ·exact own_setCell_ne (own_other g hv (h.c.alloc _) (by decide)) hg (by decide) v'
 ·have := g.grown.size
  rw [as_] at this
  have h2 := h.size
  simp only [World.setCell, Array.size_modify]; omega
 ·intro k hk n1 n2 n3 n4
  have hf := h.fresh
  have hs := h.size
  rw [Below.heap_setCell _ _ _ _ (show k ≠ G by omega), (g.keeps (b := k) (by rw [as_]; omega) n3).1, Below.heap_alloc w T k (by omega)]
  exact h.frame k hk n1 n2 n3 n4
theorem Lg.stepC {w0 w w2 : World} {hb G : Nat} {vb vr vq vc : Value} {mk : Int} {lb lr lq lc : Nat} {x0 x1 x2 x3 v' : Value} {n' : Nat} {z : List Value} {T : Obj} (h : Lg w0 w hb G vb vr vq vc mk lb lr lq lc x0 x1 x2 x3)
  (g : Grew 69 5 (w.alloc T) w2 vc v' n' z) (old : w2.ownsRow 0 69 5 vc lc (List.replicate lc (cM mk)).flatten) : Lg w0 (w2.setCell ⟨G, 3, none⟩ v') hb G vb vr vq vc mk lb lr lq lc x0 x1 x2 v' := by
 have hv : (w.alloc T).ownsRow 0 69 5 vc lc (List.replicate lc (cM mk)).flatten := h.c.alloc _
 have hg := block_other g hv (heap_old h.boxg T) (by decide)
 have hh := block_other g hv (heap_old h.boxh T) (by decide)
 refine ⟨?_, ?_, h.ne, ?_, ?_, ?_, ?_, g.grown.os.trans h.os, g.grown.tape.trans h.tape, g.grown.output.trans h.output, ?_, ?_, h.fresh⟩
 ·rw [Below.heap_setCell _ _ _ _ (show hb ≠ G from h.ne)]; exact hh
 ·rw [hs_ hg]; rfl
 ·exact own_setCell_ne (own_other g hv (h.b.alloc _) (by decide)) hg (by decide) v'
 ·exact own_setCell_ne (own_other g hv (h.r.alloc _) (by decide)) hg (by decide) v'
 ·exact own_setCell_ne (own_other g hv (h.q.alloc _) (by decide)) hg (by decide) v'
 ·exact own_setCell_ne old hg (by decide) v'
 ·have := g.grown.size
  rw [as_] at this
  have h2 := h.size
  simp only [World.setCell, Array.size_modify]; omega
 ·intro k hk n1 n2 n3 n4
  have hf := h.fresh
  have hs := h.size
  rw [Below.heap_setCell _ _ _ _ (show k ≠ G by omega), (g.keeps (b := k) (by rw [as_]; omega) n4).1, Below.heap_alloc w T k (by omega)]
  exact h.frame k hk n1 n2 n3 n4
theorem fz_ {w : World} {b : Nat} {cs : Array Value} {t : TypeId} (h : w.heap[b]? = some (.cells cs t)) : ∀ o, w.frozen? ⟨b, o, none⟩ = false := by
 intro o
 simp [World.frozen?, h]
theorem Lg.drew {w0 w : World} {hb G : Nat} {vb vr vq vc : Value} {mk : Int} {lb lr lq lc : Nat} {x0 x1 x2 x3 : Value} (h : Lg w0 w hb G vb vr vq vc mk lb lr lq lc x0 x1 x2 x3) : Lg w0 { w with drawn := w.drawn + 1 } hb G vb vr vq vc mk lb lr lq lc x0 x1 x2 x3 :=
 ⟨h.boxh, h.boxg, h.ne, h.b, h.r, h.q, h.c, h.os, h.tape, h.output, h.size, h.frame, h.fresh⟩
structure NewRow (w0 w : World) (e : TypeId) (sz : Nat) (v x : Value) (n : Nat) (z : List Value) : Prop where
 own : w.ownsRow 0 e sz x n z
 loc : Go.Trawl.Loc w0 v x
theorem NewRow.step {w0 w w2 : World} {e e2 t : TypeId} {sz sz2 : Nat} {v x u v' : Value} {n m n' : Nat} {z y y' : List Value} {T : Obj} {G j : Nat} {cs : Array Value} (h : NewRow w0 w e sz v x n z) (g : Grew e2 sz2 (w.alloc T) w2 u v' n' y') (hu : (w.alloc T).ownsRow 0 e2 sz2 u m y) (hne : e ≠ e2)
  (hG : w2.heap[G]? = some (.cells cs t)) (hne2 : e ≠ t) : NewRow w0 (w2.setCell ⟨G, j, none⟩ v') e sz v x n z :=
 ⟨own_setCell_ne (own_other g hu (h.own.alloc _) hne) hG hne2 v', h.loc⟩
theorem NewRow.drew {w0 w : World} {e : TypeId} {sz : Nat} {v x : Value} {n : Nat} {z : List Value} (h : NewRow w0 w e sz v x n z) : NewRow w0 { w with drawn := w.drawn + 1 } e sz v x n z := ⟨h.own, h.loc⟩
theorem NewRow.mk' {w0 w w2 : World} {e t : TypeId} {sz : Nat} {v v' : Value} {n' : Nat} {z : List Value} {T : Obj} {G j : Nat} {cs : Array Value} (g : Grew e sz (w.alloc T) w2 v v' n' z) (hs : w0.heap.size ≤ w.heap.size)
  (hG : w2.heap[G]? = some (.cells cs t)) (hne2 : e ≠ t) : NewRow w0 (w2.setCell ⟨G, j, none⟩ v') e sz v v' n' z := by
 refine ⟨own_setCell_ne g.own hG hne2 v', ?_⟩
 rcases g.loc with e1 | ⟨k, e1, hk⟩
 ·exact .inl e1
 ·rw [as_] at hk; exact .inr ⟨k, e1, by omega⟩
theorem bL_succ (mk : Int) (n : Nat) : bL mk n ++ [bM mk n] = bL mk (n + 1) := by
 unfold bL; rw [List.range_succ, List.map_append]; rfl
theorem rep_succ (f : List Value) (n : Nat) : (List.replicate n f).flatten ++ f = (List.replicate (n + 1) f).flatten := by
 rw [List.replicate_succ', List.flatten_append]; simp
theorem one_u8 {k : IntKind} {a : Int} : ∀ u ∈ [Value.int k a], u.oneCell' = true := by
 intro u hu; simp at hu; subst hu; rfl
theorem one_q (mk : Int) : ∀ u ∈ qM mk, u.oneCell' = true := by
 intro u hu; simp [qM] at hu; rcases hu with rfl | rfl | rfl <;> rfl
theorem one_c (mk : Int) : ∀ u ∈ cM mk, u.oneCell' = true := by
 intro u hu; simp [cM] at hu; rcases hu with rfl | rfl | rfl | rfl | rfl <;> rfl
theorem cells_new (w : World) (cs : Array Value) (t : TypeId) : ∀ j u, cs.toList[j]? = some u → (w.alloc (.cells cs t)).cell? ((⟨w.heap.size, 0, none⟩ : Addr).add j) = some u := by
 intro j u hj
 have e1 : (⟨w.heap.size, 0, none⟩ : Addr).add j = ⟨w.heap.size, j, none⟩ := by simp [Addr.add]; omega
 rw [e1, bc_ (hn_ w _)]
 simpa using hj
theorem longer_any (w : World) (hb : Nat) (vb vr vq vc : Value) (mk : Int) (lb lr lq lc : Nat) (h0 : 1 ≤ mk) (h1 : mk ≤ 100000000) (b1 : lb ≤ 4194304) (b2 : lr ≤ 4194304) (b3 : lq ≤ 4194304) (b4 : lc ≤ 4194304) (h : HoldO w hb vb vr vq vc mk lb lr lq lc) :
  Calls Tryz.prog 93 #[.pointer (some ⟨hb, 0, none⟩)] w fun e w' => ∃ G x0 x1 x2 x3, e = .returned (.pointer (some ⟨G, 0, none⟩)) ∧ Lg w w' hb G vb vr vq vc mk lb lr lq lc x0 x1 x2 x3 ∧
   NewRow w w' 5 1 vb x0 (lb + 1) (bL mk (lb + 1)) ∧ NewRow w w' 54 1 vr x1 (lr + 1) (List.replicate (lr + 1) [rM mk]).flatten ∧
   NewRow w w' 41 3 vq x2 (lq + 1) (List.replicate (lq + 1) (qM mk)).flatten ∧ NewRow w w' 69 5 vc x3 (lc + 1) (List.replicate (lc + 1) (cM mk)).flatten := by
 obtain ⟨ab, cb, rfl⟩ := os_ h.b
 obtain ⟨ar, cr, rfl⟩ := os_ h.r
 obtain ⟨aq, cq, rfl⟩ := os_ h.q
 obtain ⟨ac, cc, rfl⟩ := os_ h.c
 obtain ⟨ib, ib0, ib1, ib2, ib3⟩ := info_parts u8I
 obtain ⟨ir, ir0, ir1, ir2, ir3⟩ := info_parts u32I
 obtain ⟨iq, iq0, iq1, iq2, iq3⟩ := info_parts qI
 obtain ⟨ic, ic0, ic1, ic2, ic3⟩ := info_parts rI
 have hcb := bc_ h.box
 have HH := hide h
 have hlt : hb < w.heap.size := hl_ h.box
 clear h
 go_enter Tryz.func93, Tryz.ntmps93
 go_wp2_with fail
 go_quiet ((go_at_call 94; exact Calls.quiet_of_same (sign_any _ _ (by omega) (by omega) _)))
 obtain ⟨w1, hw1⟩ : ∃ w1 : World, w1 = (w.alloc (.cells #[.slice none 0 0, .slice none 0 0, .slice none 0 0, .slice none 0 0, .int .i64 mk] 121)).drewN nq := ⟨_, rfl⟩
 have L1 : Lg w w1 hb w.heap.size (.slice ab lb cb) (.slice ar lr cr) (.slice aq lq cq) (.slice ac lc cc) mk lb lr lq lc (.slice none 0 0) (.slice none 0 0) (.slice none 0 0) (.slice none 0 0) := by
  rw [hw1]
  have hh := HH.out
  refine ⟨heap_old hh.box _, hn_ w _, by omega, ?_, ?_, ?_, ?_, rfl, rfl, rfl, ?_, ?_, Nat.le_refl _⟩
  ·exact (hh.b.alloc _).kept (gd_ _ nq none) (by cases ab <;> simp [Value.ownBlock])
  ·exact (hh.r.alloc _).kept (gd_ _ nq none) (by cases ar <;> simp [Value.ownBlock])
  ·exact (hh.q.alloc _).kept (gd_ _ nq none) (by cases aq <;> simp [Value.ownBlock])
  ·exact (hh.c.alloc _).kept (gd_ _ nq none) (by cases ac <;> simp [Value.ownBlock])
  ·show w.heap.size ≤ (w.heap.push _).size; simp
  ·intro k hk _ _ _ _
   exact Below.heap_alloc w _ k hk
 rw [← hw1]
 clear hw1 hcb
 have hcb := bc_ L1.boxh
 have LL1 := hide L1
 clear L1
 go_wp2_with (at_builtin; refine wpList_append_grew2 _ rfl _ _ 32 rfl 5 ib (.int .u8 0) 1 1 uB ib0 ib1 ib2 ib3 rfl (by decide) (.slice ab lb cb) lb (bL mk lb) rfl ⟨w1.heap.size, 0, none⟩ 1 1 [bM mk lb] rfl rfl one_u8 (LL1.out.b.alloc _) (cells_new w1 #[bM mk lb] _) (by unfold maxLen; omega) (by omega) ?_; intro v2 w2 g2 o2; obtain ⟨a2, c2, rfl⟩ := os_ g2.own; have bg2 := block_other g2 (LL1.out.b.alloc _) (heap_old LL1.out.boxg _) (by decide); have hcg := bc_ bg2; have hfg := fz_ bg2; have BG2 := hide bg2; clear bg2 hcb)
 have L2 := LL1.out.stepB g2 o2
 have N2 := NewRow.mk' (w0 := w) (j := 0) g2 LL1.out.size BG2.out (by decide)
 rw [bL_succ] at N2
 clear hcg hfg
 obtain ⟨w3, hw3⟩ : ∃ w3 : World, w3 = w2.setCell ⟨w.heap.size, 0, none⟩ (.slice a2 (lb + 1) c2) := ⟨_, rfl⟩
 rw [← hw3] at L2 N2
 have LL2 := hide L2
 have NN2 := hide N2
 clear L2 N2 g2 o2
 go_wp2_with fail
 rw [← hw3]
 clear hw3 BG2
 have hcb := bc_ LL2.out.drew.boxh
 obtain ⟨W0, hW0⟩ : ∃ W0 : World, W0 = { w3 with drawn := w3.drawn + 1 } := ⟨_, rfl⟩
 have LD := LL2.out.drew
 rw [← hW0] at LD hcb
 obtain ⟨W1, hW1⟩ : ∃ W1 : World, W1 = W0.alloc (.cells #[rM mk] 54) := ⟨_, rfl⟩
 have hnew := cells_new W0 #[rM mk] 54
 have hrow := LD.r.alloc (.cells #[rM mk] 54)
 have hbh1 := heap_old LD.boxh (.cells #[rM mk] 54)
 have hbg1 := heap_old LD.boxg (.cells #[rM mk] 54)
 rw [← hW1] at hnew hrow hbh1 hbg1
 obtain ⟨v', W2, hrun, g', o'⟩ := append_grew2 (P := Tryz.prog) W1 55 55 54 ir (.int .u32 0) 1 4 uR ir0 ir1 ir2 ir3 rfl (by decide) (.slice ar lr cr) lr (List.replicate lr [rM mk]).flatten hrow ⟨W0.heap.size, 0, none⟩ 1 1 [rM mk] rfl hnew one_u8 (by unfold maxLen; omega) (by omega)
 obtain ⟨a', c', rfl⟩ := os_ g'.own
 have hbg2 := block_other g' hrow hbg1 (by decide)
 have hbh2 := block_other g' hrow hbh1 (by decide)
 obtain ⟨W3, hW3⟩ : ∃ W3 : World, W3 = W2.setCell ⟨w.heap.size, 1, none⟩ (.slice a' (lr + 1) c') := ⟨_, rfl⟩
 have LN : Lg w W3 hb w.heap.size (.slice ab lb cb) (.slice ar lr cr) (.slice aq lq cq) (.slice ac lc cc) mk lb lr lq lc (.slice a2 (lb + 1) c2) (.slice a' (lr + 1) c') (.slice none 0 0) (.slice none 0 0) := by
  rw [hW3]
  rw [hW1] at g'
  exact LD.stepR g' o'
 have NN : NewRow w W3 54 1 (.slice ar lr cr) (.slice a' (lr + 1) c') (lr + 1) ((List.replicate (lr + 1) [rM mk]).flatten) := by
  rw [hW3, ← rep_succ]
  rw [hW1] at g'
  exact NewRow.mk' g' LD.size hbg2 (by decide)
 have CNN2 := NewRow.step (j := 1) (NN2.out.drew) (by rw [← hW0, ← hW1]; exact g') (by rw [← hW0, ← hW1]; exact hrow) (by decide) hbg2 (by decide)
 rw [← hW3] at CNN2
 obtain ⟨f, hf0, hf1, hf2, hf3, hfp⟩ := Stg.coverE4 W0 W1 W2 W3
 have hcf : ∀ k o, (f k).cell? ⟨hb, o, none⟩ = (#[.slice ab lb cb, .slice ar lr cr, .slice aq lq cq, .slice ac lc cc, .int .i64 mk] : Array Value)[o]? :=
  hfp (fun x => ∀ o, x.cell? ⟨hb, o, none⟩ = (#[.slice ab lb cb, .slice ar lr cr, .slice aq lq cq, .slice ac lc cc, .int .i64 mk] : Array Value)[o]?) hcb (bc_ hbh1) (bc_ hbh2) (bc_ LN.boxh)
 have HU := hide (Stg.pick4_cover4 hf0 hf1 hf2 hf3)
 have hcg := bc_ hbg2
 have hfg := fz_ hbg2
 have HR := hide hrun
 have HW1 := hide hW1
 have HW3 := hide hW3
 have HLN := hide LN
 have HNN := hide NN
 have HNN2 := hide CNN2
 clear hf0 hf1 hf2 hf3 hfp hcb LD hnew hrow hbh1 hbg1 hrun g' o' hbg2 hbh2 hW1 hW3 LN NN CNN2
 refine Stg.wp_region_stage [11, 12, 15] (fun j w' => w' = Stg.pick4 W0 W1 W2 W3 j) (by kernel_rfl) (by kernel_rfl) hW0.symm ?_
 clear hW0
 refine Stg.lex_upto 11 4 (by decide) (by kernel_rfl) HU.out ?_
 simp only [List.take_succ_cons, List.take_zero, List.drop_succ_cons, List.drop_zero]
 repeat (first | go_big_quiet_step (fail) | quiet_step (fail))
 refine wpQuiet_nil ?_
 refine Stg.lex_move 0 (by kernel_rfl) (.slice (some ⟨W0.heap.size, 0, none⟩) 1 1) ?_ ?_
 ·intro w' hw'
  rw [show w' = W0 from hw', show Stg.pick4 W0 W1 W2 W3 (0 + 1) = W1 from rfl]
  clear hw' w'
  go_simp
  exact HW1.out.symm
 refine Stg.lex_move 1 (by kernel_rfl) (.slice a' (lr + 1) c') ?_ ?_
 ·intro w' hw'
  rw [show w' = W1 from hw', show Stg.pick4 W0 W1 W2 W3 (1 + 1) = W2 from rfl]
  clear hw' w'
  exact Stg.upon_append rfl rfl rfl HR.out rfl
 refine Stg.lex_upto 2 4 (by decide) (by kernel_rfl) HU.out ?_
 simp only [List.take_succ_cons, List.take_zero, List.drop_succ_cons, List.drop_zero]
 repeat (first | go_big_quiet_step (fail) | quiet_step (fail))
 refine wpQuiet_nil ?_
 refine Stg.lex_move 2 (by kernel_rfl) undef ?_ ?_
 ·intro w' hw'
  rw [show w' = W2 from hw', show Stg.pick4 W0 W1 W2 W3 (2 + 1) = W3 from rfl]
  clear hw' w'
  go_simp
  exact HW3.out.symm
 refine Stg.lex_nil ?_
 intro w' hw'
 rw [show w' = W3 from hw']
 clear hw' w'
 dsimp only [Act.put]
 clear hcf hcg hfg HU HR HW1 HW3
 obtain ⟨w4, rfl⟩ : ∃ x : World, x = W3 := ⟨_, rfl⟩
 obtain ⟨a4, rfl⟩ : ∃ x : Option Addr, x = a' := ⟨_, rfl⟩
 obtain ⟨c4, rfl⟩ : ∃ x : Nat, x = c' := ⟨_, rfl⟩
 have LL3 := HLN
 have N4 := HNN
 have KNN2 := HNN2
 clear HLN HNN HNN2
 go_wp2_with fail
 have hcb := bc_ LL3.out.drew.boxh
 obtain ⟨W0, hW0⟩ : ∃ W0 : World, W0 = { w4 with drawn := w4.drawn + 1 } := ⟨_, rfl⟩
 have LD := LL3.out.drew
 rw [← hW0] at LD hcb
 obtain ⟨W1, hW1⟩ : ∃ W1 : World, W1 = W0.alloc (.cells #[.string ⟨#[109, 97, 114, 107]⟩, .int .u16 (IntKind.u16.wrap mk), .int .u16 0] 41) := ⟨_, rfl⟩
 have hnew := cells_new W0 #[.string ⟨#[109, 97, 114, 107]⟩, .int .u16 (IntKind.u16.wrap mk), .int .u16 0] 41
 have hrow := LD.q.alloc (.cells #[.string ⟨#[109, 97, 114, 107]⟩, .int .u16 (IntKind.u16.wrap mk), .int .u16 0] 41)
 have hbh1 := heap_old LD.boxh (.cells #[.string ⟨#[109, 97, 114, 107]⟩, .int .u16 (IntKind.u16.wrap mk), .int .u16 0] 41)
 have hbg1 := heap_old LD.boxg (.cells #[.string ⟨#[109, 97, 114, 107]⟩, .int .u16 (IntKind.u16.wrap mk), .int .u16 0] 41)
 rw [← hW1] at hnew hrow hbh1 hbg1
 obtain ⟨v', W2, hrun, g', o'⟩ := append_grew2 (P := Tryz.prog) W1 27 27 41 iq _ 3 24 uQ iq0 iq1 iq2 iq3 rfl (by decide) (.slice aq lq cq) lq (List.replicate lq (qM mk)).flatten hrow ⟨W0.heap.size, 0, none⟩ 1 1 [.string ⟨#[109, 97, 114, 107]⟩, .int .u16 (IntKind.u16.wrap mk), .int .u16 0] rfl hnew (one_q mk) (by unfold maxLen; omega) (by omega)
 obtain ⟨a', c', rfl⟩ := os_ g'.own
 have hbg2 := block_other g' hrow hbg1 (by decide)
 have hbh2 := block_other g' hrow hbh1 (by decide)
 obtain ⟨W3, hW3⟩ : ∃ W3 : World, W3 = W2.setCell ⟨w.heap.size, 2, none⟩ (.slice a' (lq + 1) c') := ⟨_, rfl⟩
 have LN : Lg w W3 hb w.heap.size (.slice ab lb cb) (.slice ar lr cr) (.slice aq lq cq) (.slice ac lc cc) mk lb lr lq lc (.slice a2 (lb + 1) c2) (.slice a4 (lr + 1) c4) (.slice a' (lq + 1) c') (.slice none 0 0) := by
  rw [hW3]
  rw [hW1] at g'
  exact LD.stepQ g' o'
 have NN : NewRow w W3 41 3 (.slice aq lq cq) (.slice a' (lq + 1) c') (lq + 1) ((List.replicate (lq + 1) (qM mk)).flatten) := by
  rw [hW3, ← rep_succ]
  rw [hW1] at g'
  exact NewRow.mk' g' LD.size hbg2 (by decide)
 have CKNN2 := NewRow.step (j := 2) (KNN2.out.drew) (by rw [← hW0, ← hW1]; exact g') (by rw [← hW0, ← hW1]; exact hrow) (by decide) hbg2 (by decide)
 rw [← hW3] at CKNN2
 have CN4 := NewRow.step (j := 2) (N4.out.drew) (by rw [← hW0, ← hW1]; exact g') (by rw [← hW0, ← hW1]; exact hrow) (by decide) hbg2 (by decide)
 rw [← hW3] at CN4
 obtain ⟨f, hf0, hf1, hf2, hf3, hfp⟩ := Stg.coverE4 W0 W1 W2 W3
 have hcf : ∀ k o, (f k).cell? ⟨hb, o, none⟩ = (#[.slice ab lb cb, .slice ar lr cr, .slice aq lq cq, .slice ac lc cc, .int .i64 mk] : Array Value)[o]? :=
  hfp (fun x => ∀ o, x.cell? ⟨hb, o, none⟩ = (#[.slice ab lb cb, .slice ar lr cr, .slice aq lq cq, .slice ac lc cc, .int .i64 mk] : Array Value)[o]?) hcb (bc_ hbh1) (bc_ hbh2) (bc_ LN.boxh)
 have HU := hide (Stg.pick4_cover4 hf0 hf1 hf2 hf3)
 have hcg := bc_ hbg2
 have hfg := fz_ hbg2
 have HR := hide hrun
 have HW1 := hide hW1
 have HW3 := hide hW3
 have HLN := hide LN
 have HNN := hide NN
 have HKNN2 := hide CKNN2
 have HN4 := hide CN4
 clear hf0 hf1 hf2 hf3 hfp hcb LD hnew hrow hbh1 hbg1 hrun g' o' hbg2 hbh2 hW1 hW3 LN NN CKNN2 CN4
 refine Stg.wp_region_stage [11, 12, 15] (fun j w' => w' = Stg.pick4 W0 W1 W2 W3 j) (by kernel_rfl) (by kernel_rfl) hW0.symm ?_
 clear hW0
 refine Stg.lex_upto 11 4 (by decide) (by kernel_rfl) HU.out ?_
 simp only [List.take_succ_cons, List.take_zero, List.drop_succ_cons, List.drop_zero]
 repeat (first | go_big_quiet_step (fail) | quiet_step (fail))
 refine wpQuiet_nil ?_
 refine Stg.lex_move 0 (by kernel_rfl) (.slice (some ⟨W0.heap.size, 0, none⟩) 1 1) ?_ ?_
 ·intro w' hw'
  rw [show w' = W0 from hw', show Stg.pick4 W0 W1 W2 W3 (0 + 1) = W1 from rfl]
  clear hw' w'
  go_simp
  exact HW1.out.symm
 refine Stg.lex_move 1 (by kernel_rfl) (.slice a' (lq + 1) c') ?_ ?_
 ·intro w' hw'
  rw [show w' = W1 from hw', show Stg.pick4 W0 W1 W2 W3 (1 + 1) = W2 from rfl]
  clear hw' w'
  exact Stg.upon_append rfl rfl rfl HR.out rfl
 refine Stg.lex_upto 2 4 (by decide) (by kernel_rfl) HU.out ?_
 simp only [List.take_succ_cons, List.take_zero, List.drop_succ_cons, List.drop_zero]
 repeat (first | go_big_quiet_step (fail) | quiet_step (fail))
 refine wpQuiet_nil ?_
 refine Stg.lex_move 2 (by kernel_rfl) undef ?_ ?_
 ·intro w' hw'
  rw [show w' = W2 from hw', show Stg.pick4 W0 W1 W2 W3 (2 + 1) = W3 from rfl]
  clear hw' w'
  go_simp
  exact HW3.out.symm
 refine Stg.lex_nil ?_
 intro w' hw'
 rw [show w' = W3 from hw']
 clear hw' w'
 dsimp only [Act.put]
 clear hcf hcg hfg HU HR HW1 HW3
 obtain ⟨w5, rfl⟩ : ∃ x : World, x = W3 := ⟨_, rfl⟩
 obtain ⟨a5, rfl⟩ : ∃ x : Option Addr, x = a' := ⟨_, rfl⟩
 obtain ⟨c5, rfl⟩ : ∃ x : Nat, x = c' := ⟨_, rfl⟩
 have LL4 := HLN
 have N5 := HNN
 have KKNN2 := HKNN2
 have KN4 := HN4
 clear HLN HNN HKNN2 HN4
 go_wp2_with fail
 have hcb := bc_ LL4.out.drew.boxh
 obtain ⟨W0, hW0⟩ : ∃ W0 : World, W0 = { w5 with drawn := w5.drawn + 1 } := ⟨_, rfl⟩
 have LD := LL4.out.drew
 rw [← hW0] at LD hcb
 obtain ⟨W1, hW1⟩ : ∃ W1 : World, W1 = W0.alloc (.cells #[.string ⟨#[109, 97, 114, 107]⟩, .int .u16 0, .int .u16 0, .int .u32 mk, .string ⟨#[]⟩] 69) := ⟨_, rfl⟩
 have hnew := cells_new W0 #[.string ⟨#[109, 97, 114, 107]⟩, .int .u16 0, .int .u16 0, .int .u32 mk, .string ⟨#[]⟩] 69
 have hrow := LD.c.alloc (.cells #[.string ⟨#[109, 97, 114, 107]⟩, .int .u16 0, .int .u16 0, .int .u32 mk, .string ⟨#[]⟩] 69)
 have hbh1 := heap_old LD.boxh (.cells #[.string ⟨#[109, 97, 114, 107]⟩, .int .u16 0, .int .u16 0, .int .u32 mk, .string ⟨#[]⟩] 69)
 have hbg1 := heap_old LD.boxg (.cells #[.string ⟨#[109, 97, 114, 107]⟩, .int .u16 0, .int .u16 0, .int .u32 mk, .string ⟨#[]⟩] 69)
 rw [← hW1] at hnew hrow hbh1 hbg1
 obtain ⟨v', W2, hrun, g', o'⟩ := append_grew2 (P := Tryz.prog) W1 28 28 69 ic _ 5 40 uC ic0 ic1 ic2 ic3 rfl (by decide) (.slice ac lc cc) lc (List.replicate lc (cM mk)).flatten hrow ⟨W0.heap.size, 0, none⟩ 1 1 [.string ⟨#[109, 97, 114, 107]⟩, .int .u16 0, .int .u16 0, .int .u32 mk, .string ⟨#[]⟩] rfl hnew (one_c mk) (by unfold maxLen; omega) (by omega)
 obtain ⟨a', c', rfl⟩ := os_ g'.own
 have hbg2 := block_other g' hrow hbg1 (by decide)
 have hbh2 := block_other g' hrow hbh1 (by decide)
 obtain ⟨W3, hW3⟩ : ∃ W3 : World, W3 = W2.setCell ⟨w.heap.size, 3, none⟩ (.slice a' (lc + 1) c') := ⟨_, rfl⟩
 have LN : Lg w W3 hb w.heap.size (.slice ab lb cb) (.slice ar lr cr) (.slice aq lq cq) (.slice ac lc cc) mk lb lr lq lc (.slice a2 (lb + 1) c2) (.slice a4 (lr + 1) c4) (.slice a5 (lq + 1) c5) (.slice a' (lc + 1) c') := by
  rw [hW3]
  rw [hW1] at g'
  exact LD.stepC g' o'
 have NN : NewRow w W3 69 5 (.slice ac lc cc) (.slice a' (lc + 1) c') (lc + 1) ((List.replicate (lc + 1) (cM mk)).flatten) := by
  rw [hW3, ← rep_succ]
  rw [hW1] at g'
  exact NewRow.mk' g' LD.size hbg2 (by decide)
 have CKKNN2 := NewRow.step (j := 3) (KKNN2.out.drew) (by rw [← hW0, ← hW1]; exact g') (by rw [← hW0, ← hW1]; exact hrow) (by decide) hbg2 (by decide)
 rw [← hW3] at CKKNN2
 have CKN4 := NewRow.step (j := 3) (KN4.out.drew) (by rw [← hW0, ← hW1]; exact g') (by rw [← hW0, ← hW1]; exact hrow) (by decide) hbg2 (by decide)
 rw [← hW3] at CKN4
 have CN5 := NewRow.step (j := 3) (N5.out.drew) (by rw [← hW0, ← hW1]; exact g') (by rw [← hW0, ← hW1]; exact hrow) (by decide) hbg2 (by decide)
 rw [← hW3] at CN5
 obtain ⟨f, hf0, hf1, hf2, hf3, hfp⟩ := Stg.coverE4 W0 W1 W2 W3
 have hcf : ∀ k o, (f k).cell? ⟨hb, o, none⟩ = (#[.slice ab lb cb, .slice ar lr cr, .slice aq lq cq, .slice ac lc cc, .int .i64 mk] : Array Value)[o]? :=
  hfp (fun x => ∀ o, x.cell? ⟨hb, o, none⟩ = (#[.slice ab lb cb, .slice ar lr cr, .slice aq lq cq, .slice ac lc cc, .int .i64 mk] : Array Value)[o]?) hcb (bc_ hbh1) (bc_ hbh2) (bc_ LN.boxh)
 have HU := hide (Stg.pick4_cover4 hf0 hf1 hf2 hf3)
 have hcg := bc_ hbg2
 have hfg := fz_ hbg2
 have HR := hide hrun
 have HW1 := hide hW1
 have HW3 := hide hW3
 have HLN := hide LN
 have HNN := hide NN
 have HKKNN2 := hide CKKNN2
 have HKN4 := hide CKN4
 have HN5 := hide CN5
 clear hf0 hf1 hf2 hf3 hfp hcb LD hnew hrow hbh1 hbg1 hrun g' o' hbg2 hbh2 hW1 hW3 LN NN CKKNN2 CKN4 CN5
 refine Stg.wp_region_stage [11, 12, 15] (fun j w' => w' = Stg.pick4 W0 W1 W2 W3 j) (by kernel_rfl) (by kernel_rfl) hW0.symm ?_
 clear hW0
 refine Stg.lex_upto 11 4 (by decide) (by kernel_rfl) HU.out ?_
 simp only [List.take_succ_cons, List.take_zero, List.drop_succ_cons, List.drop_zero]
 repeat (first | go_big_quiet_step (fail) | quiet_step (fail))
 refine wpQuiet_nil ?_
 refine Stg.lex_move 0 (by kernel_rfl) (.slice (some ⟨W0.heap.size, 0, none⟩) 1 1) ?_ ?_
 ·intro w' hw'
  rw [show w' = W0 from hw', show Stg.pick4 W0 W1 W2 W3 (0 + 1) = W1 from rfl]
  clear hw' w'
  go_simp
  exact HW1.out.symm
 refine Stg.lex_move 1 (by kernel_rfl) (.slice a' (lc + 1) c') ?_ ?_
 ·intro w' hw'
  rw [show w' = W1 from hw', show Stg.pick4 W0 W1 W2 W3 (1 + 1) = W2 from rfl]
  clear hw' w'
  exact Stg.upon_append rfl rfl rfl HR.out rfl
 refine Stg.lex_upto 2 4 (by decide) (by kernel_rfl) HU.out ?_
 simp only [List.take_succ_cons, List.take_zero, List.drop_succ_cons, List.drop_zero]
 repeat (first | go_big_quiet_step (fail) | quiet_step (fail))
 refine wpQuiet_nil ?_
 refine Stg.lex_move 2 (by kernel_rfl) undef ?_ ?_
 ·intro w' hw'
  rw [show w' = W2 from hw', show Stg.pick4 W0 W1 W2 W3 (2 + 1) = W3 from rfl]
  clear hw' w'
  go_simp
  exact HW3.out.symm
 refine Stg.lex_nil ?_
 intro w' hw'
 rw [show w' = W3 from hw']
 clear hw' w'
 dsimp only [Act.put]
 clear hcf hcg hfg HU HR HW1 HW3
 obtain ⟨w6, rfl⟩ : ∃ x : World, x = W3 := ⟨_, rfl⟩
 obtain ⟨a6, rfl⟩ : ∃ x : Option Addr, x = a' := ⟨_, rfl⟩
 obtain ⟨c6, rfl⟩ : ∃ x : Nat, x = c' := ⟨_, rfl⟩
 have LL5 := HLN
 have N6 := HNN
 have KKKNN2 := HKKNN2
 have KKN4 := HKN4
 have KN5 := HN5
 clear HLN HNN HKKNN2 HKN4 HN5
 go_wp2_with fail
 go_ret
 exact ⟨_, _, _, _, _, rfl, LL5.out, KKKNN2.out, KKN4.out, KN5.out, N6.out⟩
end Go.Proofs.YtafoepfhepdcoaaGreat
