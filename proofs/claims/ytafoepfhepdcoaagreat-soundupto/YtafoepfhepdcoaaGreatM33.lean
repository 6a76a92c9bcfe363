import Derived.Test.YtafoepfhepdcoaaGreatM32
import Derived.Test.YtafoepfhepdcoaaGreatM29
import Derived.Test.YtafoepfhepdcoaaGreatM13
import Derived.Test.YtafoepfhepdcoaaGreatM30
import Derived.Deep.CutRange
set_option maxRecDepth 100000
set_option maxHeartbeats 8000000
namespace Go.Proofs.YtafoepfhepdcoaaGreat
open Go.RowKit Go.Trawl
attribute [local go_sem] Stg.upon
structure Ls (X : Nat) (wr : World) (sz : Nat) (v : Value) (es : List (List Value)) : Prop where
 li : Lies wr sz v es
 ne : es ≠ [] → ∀ b, v.ownBlock = some b → b ≠ X + 1 ∧ b ≠ X + 2
section
variable {X : Nat} {w wr W : World} {sz : Nat} {v : Value} {es : List (List Value)}
theorem Ls.next (h : Ls X wr sz v es) (hb : Below wr.heap.size wr W) : Ls X W sz v es := ⟨h.li.below hb, h.ne⟩
theorem Ls.put (h : Ls X wr sz v es) {r : Nat} (hG : wr.grownBy W (some r)) (hr : r = X + 1 ∨ r = X + 2) : Ls X W sz v es := by
 refine ⟨?_, h.ne⟩
 by_cases he : es = []
 ·subst he
  obtain ⟨a, c, e, hac, _⟩ := h.li
  exact ⟨a, c, e, hac, .inl rfl⟩
 ·refine h.li.keep hG.size fun b hb hlt => hG.block b hlt fun e => ?_
  have := h.ne he b hb
  have := Option.some.inj e
  omega
theorem Ls.old (h : Lies w sz v es) (hb : Below w.heap.size w wr) (hX : w.heap.size ≤ X) : Ls X wr sz v es := by
 refine ⟨h.below hb, fun hne b hbk => ?_⟩
 obtain ⟨a, c, rfl, _, h⟩ := h
 rcases h with h | ⟨b', off, rfl, hlt, _⟩
 ·exact absurd h hne
 ·have : b' = b := by simpa [Value.ownBlock] using hbk
  omega
theorem Ls.has {l : List Rc} {w0 : World} (h : HasAt w0 wr v l) (hX : X + 2 ≤ w0.heap.size) : Ls X wr 5 v (l.map Rc.cells) := by
 refine ⟨own_lies h.own (fun x hx => by obtain ⟨r, _, rfl⟩ := List.mem_map.1 hx; rfl) (by rw [List.length_map]), fun _ b hb => ?_⟩
 have := h.blk b hb
 omega
theorem Ls.new {b : Nat} {r : Rc} (h : wr.heap[b]? = some (.cells r.cells.toArray 69)) (hX : X + 2 < b) : Ls X wr 5 (.slice (some ⟨b, 0, none⟩) 1 1) ([r].map Rc.cells) := by
 refine ⟨lies_row h (by simp) (fun x hx => by simp at hx; subst hx; rfl) rfl, fun _ b' hb => ?_⟩
 have : b = b' := by simpa [Value.ownBlock] using hb
 omega
end
structure Sy (w wr : World) (t : Tr) (v : Value) (m : Msg) (vq va vu vx : Value) (n : ByteArray) (k : Int) : Prop where
 below : Below w.heap.size w wr
 names0 : NmAt w v
 tb : wr.heap[w.heap.size]? = some (.cells (trA t v) 49)
 box : wr.heap[w.heap.size + 1]? = some (.cells (msgCells m vq va vu vx) 30)
 res : wr.heap[w.heap.size + 2]? = some (.cells zM0 30)
 qb : wr.heap[w.heap.size + 3]? = some (.cells #[.string n, .int .u16 k, .int .u16 1] 41)
 q : Ls w.heap.size wr 3 vq (m.qs.map Qn.cells)
 a : Ls w.heap.size wr 5 va (m.an.map Rc.cells)
 u : Ls w.heap.size wr 5 vu (m.au.map Rc.cells)
 x : Ls w.heap.size wr 5 vx (m.ex.map Rc.cells)
section
variable {w wr W : World} {t : Tr} {v : Value} {m m' : Msg} {vq va vu vx va' vu' vx' : Value} {n : ByteArray} {k : Int}
theorem Sy.next (h : Sy w wr t v m vq va vu vx n k) (hb : Below wr.heap.size wr W) : Sy w W t v m vq va vu vx n k :=
 ⟨h.below.trans (hb.mono h.below.size), h.names0, (hb.block _ (heap_lt h.tb)).trans h.tb, (hb.block _ (heap_lt h.box)).trans h.box, (hb.block _ (heap_lt h.res)).trans h.res, (hb.block _ (heap_lt h.qb)).trans h.qb, h.q.next hb, h.a.next hb, h.u.next hb, h.x.next hb⟩
theorem Sy.tr (h : Sy w wr t v m vq va vu vx n k) : TrAt wr w.heap.size t v := ⟨h.tb, h.names0.below h.below⟩
theorem Sy.put (h : Sy w wr t v m vq va vu vx n k) {j : Nat} {y : Value} (e : (msgCells m vq va vu vx).setIfInBounds j y = msgCells m' vq va' vu' vx') (hq : m'.qs = m.qs) (ha : Ls w.heap.size wr 5 va' (m'.an.map Rc.cells)) (hu : Ls w.heap.size wr 5 vu' (m'.au.map Rc.cells)) (hx : Ls w.heap.size wr 5 vx' (m'.ex.map Rc.cells)) :
  Sy w (wr.setCell ⟨w.heap.size + 1, j, none⟩ y) t v m' vq va' vu' vx' n k := by
 have hG := grownBy_setCell wr (w.heap.size + 1) j y
 have hz := h.below.size
 refine ⟨h.below.trans (kb_put hG (by omega) hz), h.names0, (hG.block _ (heap_lt h.tb) (by simp)).trans h.tb, ?_, (hG.block _ (heap_lt h.res) (by simp)).trans h.res, (hG.block _ (heap_lt h.qb) (by simp)).trans h.qb, ?_, ha.put hG (.inl rfl), hu.put hG (.inl rfl), hx.put hG (.inl rfl)⟩
 ·rw [heap_setCell_eq h.box, e]
 ·rw [hq]; exact h.q.put hG (.inl rfl)
theorem Sy.fin (h : Sy w wr t v m vq va vu vx n k) (hG : wr.grownBy W (some (w.heap.size + 2))) : Below w.heap.size w W ∧ MsgAt W m vq va vu vx :=
 ⟨h.below.trans (kb_put hG (by omega) h.below.size), (h.q.put hG (.inr rfl)).li, (h.a.put hG (.inr rfl)).li, (h.u.put hG (.inr rfl)).li, (h.x.put hG (.inr rfl)).li⟩
end
theorem Sy.start {w : World} {t : Tr} {v : Value} {m : Msg} {vq va vu vx : Value} {n : ByteArray} {k : Int} (hv : NmAt w v) (hm : MsgAt w m vq va vu vx) :
  Sy w ((((w.alloc (.cells (trA t v) 49)).alloc (.cells (msgCells { m with resp := true } vq va vu vx) 30)).alloc (.cells zM0 30)).alloc (.cells #[.string n, .int .u16 k, .int .u16 1] 41)) t v { m with resp := true } vq va vu vx n k ∧ Below w.heap.size w (((w.alloc (.cells (trA t v) 49)).alloc (.cells (msgCells { m with resp := true } vq va vu vx) 30)).alloc (.cells zM0 30)) := by
 have b1 := (Below.refl w.heap.size w).alloc (Nat.le_refl _) (.cells (trA t v) 49)
 have h1 := heap_new w (.cells (trA t v) 49)
 have s1 := alloc_size w (.cells (trA t v) 49)
 generalize w.alloc (.cells (trA t v) 49) = W1 at b1 h1 s1 ⊢
 generalize hM : (Obj.cells (msgCells { m with resp := true } vq va vu vx) 30) = M
 have b2 := b1.alloc (by omega) M
 have h2 := heap_new W1 M
 have k2 := heap_old h1 M
 have s2 := alloc_size W1 M
 rw [s1] at h2 s2
 generalize W1.alloc M = W2 at b2 h2 s2 k2 ⊢
 generalize hZ : (Obj.cells zM0 30) = Z
 have b3 := b2.alloc (by omega) Z
 have h3 := heap_new W2 Z
 have k3 := heap_old k2 Z
 have l3 := heap_old h2 Z
 have s3 := alloc_size W2 Z
 rw [s2] at h3 s3
 generalize W2.alloc Z = W3 at b3 h3 s3 k3 l3 ⊢
 generalize hQ : (Obj.cells #[.string n, .int .u16 k, .int .u16 1] 41) = Q
 have b5 := b3.alloc (by omega) Q
 have h5 := heap_new W3 Q
 rw [s3] at h5
 refine ⟨?_, b3⟩
 refine ⟨b5, hv, heap_old k3 Q, by rw [heap_old l3 Q, hM], by rw [heap_old h3 Q, hZ], by rw [h5, hQ], Ls.old hm.q b5 (Nat.le_refl _), Ls.old hm.a b5 (Nat.le_refl _), Ls.old hm.u b5 (Nat.le_refl _), Ls.old hm.x b5 (Nat.le_refl _)⟩
theorem load_run {P : Program} (w : World) {o : Oper} {a : Act} (ty : TypeId) (x : Operand) (ho : o.op = .load ty x)
  (ad : Addr) (hx : a.eval x = .pointer (some ad)) (cs : Array Value) (d : TypeDesc) (hu : P.underlying ty = some d) (hd : (match d with | .struct _ | .array _ _ => true | _ => false) = true) (hi : (P.info? ty).map (·.size) = some cs.size)
  (hc : ∀ j v, cs.toList[j]? = some v → w.cell? (ad.add j) = some v) : (execOp a.eval o).run P w = .ok (.value (.agg cs)) w := by
 have hl := run_loadCells_list (P := P) w ad cs.toList hc
 have hr : (loadVar ty ad).run P w = .ok (.agg cs) w := by
  cases hq : P.info? ty with
  | none => simp [hq] at hi
  | some i =>
   have hs : i.size = cs.size := by simpa [hq] using hi
   have hagg : (isAgg ty).run P w = .ok true w := by
    unfold isAgg
    rw [Sem.run_bind, run_underlying hu w]
    cases d <;> simp_all
   simp only [Array.length_toList, Array.toArray_toList] at hl
   simp [loadVar, Sem.run_bind, hagg, sizeOf, typeInfo, hq, hs, hl]
 unfold execOp
 simp only [ho, hx, Instr.loadAt, Instr.sureAddr, Sem.run_bind, Sem.run_pure, Result.andThen_ok, hr]
theorem kServer_eq (w : World) (t : Tr) (v : Value) (i : Nat) (ht : TrOk t) (hi : i < 12) (hv : NmAt w v) :
  Calls Tryz.prog 39 #[.agg (trA t v), .int .i64 i] w fun e w' => e = .returned (.string (srv i)) ∧ w' = w.alloc (.cells (trA t v) 49) := by
 have HT1 := hide (TrAt.start (t := t) hv)
 have hn48 : (w.alloc (.cells (trA t v) 49)).cell? ⟨w.heap.size, 48, none⟩ = some v := (box_cells HT1.out.box 48).trans (tr_names ht v)
 obtain ⟨g, c, rfl, hg, hgc⟩ := HT1.out.names.is
 have hgi := hgc i hi
 have l2 := nm_size i
 have hcat : (⟨#[1, 110]⟩ : ByteArray) ++ nm i = srv i := str_append [1, 110] (nmL.getD i [])
 have hs2 : (⟨#[1, 110]⟩ : ByteArray).size = 2 := rfl
 clear hgc
 go_enter Tryz.func39, Tryz.ntmps39
 go_wp2_with fail
 go_ret
 exact ⟨rfl, rfl⟩
theorem kSays_any (w : World) (t : Tr) (v : Value) (server : Nat) (m : Msg) (vq va vu vx : Value) (n : ByteArray) (k : Int) (ht : TrOk t) (hv : NmAt w v) (hs : server < 12) (hq : m.qs = [⟨n, k, 1⟩]) (hm : MsgAt w m vq va vu vx) (hn : n.size ≤ 1000) :
  Calls Tryz.prog 22 #[.agg (trA t v), .int .i64 server, .agg (msgCells m vq va vu vx)] w fun e w' => ∃ va' vu' vx', e = .returned (.agg (msgCells (sayM t server m n k) vq va' vu' vx')) ∧ Hid (Below w.heap.size w w' ∧ MsgAt w' (sayM t server m n k) vq va' vu' vx') := by
 have HT := hide ht
 obtain ⟨g, c, rfl, -, -⟩ := hv.is
 have hst := Sy.start (t := t) (n := n) (k := k) hv hm
 have HS0 := hide hst.1
 have hmq := hm.q
 rw [hq] at hmq
 obtain ⟨aq, cq, rfl, -, -⟩ := (show Lies w 3 vq ([⟨n, k, 1⟩].map Qn.cells) from hmq)
 obtain ⟨bq, oq, rfl, q0, q1, q2⟩ := q_one hmq
 obtain ⟨aa, ca, rfl, -, -⟩ := (show Lies w 5 va (m.an.map Rc.cells) from hm.a)
 obtain ⟨au, cu, rfl, -, -⟩ := (show Lies w 5 vu (m.au.map Rc.cells) from hm.u)
 obtain ⟨ax, cx, rfl, -, -⟩ := (show Lies w 5 vx (m.ex.map Rc.cells) from hm.x)
 simp only [List.length_map, List.length_singleton] at *
 have hbq : bq < w.heap.size := cellk_lt q0
 have hk4 := hst.2.block bq hbq
 have q0' := cell_of_heap hk4 q0
 have q1' := cell_of_heap hk4 q1
 have q2' := cell_of_heap hk4 q2
 clear hst hmq hm hq q0 q1 q2 hk4 ht hv
 unfold msgCells at HS0 q0' q1' q2'
 unfold zM0 at HS0 q0' q1' q2'
 unfold msgCells
 go_enter Tryz.func22, Tryz.ntmps22
 go_upto_region 3 with fail
 generalize World.alloc _ _ = W4 at HS0 ⊢
 clear q0' q1' q2'
 have hcq : W4.cell? ⟨w.heap.size + 1 + 1 + 1, 0, none⟩ = some (.string n) := box_cells HS0.out.qb 0
 go_upto_region 4 with (refine wpList_load_cells _ rfl 49 _ rfl ⟨w.heap.size, 0, none⟩ rfl (trA t (.slice (some ⟨g, 0, none⟩) 12 c)) _ undTr rfl (trI' HT.out _) HS0.out.tr.all ?_)
 refine (kDeep_any W4 t _ n server HT.out HS0.out.tr.names hn hs).mono ?_
 rintro e w5 ⟨rfl, H5⟩
 have HS5 := hide (HS0.out.next H5.out)
 clear H5 HS0 hcq
 cases hd : deepN t n server with
 | none =>
  have HSAY : Hid (sayM t server m n k = { m with resp := true, code := 5 }) := by unfold Hid sayM; rw [hd]
  clear hd
  unfold optI
  have hfx := frozen_of_block HS5.out.box
  have hcx := box_cells HS5.out.box
  simp only [msgCells] at hcx
  go_upto_region 6 with fail
  have HS6 := hide (HS5.out.put (j := 7) (y := .int .i64 5) (m' := { m with resp := true, code := 5 }) rfl rfl HS5.out.a HS5.out.u HS5.out.x)
  clear hcx hfx HS5
  generalize World.setCell w5 _ _ = W6 at HS6 ⊢
  have hcz : ∀ j, World.cell? W6 ⟨w.heap.size + 1 + 1, j, none⟩ = zM0[j]? := box_cells HS6.out.res
  have hfz := frozen_of_block (show W6.heap[w.heap.size + 1 + 1]? = _ from HS6.out.res)
  have hcb := box_cells HS6.out.box
  simp only [zM0] at hcz
  simp only [msgCells] at hcb
  go_wp2_with fail
  clear hcz hfz hcb
  refine bodyPost_ret (results_cell_row rfl _ _ (w.heap.size + 2) _ _ _ _ rfl (put12_box (.int .u16 m.id) (.bool true) (.int .i64 m.op) (.bool m.own) (.bool m.cut) (.bool m.wanted) (.bool m.able) (.int .i64 5) (.slice (some ⟨bq, oq, none⟩) 1 cq) (.slice aa m.an.length ca) (.slice au m.au.length cu) (.slice ax m.ex.length cx) HS6.out.res) undMsg rfl (by kernel_rfl)) rfl ?_
  have HF := HS6.out.fin (put12_grown W6 (w.heap.size + 2) (.int .u16 m.id) (.bool true) (.int .i64 m.op) (.bool m.own) (.bool m.cut) (.bool m.wanted) (.bool m.able) (.int .i64 5) (.slice (some ⟨bq, oq, none⟩) 1 cq) (.slice aa m.an.length ca) (.slice au m.au.length cu) (.slice ax m.ex.length cx))
  exact ⟨_, _, _, by rw [HSAY.out], by rw [HSAY.out]; exact HF⟩
 | some z =>
  have hz12 := deep_lt t n server 12 (Nat.le_refl _) z hd
  unfold optI
  have hz0 : decide ((z : Int) < 0) = false := by simp
  have hcq : w5.cell? ⟨w.heap.size + 1 + 1 + 1, 0, none⟩ = some (.string n) := box_cells HS5.out.qb 0
  go_upto_region 8 with (refine wpList_load_cells _ rfl 49 _ rfl ⟨w.heap.size, 0, none⟩ rfl (trA t (.slice (some ⟨g, 0, none⟩) 12 c)) _ undTr rfl (trI' HT.out _) HS5.out.tr.all ?_)
  refine (kBelow_any w5 t _ n z HT.out HS5.out.tr.names hn hz12).mono ?_
  rintro e w6 ⟨rfl, H6⟩
  have HS6 := hide (HS5.out.next H6.out)
  clear H6 HS5 hcq
  cases hb : belN t n z with
  | some d =>
   have hd12 := bel_lt t n z 12 (Nat.le_refl _) d hb
   have HSAY : Hid (sayM t server m n k = { m with resp := true, au := [⟨nm d, 2, 1, 9, srv (hostN t d)⟩], ex := if hostN t d = d then [⟨srv (hostN t d), 1, 1, 9, adrB (hostN t d)⟩] else m.ex }) := by unfold Hid sayM; rw [hd]; dsimp only; rw [hb]
   clear hd hb
   unfold optI
   have hd0 : decide ((0 : Int) ≤ (d : Int)) = true := by simp
   go_upto_region 10 with (refine wpList_load_cells _ rfl 49 _ rfl ⟨w.heap.size, 0, none⟩ rfl (trA t (.slice (some ⟨g, 0, none⟩) 12 c)) _ undTr rfl (trI' HT.out _) HS6.out.tr.all ?_)
   refine (kHost_any w6 t _ d HT.out hd12 HS6.out.tr.names).mono ?_
   rintro e w7 ⟨rfl, H7⟩
   have HS7 := hide (HS6.out.next H7.out)
   clear H7 HS6
   have hh12 := host_lt t hd12
   generalize hostN t d = h at HSAY hh12 ⊢
   have hn48 : w7.cell? ⟨w.heap.size, 48, none⟩ = some (.slice (some ⟨g, 0, none⟩) 12 c) := (box_cells HS7.out.tb 48).trans (tr_names HT.out _)
   have hgd : w7.cell? ⟨g, d, none⟩ = some (.string (nm d)) := by
    obtain ⟨g', c', e', _, hgc⟩ := HS7.out.tr.names.is
    cases e'
    exact hgc d hd12
   obtain ⟨W0, hW0⟩ : ∃ x : World, x = w7.drew := ⟨_, rfl⟩
   have hb0 : Below w7.heap.size w7 W0 := by rw [hW0]; exact below_drewN (Below.refl _ _) 1
   obtain ⟨W1, hW1⟩ : ∃ x : World, x = W0.alloc (.cells (trA t (.slice (some ⟨g, 0, none⟩) 12 c)) 49) := ⟨_, rfl⟩
   have hb1 : Below w7.heap.size w7 W1 := by rw [hW1]; exact hb0.alloc hb0.size _
   obtain ⟨W2, hW2⟩ : ∃ x : World, x = W1.alloc (.cells #[.string (nm d), .int .u16 2, .int .u16 1, .int .u32 9, .string (srv h)] 69) := ⟨_, rfl⟩
   have hb2 : Below w7.heap.size w7 W2 := by rw [hW2]; exact hb1.alloc hb1.size _
   have HS2 := hide (HS7.out.next hb2)
   have hz1 : w.heap.size + 3 < W1.heap.size := Nat.lt_of_lt_of_le (heap_lt HS7.out.qb) hb1.size
   have HS3 := hide (HS2.out.put (j := 10) (y := .slice (some ⟨W1.heap.size, 0, none⟩) 1 1) (m' := { m with resp := true, au := [⟨nm d, 2, 1, 9, srv h⟩] }) rfl rfl HS2.out.a (Ls.new (r := ⟨nm d, 2, 1, 9, srv h⟩) (by rw [hW2]; exact heap_new W1 _) (by omega)) HS2.out.x)
   obtain ⟨W3, hW3⟩ : ∃ x : World, x = W2.setCell ⟨w.heap.size + 1, 10, none⟩ (.slice (some ⟨W1.heap.size, 0, none⟩) 1 1) := ⟨_, rfl⟩
   rw [← hW3] at HS3
   have hfx := frozen_of_block HS2.out.box
   have hcx : W2.cell? ⟨w.heap.size + 1, 10, none⟩ = some (.slice au m.au.length cu) := box_cells HS2.out.box 10
   have HCELL : Hid (∀ j w', w' = pkW W0 W1 W2 W3 1 3 4 j → w'.cell? ⟨w.heap.size, 48, none⟩ = some (.slice (some ⟨g, 0, none⟩) 12 c) ∧ w'.cell? ⟨g, d, none⟩ = some (.string (nm d)) ∧ (∀ j u, (trA t (.slice (some ⟨g, 0, none⟩) 12 c)).toList[j]? = some u → w'.cell? ((⟨w.heap.size, 0, none⟩ : Addr).add j) = some u)) := by
    have key : ∀ {w' : World} {m' : Msg} {va' vu' vx' : Value}, Sy w w' t (.slice (some ⟨g, 0, none⟩) 12 c) m' (.slice (some ⟨bq, oq, none⟩) 1 cq) va' vu' vx' n k → w'.cell? ⟨w.heap.size, 48, none⟩ = some (.slice (some ⟨g, 0, none⟩) 12 c) ∧ w'.cell? ⟨g, d, none⟩ = some (.string (nm d)) ∧ (∀ j u, (trA t (.slice (some ⟨g, 0, none⟩) 12 c)).toList[j]? = some u → w'.cell? ((⟨w.heap.size, 0, none⟩ : Addr).add j) = some u) := fun hS => by
     refine ⟨(box_cells hS.tb 48).trans (tr_names HT.out _), ?_, hS.tr.all⟩
     obtain ⟨g', c', e', _, hgc⟩ := hS.tr.names.is
     cases e'
     exact hgc d hd12
    rintro j w' rfl
    unfold pkW
    split
    ·exact key (HS7.out.next hb0)
    ·split
     ·exact key (HS7.out.next hb1)
     ·split
      ·exact key HS2.out
      ·exact key HS3.out
   have hb12 : ¬ (12 : Int) ≤ (d : Int) := by omega
   have HSRV := hide (kServer_eq W0 t (.slice (some ⟨g, 0, none⟩) 12 c) h HT.out hh12 (HS7.out.next hb0).tr.names)
   rw [← hW1] at HSRV
   have HW2 := hide hW2
   have HW3 := hide hW3
   clear hn48 hgd hb0 hb1 hb2 hW1 hW2 hW3 HS2 HS7
   go_upto_region 10 with fail
   refine Stg.wp_region_stage [7, 8, 9, 11] (fun j w' => w' = pkW W0 W1 W2 W3 1 3 4 j) (by kernel_rfl) (by kernel_rfl) hW0.symm ?_
   clear hW0
   refine lex_at (by kernel_rfl) (.pointer (some ⟨w.heap.size, 48, none⟩)) (fun j w' hw' => by obtain ⟨k1, k2, -⟩ := HCELL.out j w' hw'; clear hw'; go_simp) ?_
   refine lex_at (by kernel_rfl) (.slice (some ⟨g, 0, none⟩) 12 c) (fun j w' hw' => by obtain ⟨k1, k2, -⟩ := HCELL.out j w' hw'; clear hw'; go_simp) ?_
   refine lex_at (by kernel_rfl) (.int .i64 d) (fun j w' hw' => by obtain ⟨k1, k2, -⟩ := HCELL.out j w' hw'; clear hw'; go_simp) ?_
   refine lex_at (by kernel_rfl) (.pointer (some ⟨g, d, none⟩)) (fun j w' hw' => by obtain ⟨k1, k2, -⟩ := HCELL.out j w' hw'; clear hw'; go_simp) ?_
   refine lex_at (by kernel_rfl) (.string (nm d)) (fun j w' hw' => by obtain ⟨k1, k2, -⟩ := HCELL.out j w' hw'; clear hw'; go_simp) ?_
   refine lex_at (by kernel_rfl) (.agg (trA t (.slice (some ⟨g, 0, none⟩) 12 c))) (fun j w' hw' => load_run w' 49 _ rfl ⟨w.heap.size, 0, none⟩ rfl _ _ undTr rfl (trI' HT.out _) (HCELL.out j w' hw').2.2) ?_
   refine lex_at (by kernel_rfl) (.int .i64 h) (fun j w' hw' => by obtain ⟨k1, k2, -⟩ := HCELL.out j w' hw'; clear hw'; go_simp) ?_
   refine Stg.lex_move 0 (by kernel_rfl) (.string (srv h)) ?_ ?_
   ·intro w' hw'
    rw [show w' = W0 from hw', show pkW W0 W1 W2 W3 1 3 4 (0 + 1) = W1 from rfl]
    clear hw' w'
    have hk := HSRV.out
    go_simp
    try (refine hk.mono ?_; rintro e w12 ⟨h1, h2⟩; exact ⟨h1, h2⟩)
   refine Stg.lex_move 1 (by kernel_rfl) (.agg #[.string (nm d), .int .u16 2, .int .u16 1, .int .u32 9, .string (srv h)]) ?_ ?_
   ·intro w' hw'
    rw [show w' = W1 from hw', show pkW W0 W1 W2 W3 1 3 4 (1 + 1) = W1 from rfl]
    clear hw' w'
    go_simp
   refine Stg.lex_move 2 (by kernel_rfl) (.slice (some ⟨W1.heap.size, 0, none⟩) 1 1) ?_ ?_
   ·intro w' hw'
    rw [show w' = W1 from hw', show pkW W0 W1 W2 W3 1 3 4 (2 + 1) = W2 from rfl]
    clear hw' w'
    go_simp
    exact HW2.out.symm
   refine lex_at (by kernel_rfl) (.pointer (some ⟨w.heap.size + 1, 10, none⟩)) (fun j w' hw' => by clear hw'; go_simp) ?_
   refine Stg.lex_move 3 (by kernel_rfl) undef ?_ ?_
   ·intro w' hw'
    rw [show w' = W2 from hw', show pkW W0 W1 W2 W3 1 3 4 (3 + 1) = W3 from rfl]
    clear hw' w'
    go_simp
    exact HW3.out.symm
   refine Stg.lex_nil ?_
   intro w' hw'
   rw [show w' = W3 from hw']
   clear hw' w' HCELL HSRV HW2 HW3 hfx hcx
   dsimp only [Act.put]
   by_cases hhd : h = d
   ·subst hhd
    rw [if_pos rfl] at HSAY
    go_upto_region 13 with (refine wpList_load_cells _ rfl 49 _ rfl ⟨w.heap.size, 0, none⟩ rfl (trA t (.slice (some ⟨g, 0, none⟩) 12 c)) _ undTr rfl (trI' HT.out _) HS3.out.tr.all ?_)
    refine (kServer_any W3 t _ h HT.out hh12 HS3.out.tr.names).mono ?_
    rintro e w8 ⟨rfl, H8⟩
    have HS8 := hide (HS3.out.next H8.out)
    clear H8 HS3
    go_upto_region 13 with fail
    refine (kAddress_any w8 h hh12).mono ?_
    rintro e w9 ⟨rfl, H9⟩
    have HS9 := hide ((HS8.out.next H9.out).next ((Below.refl w9.heap.size w9).alloc (Nat.le_refl _) (.cells #[.string (srv h), .int .u16 1, .int .u16 1, .int .u32 9, .string (adrB h)] 69)))
    have hz9 : w.heap.size + 3 < w9.heap.size := heap_lt (HS8.out.next H9.out).qb
    have HS10 := hide (HS9.out.put (j := 11) (y := .slice (some ⟨w9.heap.size, 0, none⟩) 1 1) (m' := { m with resp := true, au := [⟨nm h, 2, 1, 9, srv h⟩], ex := [⟨srv h, 1, 1, 9, adrB h⟩] }) rfl rfl HS9.out.a HS9.out.u (Ls.new (r := ⟨srv h, 1, 1, 9, adrB h⟩) (heap_new w9 _) (by omega)))
    have hfx := frozen_of_block HS9.out.box
    have hcx : World.cell? _ ⟨w.heap.size + 1, 11, none⟩ = some (.slice ax m.ex.length cx) := box_cells HS9.out.box 11
    clear H9 HS8 HS9
    go_upto_region 13 with fail
    clear hcx hfx
    generalize World.setCell (World.alloc w9 _) _ _ = W10 at HS10 ⊢
    have hcz : ∀ j, World.cell? W10 ⟨w.heap.size + 1 + 1, j, none⟩ = zM0[j]? := box_cells HS10.out.res
    have hfz := frozen_of_block (show W10.heap[w.heap.size + 1 + 1]? = _ from HS10.out.res)
    have hcb := box_cells HS10.out.box
    simp only [zM0] at hcz
    simp only [msgCells] at hcb
    go_wp2_with fail
    clear hcz hfz hcb
    refine bodyPost_ret (results_cell_row rfl _ _ (w.heap.size + 2) _ _ _ _ rfl (put12_box (.int .u16 m.id) (.bool true) (.int .i64 m.op) (.bool m.own) (.bool m.cut) (.bool m.wanted) (.bool m.able) (.int .i64 m.code) (.slice (some ⟨bq, oq, none⟩) 1 cq) (.slice aa m.an.length ca) (.slice (some ⟨W1.heap.size, 0, none⟩) 1 1) (.slice (some ⟨w9.heap.size, 0, none⟩) 1 1) HS10.out.res) undMsg rfl (by kernel_rfl)) rfl ?_
    have HF := HS10.out.fin (put12_grown W10 (w.heap.size + 2) (.int .u16 m.id) (.bool true) (.int .i64 m.op) (.bool m.own) (.bool m.cut) (.bool m.wanted) (.bool m.able) (.int .i64 m.code) (.slice (some ⟨bq, oq, none⟩) 1 cq) (.slice aa m.an.length ca) (.slice (some ⟨W1.heap.size, 0, none⟩) 1 1) (.slice (some ⟨w9.heap.size, 0, none⟩) 1 1))
    exact ⟨_, _, _, by rw [HSAY.out], by rw [HSAY.out]; exact HF⟩
   ·rw [if_neg hhd] at HSAY
    have hhd' : ((h : Int) == (d : Int)) = false := by simp; omega
    have hcz : ∀ j, World.cell? W3 ⟨w.heap.size + 1 + 1, j, none⟩ = zM0[j]? := box_cells HS3.out.res
    have hfz := frozen_of_block (show W3.heap[w.heap.size + 1 + 1]? = _ from HS3.out.res)
    have hcb := box_cells HS3.out.box
    simp only [zM0] at hcz
    simp only [msgCells] at hcb
    go_wp2_with fail
    clear hcz hfz hcb
    refine bodyPost_ret (results_cell_row rfl _ _ (w.heap.size + 2) _ _ _ _ rfl (put12_box (.int .u16 m.id) (.bool true) (.int .i64 m.op) (.bool m.own) (.bool m.cut) (.bool m.wanted) (.bool m.able) (.int .i64 m.code) (.slice (some ⟨bq, oq, none⟩) 1 cq) (.slice aa m.an.length ca) (.slice (some ⟨W1.heap.size, 0, none⟩) 1 1) (.slice ax m.ex.length cx) HS3.out.res) undMsg rfl (by kernel_rfl)) rfl ?_
    have HF := HS3.out.fin (put12_grown W3 (w.heap.size + 2) (.int .u16 m.id) (.bool true) (.int .i64 m.op) (.bool m.own) (.bool m.cut) (.bool m.wanted) (.bool m.able) (.int .i64 m.code) (.slice (some ⟨bq, oq, none⟩) 1 cq) (.slice aa m.an.length ca) (.slice (some ⟨W1.heap.size, 0, none⟩) 1 1) (.slice ax m.ex.length cx))
    exact ⟨_, _, _, by rw [HSAY.out], by rw [HSAY.out]; exact HF⟩
  | none =>
   have HSAY : Hid (sayM t server m n k = { m with resp := true, own := true, an := anL t n k, code := if anL t n k = [] ∧ thereB t n = false then 3 else m.code }) := by unfold Hid sayM; rw [hd]; dsimp only; rw [hb]
   have HAN1 : Hid (hasL t n k = [] → anL t n k = hasL t n 5) := fun e => by unfold anL; rw [if_pos e]
   have HAN2 : Hid (¬ hasL t n k = [] → anL t n k = hasL t n k) := fun e => by unfold anL; rw [if_neg e]
   generalize anL t n k = AN at HSAY HAN1 HAN2
   clear hd hb
   unfold optI
   have hfx := frozen_of_block HS6.out.box
   have hcx : w6.cell? ⟨w.heap.size + 1, 3, none⟩ = some (.bool m.own) := box_cells HS6.out.box 3
   go_upto_region 15 with fail
   have HS7 := hide (HS6.out.put (j := 3) (y := .bool true) (m' := { m with resp := true, own := true }) rfl rfl HS6.out.a HS6.out.u HS6.out.x)
   clear hcx hfx HS6
   generalize World.setCell w6 _ _ = W7 at HS7 ⊢
   have hq0 : W7.cell? ⟨w.heap.size + 1 + 1 + 1, 0, none⟩ = some (.string n) := box_cells HS7.out.qb 0
   have hq1 : W7.cell? ⟨w.heap.size + 1 + 1 + 1, 1, none⟩ = some (.int .u16 k) := box_cells HS7.out.qb 1
   go_upto_region 16 with (refine wpList_load_cells _ rfl 49 _ rfl ⟨w.heap.size, 0, none⟩ rfl (trA t (.slice (some ⟨g, 0, none⟩) 12 c)) _ undTr rfl (trI' HT.out _) HS7.out.tr.all ?_)
   have hkh := kHas_any W7 t (.slice (some ⟨g, 0, none⟩) 12 c) n k HT.out HS7.out.tr.names hn
   generalize hasL t n k = AK at hkh HAN1 HAN2
   refine hkh.mono ?_
   clear hkh
   rintro e w8 ⟨v8, rfl, H8⟩
   obtain ⟨a8, c8, rfl⟩ := own_slice H8.out.2.own
   have hz7 : w.heap.size + 2 ≤ W7.heap.size := by have := heap_lt HS7.out.qb; omega
   have HS8 := hide (HS7.out.next H8.out.1)
   have HS9 := hide (HS8.out.put (j := 9) (y := .slice a8 AK.length c8) (m' := { m with resp := true, own := true, an := AK }) rfl rfl (Ls.has H8.out.2 hz7) HS8.out.u HS8.out.x)
   have hfx := frozen_of_block HS8.out.box
   have hcx : w8.cell? ⟨w.heap.size + 1, 9, none⟩ = some (.slice aa m.an.length ca) := box_cells HS8.out.box 9
   clear H8 HS8 HS7 hq0 hq1 hz7
   go_upto_region 16 with fail
   clear hcx hfx
   generalize World.setCell w8 _ _ = W9 at HS9 ⊢
   by_cases hne : AK = []
   ·have hl0 : AK.length = 0 := by rw [hne]; rfl
    rw [HAN1.out hne] at HSAY
    clear HAN1 HAN2
    have hc9 : W9.cell? ⟨w.heap.size + 1, 9, none⟩ = some (.slice a8 0 c8) := by rw [← hl0]; exact box_cells HS9.out.box 9
    have hq0 : W9.cell? ⟨w.heap.size + 1 + 1 + 1, 0, none⟩ = some (.string n) := box_cells HS9.out.qb 0
    clear hne hl0
    go_upto_region 18 with (refine wpList_load_cells _ rfl 49 _ rfl ⟨w.heap.size, 0, none⟩ rfl (trA t (.slice (some ⟨g, 0, none⟩) 12 c)) _ undTr rfl (trI' HT.out _) HS9.out.tr.all ?_)
    have hkh := kHas_any W9 t (.slice (some ⟨g, 0, none⟩) 12 c) n 5 HT.out HS9.out.tr.names hn
    generalize hasL t n 5 = A5 at hkh HSAY
    refine hkh.mono ?_
    clear hkh
    rintro e w10 ⟨v10, rfl, H10⟩
    obtain ⟨a10, c10, rfl⟩ := own_slice H10.out.2.own
    have hz9 : w.heap.size + 2 ≤ W9.heap.size := by have := heap_lt HS9.out.qb; omega
    have HS10 := hide (HS9.out.next H10.out.1)
    have HS11 := hide (HS10.out.put (j := 9) (y := .slice a10 A5.length c10) (m' := { m with resp := true, own := true, an := A5 }) rfl rfl (Ls.has H10.out.2 hz9) HS10.out.u HS10.out.x)
    have hfx := frozen_of_block HS10.out.box
    have hcx : w10.cell? ⟨w.heap.size + 1, 9, none⟩ = some (.slice a8 AK.length c8) := box_cells HS10.out.box 9
    clear H10 HS10 HS9 hq0 hz9 hc9
    go_upto_region 18 with fail
    clear hcx hfx
    generalize World.setCell w10 _ _ = W11 at HS11 ⊢
    have hq0 : W11.cell? ⟨w.heap.size + 1 + 1 + 1, 0, none⟩ = some (.string n) := box_cells HS11.out.qb 0
    go_upto_region 19 with (refine wpList_load_cells _ rfl 49 _ rfl ⟨w.heap.size, 0, none⟩ rfl (trA t (.slice (some ⟨g, 0, none⟩) 12 c)) _ undTr rfl (trI' HT.out _) HS11.out.tr.all ?_)
    refine (kThere_any W11 t _ n HT.out HS11.out.tr.names hn).mono ?_
    rintro e w12 ⟨rfl, H12⟩
    have HS12 := hide (HS11.out.next H12.out)
    clear H12 HS11 hq0
    by_cases hne : A5 = []
    ·have hl0 : A5.length = 0 := by rw [hne]; rfl
     have hc9 : w12.cell? ⟨w.heap.size + 1, 9, none⟩ = some (.slice a10 0 c10) := by rw [← hl0]; exact box_cells HS12.out.box 9
     cases hth : thereB t n with
     | true =>
      rw [hth, if_neg (fun e => by cases e.2)] at HSAY
      clear hne hl0 hth
      go_upto_region 21 with fail
      clear hc9
      have hcz : ∀ j, World.cell? w12 ⟨w.heap.size + 1 + 1, j, none⟩ = zM0[j]? := box_cells HS12.out.res
      have hfz := frozen_of_block (show w12.heap[w.heap.size + 1 + 1]? = _ from HS12.out.res)
      have hcb := box_cells HS12.out.box
      simp only [zM0] at hcz
      simp only [msgCells] at hcb
      go_wp2_with fail
      clear hcz hfz hcb
      refine bodyPost_ret (results_cell_row rfl _ _ (w.heap.size + 2) _ _ _ _ rfl (put12_box (.int .u16 m.id) (.bool true) (.int .i64 m.op) (.bool true) (.bool m.cut) (.bool m.wanted) (.bool m.able) (.int .i64 m.code) (.slice (some ⟨bq, oq, none⟩) 1 cq) (.slice a10 A5.length c10) (.slice au m.au.length cu) (.slice ax m.ex.length cx) HS12.out.res) undMsg rfl (by kernel_rfl)) rfl ?_
      have HF := HS12.out.fin (put12_grown w12 (w.heap.size + 2) (.int .u16 m.id) (.bool true) (.int .i64 m.op) (.bool true) (.bool m.cut) (.bool m.wanted) (.bool m.able) (.int .i64 m.code) (.slice (some ⟨bq, oq, none⟩) 1 cq) (.slice a10 A5.length c10) (.slice au m.au.length cu) (.slice ax m.ex.length cx))
      exact ⟨_, _, _, by rw [HSAY.out], by rw [HSAY.out]; exact HF⟩
     | false =>
      rw [hth, if_pos ⟨hne, rfl⟩] at HSAY
      clear hne hl0 hth
      have HS13 := hide (HS12.out.put (j := 7) (y := .int .i64 3) (m' := { m with resp := true, own := true, an := A5, code := 3 }) rfl rfl HS12.out.a HS12.out.u HS12.out.x)
      have hfx := frozen_of_block HS12.out.box
      have hcx : w12.cell? ⟨w.heap.size + 1, 7, none⟩ = some (.int .i64 m.code) := box_cells HS12.out.box 7
      clear HS12
      go_upto_region 21 with fail
      clear hcx hfx hc9
      generalize World.setCell w12 _ _ = W13 at HS13 ⊢
      have hcz : ∀ j, World.cell? W13 ⟨w.heap.size + 1 + 1, j, none⟩ = zM0[j]? := box_cells HS13.out.res
      have hfz := frozen_of_block (show W13.heap[w.heap.size + 1 + 1]? = _ from HS13.out.res)
      have hcb := box_cells HS13.out.box
      simp only [zM0] at hcz
      simp only [msgCells] at hcb
      go_wp2_with fail
      clear hcz hfz hcb
      refine bodyPost_ret (results_cell_row rfl _ _ (w.heap.size + 2) _ _ _ _ rfl (put12_box (.int .u16 m.id) (.bool true) (.int .i64 m.op) (.bool true) (.bool m.cut) (.bool m.wanted) (.bool m.able) (.int .i64 3) (.slice (some ⟨bq, oq, none⟩) 1 cq) (.slice a10 A5.length c10) (.slice au m.au.length cu) (.slice ax m.ex.length cx) HS13.out.res) undMsg rfl (by kernel_rfl)) rfl ?_
      have HF := HS13.out.fin (put12_grown W13 (w.heap.size + 2) (.int .u16 m.id) (.bool true) (.int .i64 m.op) (.bool true) (.bool m.cut) (.bool m.wanted) (.bool m.able) (.int .i64 3) (.slice (some ⟨bq, oq, none⟩) 1 cq) (.slice a10 A5.length c10) (.slice au m.au.length cu) (.slice ax m.ex.length cx))
      exact ⟨_, _, _, by rw [HSAY.out], by rw [HSAY.out]; exact HF⟩
    ·skip
     have hln : ¬ A5.length = 0 := fun e => hne (List.eq_nil_of_length_eq_zero e)
     have hln' : ((A5.length : Int) == 0) = false := by simp; exact hne
     rw [if_neg (fun e => hne e.1)] at HSAY
     have hc9 : w12.cell? ⟨w.heap.size + 1, 9, none⟩ = some (.slice a10 A5.length c10) := box_cells HS12.out.box 9
     go_upto_region 21 with fail
     clear hc9
     have hcz : ∀ j, World.cell? w12 ⟨w.heap.size + 1 + 1, j, none⟩ = zM0[j]? := box_cells HS12.out.res
     have hfz := frozen_of_block (show w12.heap[w.heap.size + 1 + 1]? = _ from HS12.out.res)
     have hcb := box_cells HS12.out.box
     simp only [zM0] at hcz
     simp only [msgCells] at hcb
     go_wp2_with fail
     clear hcz hfz hcb
     refine bodyPost_ret (results_cell_row rfl _ _ (w.heap.size + 2) _ _ _ _ rfl (put12_box (.int .u16 m.id) (.bool true) (.int .i64 m.op) (.bool true) (.bool m.cut) (.bool m.wanted) (.bool m.able) (.int .i64 m.code) (.slice (some ⟨bq, oq, none⟩) 1 cq) (.slice a10 A5.length c10) (.slice au m.au.length cu) (.slice ax m.ex.length cx) HS12.out.res) undMsg rfl (by kernel_rfl)) rfl ?_
     have HF := HS12.out.fin (put12_grown w12 (w.heap.size + 2) (.int .u16 m.id) (.bool true) (.int .i64 m.op) (.bool true) (.bool m.cut) (.bool m.wanted) (.bool m.able) (.int .i64 m.code) (.slice (some ⟨bq, oq, none⟩) 1 cq) (.slice a10 A5.length c10) (.slice au m.au.length cu) (.slice ax m.ex.length cx))
     exact ⟨_, _, _, by rw [HSAY.out], by rw [HSAY.out]; exact HF⟩
   ·rw [HAN2.out hne] at HSAY
    clear HAN1 HAN2
    have hln0 : ((AK.length : Int) == 0) = false := by simp; exact hne
    have hln1 : ¬ AK.length = 0 := fun e => hne (List.eq_nil_of_length_eq_zero e)
    have hc0 : W9.cell? ⟨w.heap.size + 1, 9, none⟩ = some (.slice a8 AK.length c8) := box_cells HS9.out.box 9
    go_upto_region 18 with fail
    clear hc0 hln0 hln1
    have hq0 : W9.cell? ⟨w.heap.size + 1 + 1 + 1, 0, none⟩ = some (.string n) := box_cells HS9.out.qb 0
    go_upto_region 19 with (refine wpList_load_cells _ rfl 49 _ rfl ⟨w.heap.size, 0, none⟩ rfl (trA t (.slice (some ⟨g, 0, none⟩) 12 c)) _ undTr rfl (trI' HT.out _) HS9.out.tr.all ?_)
    refine (kThere_any W9 t _ n HT.out HS9.out.tr.names hn).mono ?_
    rintro e w12 ⟨rfl, H12⟩
    have HS12 := hide (HS9.out.next H12.out)
    clear H12 HS9 hq0
    have hln : ¬ AK.length = 0 := fun e => hne (List.eq_nil_of_length_eq_zero e)
    have hln' : ((AK.length : Int) == 0) = false := by simp; exact hne
    rw [if_neg (fun e => hne e.1)] at HSAY
    have hc9 : w12.cell? ⟨w.heap.size + 1, 9, none⟩ = some (.slice a8 AK.length c8) := box_cells HS12.out.box 9
    go_upto_region 21 with fail
    clear hc9
    have hcz : ∀ j, World.cell? w12 ⟨w.heap.size + 1 + 1, j, none⟩ = zM0[j]? := box_cells HS12.out.res
    have hfz := frozen_of_block (show w12.heap[w.heap.size + 1 + 1]? = _ from HS12.out.res)
    have hcb := box_cells HS12.out.box
    simp only [zM0] at hcz
    simp only [msgCells] at hcb
    go_wp2_with fail
    clear hcz hfz hcb
    refine bodyPost_ret (results_cell_row rfl _ _ (w.heap.size + 2) _ _ _ _ rfl (put12_box (.int .u16 m.id) (.bool true) (.int .i64 m.op) (.bool true) (.bool m.cut) (.bool m.wanted) (.bool m.able) (.int .i64 m.code) (.slice (some ⟨bq, oq, none⟩) 1 cq) (.slice a8 AK.length c8) (.slice au m.au.length cu) (.slice ax m.ex.length cx) HS12.out.res) undMsg rfl (by kernel_rfl)) rfl ?_
    have HF := HS12.out.fin (put12_grown w12 (w.heap.size + 2) (.int .u16 m.id) (.bool true) (.int .i64 m.op) (.bool true) (.bool m.cut) (.bool m.wanted) (.bool m.able) (.int .i64 m.code) (.slice (some ⟨bq, oq, none⟩) 1 cq) (.slice a8 AK.length c8) (.slice au m.au.length cu) (.slice ax m.ex.length cx))
    exact ⟨_, _, _, by rw [HSAY.out], by rw [HSAY.out]; exact HF⟩
end Go.Proofs.YtafoepfhepdcoaaGreat
