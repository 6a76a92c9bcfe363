import Derived.Test.YtafoepfhepdcoaaGreatM19
import Derived.Deep.RegionHeld3
set_option maxRecDepth 100000
set_option maxHeartbeats 8000000
namespace Go.Proofs.YtafoepfhepdcoaaGreat
open Go.RowKit Go.Trawl
def doneM (st : RSt) (code : Int) (l : List Rc) : Msg := ⟨st.asked.id, false, 0, false, false, st.asked.wanted, true, code, st.asked.qs, if code = 2 then [] else st.kept ++ l, [], []⟩
theorem buildD (i d : Int) (b1 b2 : Bool) (a : Option Addr) (n c : Nat) (W : World) : (Instr.build 30 #[(0, .int .u16 i), (5, .bool b1), (6, .bool b2), (7, .int .i64 d), (8, .slice a n c)]).run Tryz.prog W = .ok (.agg #[.int .u16 i, .bool false, .int .i64 0, .bool false, .bool false, .bool b1, .bool b2, .int .i64 d, .slice a n c, .slice none 0 0, .slice none 0 0, .slice none 0 0]) W := run_build W _ _ _ (by kernel_rfl)
attribute [local go_sem] buildD
theorem rcells_len' (l : List Rc) : ∀ x ∈ l.map Rc.cells, x.length = 5 := by
 intro x hx
 obtain ⟨q, _, rfl⟩ := List.mem_map.1 hx
 rfl
theorem step_append_run {P : Program} {ops : Array Oper} {o : Oper} {a : Act} {w w' : World} {K : Act → World → Prop} {Q : Exit → Act → World → Prop} {E : Prop} (hgd : o.guard = none) (s x : Operand) (t : TypeId) (ho : o.op = .call { callee := .builtin .append, args := #[s, x], argTypes := #[t, t] })
  (v u v' : Value) (hs : a.eval s = v) (hx : a.eval x = u) (hr : (Builtin.append_ #[t, t] o.type #[v, u]).run P w = .ok v' w') (h : K (a.put o.dst v') w') :
  if Region.wanted o (yielded ops a.tmps) = true then Oper.wp P o a w K Q else E := by
 have hw : Region.wanted o (yielded ops a.tmps) = true := by simp [Region.wanted, hgd]
 rw [if_pos hw]
 unfold Oper.wp execOp
 simp only [ho, resolve, invoke, builtin, Sem.run_bind, Sem.run_pure, Result.andThen_ok, List.map_toArray, List.map_cons, List.map_nil, hs, hx, hr]
 exact h
theorem lex_ahead {P : Program} {ops : Array Oper} {C : Nat → World → Prop} {S : List Nat} {Q : Act → Prop} {i : Nat} {o : Oper} {l : List Oper} {a : Act} (hS : (!S.contains i && decide (Stg.hi ops S i = 0) && o.guard.isNone) = true) (v : Value)
  (h : ∀ w, C 0 w → Stg.upon P (C 0) v ((execOp a.eval o).run P w)) (hn : Stg.lex P ops C S Q l (i + 1) (a.put o.dst v)) : Stg.lex P ops C S Q (o :: l) i a := by
 simp only [Bool.and_eq_true, decide_eq_true_eq, Option.isNone_iff_eq_none, Bool.not_eq_true'] at hS
 obtain ⟨⟨h1, h3⟩, h4⟩ := hS
 refine ⟨v, .inl ⟨by simp [Region.wanted, h4], fun j w hj hj' hC => ?_⟩, hn⟩
 have : j = 0 := by omega
 subst this
 have hi : Stg.inc S i = 0 := by unfold Stg.inc; rw [if_neg (by rw [h1]; exact Bool.false_ne_true)]
 rw [hi]
 exact h w hC
theorem lies_keep2 {w W W' : World} {sz : Nat} {v : Value} {es : List (List Value)} (h : Lies w sz v es) (h' : Lies W sz v es) (hs : W.heap.size ≤ W'.heap.size) (hk : ∀ k, k < w.heap.size → W'.heap[k]? = W.heap[k]?) : Lies W' sz v es := by
 obtain ⟨a, c, rfl, h0, h1⟩ := h
 rcases h1 with h1 | ⟨b, off, rfl, hlt, _⟩
 ·subst h1
  exact ⟨a, c, rfl, h0, .inl rfl⟩
 ·exact h'.keep hs fun b' e _ => hk b' (by have : b = b' := Option.some.inj e; omega)
theorem msg_q {w : World} {m : Msg} {vq va vu vx : Value} (h : MsgAt w m vq va vu vx) (m' : Msg) (va' : Value) (hq : m'.qs = m.qs) (ha : Lies w 5 va' (m'.an.map Rc.cells)) (hu : m'.au = []) (hx : m'.ex = []) : MsgAt w m' vq va' (.slice none 0 0) (.slice none 0 0) :=
 ⟨by rw [hq]; exact h.q, ha, by rw [hu]; exact ⟨none, 0, rfl, fun _ => rfl, .inl rfl⟩, by rw [hx]; exact ⟨none, 0, rfl, fun _ => rfl, .inl rfl⟩⟩
theorem done_any (w : World) (rb : Nat) (st : RSt) (V : RV) (cs : List ChV) (code : Int) (vl : Value) (l : List Rc) (h : RefAt w rb st V cs) (hv : Lies w 5 vl (l.map Rc.cells)) (hvl : ∀ k, vl.ownBlock = some k → k ≠ rb) (hwf : WfM (doneM st code l)) (hle : st.kept.length + l.length ≤ 100000) :
  Calls Tryz.prog 132 #[.pointer (some ⟨rb, 0, none⟩), .int .i64 code, vl] w fun e w' => e = .returned (stepV 2 0 (str (replyL (doneM st code l)))) ∧ Hid (RefAt w' rb { st with busy := false } V cs ∧ Fr w w' (V.owns cs rb) (V.owns cs rb)) := by
 obtain ⟨i1, hi1, hy0, hy1, hy2⟩ := info_parts rI0
 obtain ⟨vR, vq, va, vu, vx, vK, vS, vL⟩ := V
 obtain ⟨aq, cq, rfl, _⟩ := (show Lies w 3 vq (st.asked.qs.map Qn.cells) from h.asked.q)
 obtain ⟨aK, cK, rfl⟩ := os_ (show w.ownsRow 0 69 5 vK st.kept.length ((st.kept.map Rc.cells).flatten) from h.kept)
 simp only [List.length_map] at h ⊢
 have hrl : rb < w.heap.size := hl_ h.box
 have HLT := hide h.lt
 have H := hide h
 have HWF := hide hwf
 have HV := hide hv
 have hc0 := bc_ h.box
 have hf0 := fz_ h.box
 simp only [refCells] at hc0
 have H1 := hide (h.set (st' := { st with busy := false }) 6 (.bool false) (congrArg id (by kernel_rfl)) rfl rfl rfl rfl rfl)
 have hz1 : (w.setCell ⟨rb, 6, none⟩ (.bool false)).heap.size = w.heap.size := by simp [World.setCell]
 have hB1 : Below (w.setCell ⟨rb, 6, none⟩ (.bool false)).heap.size (w.setCell ⟨rb, 6, none⟩ (.bool false)) ((w.setCell ⟨rb, 6, none⟩ (.bool false)).alloc (.cells #[.int .i64 0, .int .u32 0, .string ⟨#[]⟩] 111)) := (Below.refl _ _).alloc (Nat.le_refl _) _
 have H2 := hide (H1.out.keep hB1)
 have HZ2 : Hid (((w.setCell ⟨rb, 6, none⟩ (.bool false)).alloc (.cells #[.int .i64 0, .int .u32 0, .string ⟨#[]⟩] 111)).heap[w.heap.size]? = some (.cells #[.int .i64 0, .int .u32 0, .string ⟨#[]⟩] 111)) := by
  have := hn_ (w.setCell ⟨rb, 6, none⟩ (.bool false)) (.cells #[.int .i64 0, .int .u32 0, .string ⟨#[]⟩] 111)
  rw [hz1] at this
  exact this
 have HV1 : Lies (w.setCell ⟨rb, 6, none⟩ (.bool false)) 5 vl (l.map Rc.cells) := hv.keep (by rw [hz1]; exact Nat.le_refl _) (fun b hb _ => Below.heap_setCell _ _ _ _ (hvl b hb))
 have HV2 := hide (HV1.below hB1)
 have HF2 := hide ((Fr.set (w := w) (rb := rb) (V := ⟨vR, .slice aq st.asked.qs.length cq, va, vu, vx, .slice aK st.kept.length cK, vS, vL⟩) (cs := cs) 6 (.bool false)).trans (Fr.of_below hB1 _))
 clear h hwf hv hvl HV1 hB1 H1
 go_enter Tryz.func132, Tryz.ntmps132
 go_wp2_with fail
 generalize (w.setCell ⟨rb, 6, none⟩ (.bool false)).alloc (.cells #[.int .i64 0, .int .u32 0, .string ⟨#[]⟩] 111) = W2 at H2 HZ2 HV2 HF2 ⊢
 clear hc0 hf0 hz1
 have hc2 := bc_ H2.out.box
 simp only [refCells] at hc2
 go_region_held3 (fun w' => w'.cell? ⟨rb, 7, none⟩ = some (.int .u16 st.asked.id) ∧ w'.cell? ⟨rb, 12, none⟩ = some (.bool st.asked.wanted) ∧ w'.cell? ⟨rb, 15, none⟩ = some (.slice aq st.asked.qs.length cq)) (go_keep) (fail)
 clear hc2
 generalize hW3 : (W2.alloc _).drew = W3
 have hB3 : Below W2.heap.size W2 W3 := by rw [← hW3]; exact below_drewN ((Below.refl _ _).alloc (Nat.le_refl _) _) 1
 have HM3 : Hid (W3.heap[W2.heap.size]? = some (.cells (mc_ (doneM st 2 l) (.slice aq st.asked.qs.length cq) (.slice none 0 0) (.slice none 0 0) (.slice none 0 0) |>.setIfInBounds 7 (.int .i64 code)) 30)) := by rw [← hW3]; exact hn_ _ _
 have H3 := hide (H2.out.keep hB3)
 have HZ3 := hide ((hB3.block _ (hl_ HZ2.out)).trans HZ2.out)
 have HV3 := hide (HV2.out.below hB3)
 have HF3 := hide (HF2.out.trans (Fr.of_below hB3 _))
 have hz2 : w.heap.size < W2.heap.size := hl_ HZ2.out
 have hzb : rb < W2.heap.size := hl_ H2.out.box
 clear hW3 hB3 H2 HZ2 HV2 HF2
 generalize W2.heap.size = M at HM3 hz2 hzb ⊢
 by_cases hcd : code = 2
 ·subst hcd
  have hcm := bc_ HM3.out
  have e7 : (mc_ (doneM st 2 l) (.slice aq st.asked.qs.length cq) (.slice none 0 0) (.slice none 0 0) (.slice none 0 0)).setIfInBounds 7 (.int .i64 2) = mc_ (doneM st 2 l) (.slice aq st.asked.qs.length cq) (.slice none 0 0) (.slice none 0 0) (.slice none 0 0) := rfl
  rw [e7] at hcm
  simp only [mc_, doneM] at hcm
  go_wp2_with fail
  refine (reply_any W3 (doneM st 2 l) (.slice aq st.asked.qs.length cq) (.slice none 0 0) (.slice none 0 0) (.slice none 0 0) HWF.out (msg_q H3.out.asked _ _ rfl ⟨none, 0, rfl, fun _ => rfl, .inl rfl⟩ rfl rfl)).mono ?_
  clear hcm e7
  rintro e w4 ⟨rfl, hb4⟩
  have H4 := hide (H3.out.keep hb4.out)
  have HZ4 := hide ((hb4.out.block _ (hl_ HZ3.out)).trans HZ3.out)
  have HF4 := hide (HF3.out.trans (Fr.of_below hb4.out _))
  clear hb4
  unfold stepV
  generalize hbs : str (replyL (doneM st 2 l)) = bs
  have hcz := bc_ HZ4.out
  have hfz := fz_ HZ4.out
  go_wp2_with fail
  clear hcz hfz
  refine bodyPost_ret (results_cell_row rfl _ _ w.heap.size _ _ _ _ rfl (pb_ (.int .i64 2) (.int .u32 0) (.string bs) HZ4.out) undSt rfl (by kernel_rfl)) rfl ?_
  have hG := pg_ w4 w.heap.size (.int .i64 2) (.int .u32 0) (.string bs)
  exact ⟨by rw [hbs]; rfl, H4.out.aside hG (fun e => by have := HLT.out _ e; omega), HF4.out.write hG (Nat.le_refl _)⟩
 ·have hn2 : ((code : Int) != 2) = true := by simp; exact hcd
  have hW3D : Below W3.heap.size W3 W3.drew := below_drewN (Below.refl _ _) 1
  have hk3 := own_below H3.out.kept hW3D
  obtain ⟨v5, W5, hrun, g5⟩ := append_lies (P := Tryz.prog) W3.drew 28 28 69 i1 _ 5 40 uRs hi1 hy0 hy1 hy2 rfl (by decide) (.slice none 0 0) 0 [] (World.ownsRow_nil _ _ _ _) (.slice aK st.kept.length cK) (st.kept.map Rc.cells) (own_lies hk3 (rcells_len' _) (by simp)) (rcells_ok _) (by rw [List.length_map]; unfold maxLen; omega) (by rw [List.length_map]; omega)
  obtain ⟨a5, c5, rfl⟩ := os_ g5.own
  simp only [Nat.zero_add, List.length_map, List.nil_append] at hrun g5
  have hb5 : Below W3.heap.size W3 W5 := hW3D.trans (below_grownBy g5.grown)
  have HM5 := hide ((hb5.block _ (hl_ HM3.out)).trans HM3.out)
  have hfm5 := fz_ HM5.out
  have hcm5 := bc_ HM5.out
  simp only [mc_, doneM] at hcm5
  have hcm := bc_ HM3.out
  have hcb := bc_ H3.out.box
  simp only [mc_, doneM] at hcm
  simp only [refCells] at hcb
  have h09 := hcm 9
  have h019 := hcb 19
  clear hcm hcb
  obtain ⟨W0, hW0⟩ : ∃ x : World, x = W3.drew := ⟨_, rfl⟩
  obtain ⟨W6, hW6⟩ : ∃ x : World, x = W5.setCell ⟨M, 9, none⟩ (.slice a5 st.kept.length c5) := ⟨_, rfl⟩
  have h9 : W0.cell? ⟨M, 9, none⟩ = some (.slice none 0 0) := by rw [hW0]; exact h09
  have h19 : W0.cell? ⟨rb, 19, none⟩ = some (.slice aK st.kept.length cK) := by rw [hW0]; exact h019
  clear h09 h019
  obtain ⟨f, hf0, hf1, hf2, hf3, hfp⟩ := Stg.coverE4 W0 W5 W6 W6
  have HU := hide (Stg.pick4_cover4 hf0 hf1 hf2 hf3)
  have HR : Hid ((Builtin.append_ #[28, 28] 28 #[.slice none 0 0, .slice aK st.kept.length cK]).run Tryz.prog W0 = .ok (.slice a5 st.kept.length c5) W5) := by rw [hW0]; exact hrun
  have HG5 := hide g5
  have HW6 := hide hW6
  clear hf0 hf1 hf2 hf3 hfp hrun g5 hW6 hk3
  go_wp2_with fail
  refine Stg.wp_region_stage [6, 8] (fun j w' => w' = Stg.pick4 W0 W5 W6 W6 j) (by kernel_rfl) (by kernel_rfl) hW0.symm ?_
  clear hW0
  refine Stg.lex_upto 1 4 (by decide) (by kernel_rfl) HU.out ?_
  simp only [List.take_succ_cons, List.take_zero, List.drop_succ_cons, List.drop_zero]
  repeat (first | go_big_quiet_step (fail) | quiet_step (fail))
  refine wpQuiet_nil ?_
  refine lex_ahead (by kernel_rfl) (.slice none 0 0) ?_ ?_
  ·intro w' hw'
   rw [show w' = W0 from hw', show Stg.pick4 W0 W5 W6 W6 0 = W0 from rfl]
   clear hw' w'
   go_simp
   exact ⟨rfl, rfl⟩
  refine Stg.lex_upto 3 4 (by decide) (by kernel_rfl) HU.out ?_
  simp only [List.take_succ_cons, List.take_zero, List.drop_succ_cons, List.drop_zero]
  repeat (first | go_big_quiet_step (fail) | quiet_step (fail))
  refine wpQuiet_nil ?_
  refine lex_ahead (by kernel_rfl) (.slice aK st.kept.length cK) ?_ ?_
  ·intro w' hw'
   rw [show w' = W0 from hw', show Stg.pick4 W0 W5 W6 W6 0 = W0 from rfl]
   clear hw' w'
   go_simp
   exact ⟨rfl, rfl⟩
  refine Stg.lex_move 0 (by kernel_rfl) (.slice a5 st.kept.length c5) ?_ ?_
  ·intro w' hw'
   rw [show w' = W0 from hw', show Stg.pick4 W0 W5 W6 W6 (0 + 1) = W5 from rfl]
   clear hw' w'
   exact Stg.upon_append rfl rfl rfl HR.out rfl
  refine Stg.lex_upto 1 4 (by decide) (by kernel_rfl) HU.out ?_
  simp only [List.take_succ_cons, List.take_zero, List.drop_succ_cons, List.drop_zero]
  repeat (first | go_big_quiet_step (fail) | quiet_step (fail))
  refine wpQuiet_nil ?_
  refine Stg.lex_move 1 (by kernel_rfl) undef ?_ ?_
  ·intro w' hw'
   rw [show w' = W5 from hw', show Stg.pick4 W0 W5 W6 W6 (1 + 1) = W6 from rfl]
   clear hw' w'
   go_simp
   exact ⟨rfl, HW6.out.symm⟩
  refine Stg.lex_nil ?_
  intro w' hw'
  rw [show w' = W6 from hw']
  clear hw' w'
  clear HU HR h9 h19
  have hM3 : M < W3.heap.size := hl_ HM3.out
  have hnew : ∀ k, (Value.slice a5 st.kept.length c5).ownBlock = some k → M < k := fun k hk => by
   rcases HG5.out.loc with e1 | ⟨j, e1, hj⟩
   ·rw [e1] at hk; cases hk
   ·rw [e1] at hk
    have : j = k := Option.some.inj hk
    have : W3.drew.heap.size = W3.heap.size := rfl
    omega
  have hG6 : W5.grownBy W6 (some M) := by rw [HW6.out]; exact gs_ _ _ _ _
  have HN : Hid (¬ RV.owns ⟨vR, .slice aq st.asked.qs.length cq, va, vu, vx, .slice aK st.kept.length cK, vS, vL⟩ cs rb M) := fun e => by have := HLT.out _ e; omega
  have H6 := hide ((H3.out.keep hb5).aside hG6 HN.out)
  have HF6 := hide ((HF3.out.trans (Fr.of_below hb5 _)).write hG6 (by omega))
  have HZ6 : Hid (W6.heap[w.heap.size]? = _) := hide ((hG6.block _ (by have := hl_ HZ3.out; have := hb5.size; omega) (fun e => by have := Option.some.inj e; omega)).trans ((hb5.block _ (hl_ HZ3.out)).trans HZ3.out))
  have HV6 := hide (lies_keep2 HV.out (HV3.out.below hb5) hG6.size (fun k hk => hG6.block k (by have := hl_ HZ3.out; have := hb5.size; omega) (fun e => by have := Option.some.inj e; omega)))
  have HO6 := hide (HG5.out.own.kept hG6 (.inr fun e => by have := hnew _ e; omega))
  have HM6 : Hid (W6.heap[M]? = some (.cells (mc_ (doneM st code l) (.slice aq st.asked.qs.length cq) (.slice a5 st.kept.length c5) (.slice none 0 0) (.slice none 0 0)) 30)) := by
   have := hs_ (j := 9) HM5.out (.slice a5 st.kept.length c5)
   rw [← HW6.out] at this
   exact this
  have hnew6 : (Value.slice a5 st.kept.length c5).ownBlock ≠ some M := fun e => by have := hnew _ e; omega
  have HNW := hide hnew
  clear hnew HM5 HG5 HW6 hcm5 hfm5 hG6 hb5 H3 HF3 HZ3 HV3 HM3 hW3D
  have hcm := bc_ HM6.out
  simp only [mc_, doneM] at hcm
  go_wp2_with (at_builtin; refine Go.Trawl.wpList_append_lies W6 rfl _ _ 28 rfl 69 i1 _ 5 40 uRs hi1 hy0 hy1 hy2 rfl (by decide) (.slice a5 st.kept.length c5) st.kept.length _ rfl vl (l.map Rc.cells) rfl (rcells_ok _) HO6.out HV6.out (by rw [List.length_map]; unfold maxLen; omega) (by rw [List.length_map]; omega) ?_; intro v7 W7 g7; obtain ⟨a7, c7, rfl⟩ := os_ g7.own; simp only [List.length_map, ← List.flatten_append, ← List.map_append] at g7; have HM7 := hide ((g7.keeps (hl_ HM6.out) hnew6).1.trans HM6.out); have hn7 := (g7.keeps (hl_ HM6.out) hnew6).2.1; clear hcm; have hcm := bc_ HM7.out; have hfm := fz_ HM7.out; simp only [mc_, doneM] at hcm)
  have hzM : M < W6.heap.size := hl_ HM6.out
  have H7 := H6.out.grow g7.grown (fun k hk e => by have := HNW.out k hk; have := HLT.out k e; omega)
  have F7 := HF6.out.grow g7.grown (fun k hk => by have := HNW.out k hk; omega)
  have hG8 := gs_ W7 M 9 (.slice a7 (st.kept.length + l.length) c7)
  have H8 := hide (H7.aside hG8 HN.out)
  have HF8 := hide (F7.write hG8 (by omega))
  have hZ7 := (g7.grown.block w.heap.size (by omega) (fun e => by have := HNW.out _ e.symm; omega)).trans HZ6.out
  have HZ8 := hide ((hG8.block _ (hl_ hZ7) (fun e => by have := Option.some.inj e; omega)).trans hZ7)
  have hO8 := g7.own.kept hG8 (.inr hn7)
  have HA8 := hide (own_lies hO8 (rcells_len' _) (by simp))
  clear H7 F7 hG8 hZ7 hO8 g7 H6 HF6 HZ6 HO6 HV6 HM6 hnew6 HM7 hn7
  generalize W7.setCell ⟨M, 9, none⟩ (.slice a7 (st.kept.length + l.length) c7) = W8 at H8 HF8 HZ8 HA8 ⊢
  clear hcm hfm
  have ha : (doneM st code l).an = st.kept ++ l := if_neg hcd
  refine (reply_any W8 (doneM st code l) (.slice aq st.asked.qs.length cq) (.slice a7 (st.kept.length + l.length) c7) (.slice none 0 0) (.slice none 0 0) HWF.out (msg_q H8.out.asked _ _ rfl (by rw [ha]; exact HA8.out) rfl rfl)).mono ?_
  rintro e w4 ⟨rfl, hb4⟩
  have H4 := hide (H8.out.keep hb4.out)
  have HZ4 := hide ((hb4.out.block _ (hl_ HZ8.out)).trans HZ8.out)
  have HF4 := hide (HF8.out.trans (Fr.of_below hb4.out _))
  clear hb4 ha
  unfold stepV
  generalize hbs : str (replyL (doneM st code l)) = bs
  have hcz := bc_ HZ4.out
  have hfz := fz_ HZ4.out
  go_wp2_with fail
  clear hcz hfz
  refine bodyPost_ret (results_cell_row rfl _ _ w.heap.size _ _ _ _ rfl (pb_ (.int .i64 2) (.int .u32 0) (.string bs) HZ4.out) undSt rfl (by kernel_rfl)) rfl ?_
  have hG := pg_ w4 w.heap.size (.int .i64 2) (.int .u32 0) (.string bs)
  exact ⟨by rw [hbs]; rfl, H4.out.aside hG (fun e => by have := HLT.out _ e; omega), HF4.out.write hG (Nat.le_refl _)⟩
end Go.Proofs.YtafoepfhepdcoaaGreat
namespace Go.Proofs.YtafoepfhepdcoaaGreat
open Go.RowKit Go.Trawl
def rootN : ByteArray := ⟨#[0]⟩
def freshCh (st : RSt) (name : ByteArray) (kind : Int) : Ch := ⟨name, kind, rootN, st.roots, 0, []⟩
theorem cI0 : (Tryz.prog.info? 169).map (fun i => (i.zero, i.size, i.bytes)) = some (some (.agg #[.string ⟨#[]⟩, .int .u16 0, .string ⟨#[]⟩, .slice none 0 0, .int .i64 0, .slice none 0 0]), 6, 96) := by kernel_rfl
theorem uCs : Tryz.prog.underlying 161 = some (.slice 169) := by kernel_rfl
theorem buildC (n z : ByteArray) (k : Int) (a : Option Addr) (m c : Nat) (W : World) : (Instr.build 169 #[(0, .string n), (1, .int .u16 k), (2, .string z), (3, .slice a m c)]).run Tryz.prog W = .ok (.agg #[.string n, .int .u16 k, .string z, .slice a m c, .int .i64 0, .slice none 0 0]) W := run_build W _ _ _ (by kernel_rfl)
attribute [local go_sem] buildC Stg.upon
theorem one_ch (c : ChV) (h1 : c.vs.oneCell' = true) (h2 : c.vn.oneCell' = true) : ∀ u ∈ c.cells, u.oneCell' = true := by
 intro u hu
 simp only [ChV.cells, List.mem_cons, List.not_mem_nil, or_false] at hu
 rcases hu with rfl | rfl | rfl | rfl | rfl | rfl
 ·rfl
 ·rfl
 ·rfl
 ·exact h1
 ·rfl
 ·exact h2
theorem chase_any (w : World) (rb : Nat) (st : RSt) (V : RV) (cs : List ChV) (name : ByteArray) (kind : Int) (h : RefAt w rb st V cs) (hle : cs.length ≤ 100000) :
  Calls Tryz.prog 88 #[.pointer (some ⟨rb, 0, none⟩), .string name, .int .u16 kind] w fun e w' => e = .returned (.tuple #[]) ∧ Hid (∃ v', RefAt w' rb { st with l := st.l ++ [freshCh st name kind] } (withL V v') (cs ++ [⟨freshCh st name kind, V.vR, .slice none 0 0⟩]) ∧ Fr w w' (V.owns cs rb) ((withL V v').owns (cs ++ [⟨freshCh st name kind, V.vR, .slice none 0 0⟩]) rb)) := by
 obtain ⟨i1, hi1, hy0, hy1, hy2⟩ := info_parts cI0
 obtain ⟨vR, vq, va, vu, vx, vK, vS, vL⟩ := V
 obtain ⟨aR, cR, rfl, _⟩ := (show Lies w 1 vR (wordsV st.roots) from h.roots)
 obtain ⟨aL, cL, rfl⟩ := os_ (show w.ownsRow 0 169 6 vL cs.length ((cs.map ChV.cells).flatten) from h.row)
 have hrl : rb < w.heap.size := hl_ h.box
 obtain ⟨c, hc⟩ : ∃ c : ChV, c = ⟨freshCh st name kind, .slice aR (wordsV st.roots).length cR, .slice none 0 0⟩ := ⟨_, rfl⟩
 obtain ⟨W0, hW0⟩ : ∃ x : World, x = w.drew := ⟨_, rfl⟩
 obtain ⟨W1, hW1⟩ : ∃ x : World, x = W0.alloc (.cells c.cells.toArray 169) := ⟨_, rfl⟩
 have hb0 : Below w.heap.size w W0 := by rw [hW0]; exact below_drewN (Below.refl _ _) 1
 have hb1 : Below w.heap.size w W1 := by
  rw [hW1, hW0]
  exact (below_drewN (Below.refl _ _) 1).alloc (Nat.le_refl _) _
 have h1 := h.keep hb1
 obtain ⟨v5, W2, hrun, g5⟩ := append_grew (P := Tryz.prog) W1 161 161 169 i1 _ 6 96 uCs hi1 hy0 hy1 hy2 rfl (by decide) _ cs.length _ h1.row ⟨W0.heap.size, 0, none⟩ 1 1 c.cells rfl (by rw [hW1]; exact cells_new W0 c.cells.toArray _) (one_ch c (by rw [hc]; rfl) (by rw [hc]; rfl)) (by unfold maxLen; omega) (by omega)
 obtain ⟨a5, c5, rfl⟩ := os_ g5.own
 have HP := hide (h1.push g5 c (by simp) (by simp) (by
  rw [hc]
  exact h1.roots.keep g5.grown.size (fun b hb hlt => g5.grown.block b hlt (fun e => h1.free _ (by simp [RV.reads]) b hb (.inr (.inr (.inr e.symm)))))) (by rw [hc]; exact ⟨none, 0, rfl, fun _ => rfl, .inl rfl⟩) (fun k hk => by
  rw [hc] at hk
  rcases hk with hk | hk
  ·exact ⟨_, by simp [RV.reads], hk⟩
  ·cases hk) (by rw [hc]; intro a n c' e; cases e; exact Nat.le_refl _))
 have hbox0 := (hb0.block rb hrl).trans h.box
 have hbox1 := h1.box
 have hbox2 := (g5.keeps (hl_ h1.box) (ot_ h1.row h1.box (by decide))).1.trans h1.box
 obtain ⟨f, hf0, hf1, hf2, hfp⟩ := Stg.coverE W0 W1 W2
 have hcf := hfp (fun x => ∀ o, x.cell? ⟨rb, o, none⟩ = (refCells st ⟨.slice aR (wordsV st.roots).length cR, vq, va, vu, vx, vK, vS, .slice aL cs.length cL⟩)[o]?) (bc_ hbox0) (bc_ hbox1) (bc_ hbox2)
 simp only [refCells] at hcf
 have hfz := fz_ hbox2
 obtain ⟨W3, hW3⟩ : ∃ x : World, x = W2.setCell ⟨rb, 21, none⟩ (.slice a5 (cs.length + 1) c5) := ⟨_, rfl⟩
 have HU := hide (Stg.pick4_cover (E := W3) hf0 hf1 hf2)
 obtain ⟨f4, hq0, hq1, hq2, hq3, _⟩ := Stg.coverE4 W0 W1 W2 W3
 have HU4 := hide (Stg.pick4_cover4 hq0 hq1 hq2 hq3)
 clear hq0 hq1 hq2 hq3
 have hc2 := bc_ hbox2
 simp only [refCells] at hc2
 have HR := hide hrun
 have HW1 := hide hW1
 have HW3 := hide hW3
 have HB1 := hide hb1
 clear hf0 hf1 hf2 hfp hrun hW1 hW3 hb0 hb1 h1 hbox0 hbox1 hbox2 g5 h
 subst hc
 go_enter Tryz.func88, Tryz.ntmps88
 go_wp2_with fail
 refine Stg.wp_region_stage [13, 14, 17] (fun j w' => w' = Stg.pick4 W0 W1 W2 W3 j) (by kernel_rfl) (by kernel_rfl) hW0.symm ?_
 clear hW0
 refine Stg.lex_upto 13 3 (by decide) (by kernel_rfl) HU.out ?_
 simp only [List.take_succ_cons, List.take_zero, List.drop_succ_cons, List.drop_zero]
 repeat (first | go_big_quiet_step (fail) | quiet_step (fail))
 refine wpQuiet_nil ?_
 refine Stg.lex_move 0 (by kernel_rfl) (.slice (some ⟨W0.heap.size, 0, none⟩) 1 1) ?_ ?_
 ·intro w' hw'
  rw [show w' = W0 from hw', show Stg.pick4 W0 W1 W2 W3 (0 + 1) = W1 from rfl]
  clear hw' w'
  go_simp
  exact HW1.out.symm
 refine Stg.lex_move 1 (by kernel_rfl) (.slice a5 (cs.length + 1) c5) ?_ ?_
 ·intro w' hw'
  rw [show w' = W1 from hw', show Stg.pick4 W0 W1 W2 W3 (1 + 1) = W2 from rfl]
  clear hw' w'
  exact Stg.upon_append rfl rfl rfl HR.out rfl
 refine Stg.lex_upto 2 4 (by decide) (by kernel_rfl) HU4.out ?_
 simp only [List.take_succ_cons, List.take_zero, List.drop_succ_cons, List.drop_zero]
 repeat (first | go_big_quiet_step (fail) | quiet_step (fail))
 refine wpQuiet_nil ?_
 refine Stg.lex_move 2 (by kernel_rfl) undef ?_ ?_
 ·intro w' hw'
  rw [show w' = W2 from hw', show Stg.pick4 W0 W1 W2 W3 (2 + 1) = W3 from rfl]
  clear hw' w'
  go_simp
  exact HW3.out.symm
 refine Stg.lex_nil ?_
 intro w' hw'
 rw [show w' = W3 from hw']
 clear hw' w'
 clear HU HR HW1 hcf hfz HU4 hc2
 go_wp2_with fail
 go_end0
 refine ⟨rfl, .slice a5 (cs.length + 1) c5, ?_, ?_⟩
 ·rw [HW3.out]; exact HP.out.1
 ·rw [HW3.out]; exact (Fr.of_below HB1.out _).trans HP.out.2
end Go.Proofs.YtafoepfhepdcoaaGreat
