import Derived.Test.YtafoepfhepdcoaaGreatM42
set_option maxRecDepth 100000
set_option maxHeartbeats 8000000
namespace Go.Proofs.YtafoepfhepdcoaaGreat
open Go.RowKit Go.Trawl
attribute [local go_sem] Stg.upon
theorem nil_or_snoc {α : Type} (l : List α) : l = [] ∨ ∃ l' a, l = l' ++ [a] := by
 rcases List.eq_nil_or_concat l with h | ⟨l', a, h⟩
 ·exact .inl h
 ·exact .inr ⟨l', a, by simpa using h⟩
theorem done_says (w : World) (rb : Nat) (st : RSt) (V : RV) (cs : List ChV) (code : Int) (vl : Value) (l : List Rc) (h : RefAt w rb st V cs) (hv : Lies w 5 vl (l.map Rc.cells)) (hvl : ∀ k, vl.ownBlock = some k → k ≠ rb) (hwf : WfM (doneM st code l)) (hle : st.kept.length + l.length ≤ 100000) :
  Calls Tryz.prog 132 #[.pointer (some ⟨rb, 0, none⟩), .int .i64 code, vl] w (Says w rb V cs (foundP st l code)) :=
 (done_any w rb st V cs code vl l h hv hvl hwf hle).mono (fun _ _ h => ⟨h.1, V, cs, h.2.out.1, h.2.out.2⟩)
theorem fm_chase {w W : World} {rb : Nat} {st : RSt} {V : RV} {cs : List ChV} {c : ChV} {m : Msg} {vq va vu vx : Value} (h : FM w W rb st V (cs ++ [c]) m vq va vu vx) {g n cap : Nat} (hv : V.vL = .slice (some ⟨g, 0, none⟩) n cap) (j : Nat) (hj : j < 6) : W.cell? ⟨g, cs.length * 6 + j, none⟩ = c.cells[j]? := by
 obtain ⟨g', cap', cur, e, hg, _, _, _, k4⟩ := row_at h.ref
 rw [hv] at e
 cases e
 exact ch_cells hg k4 j hj
theorem fr_tail {w W w5 : World} {rb : Nat} {O O1 : Nat → Prop} {p : RSt} (f : Fr w W O O1) (hr : W.heap[w.heap.size + 1]? = some (.cells #[.int .i64 0, .int .u32 0, .string ⟨#[]⟩] 111)) (hno : ¬ O1 (w.heap.size + 1)) (H : ∃ V' cs', RefAt w5 rb p V' cs' ∧ Fr W w5 O1 (V'.owns cs' rb)) :
  w5.heap[w.heap.size + 1]? = some (.cells #[.int .i64 0, .int .u32 0, .string ⟨#[]⟩] 111) ∧ ∀ v0 v1 v2, ∃ V' cs', RefAt (put3 w5 (w.heap.size + 1) v0 v1 v2) rb p V' cs' ∧ Fr w (put3 w5 (w.heap.size + 1) v0 v1 v2) O (V'.owns cs' rb) := by
 obtain ⟨V', cs', h5, f5⟩ := H
 have hz := hl_ hr
 refine ⟨(f5.block _ hz hno).trans hr, fun v0 v1 v2 => ?_⟩
 have hG := pg_ w5 (w.heap.size + 1) v0 v1 v2
 refine ⟨V', cs', h5.aside hG (fun e => ?_), (f.trans f5).write hG (by omega)⟩
 rcases f5.new _ e with e | e
 ·exact hno e
 ·omega
theorem quiet_drew {P : Program} {f : FuncId} {args : Array Value} {w : World} {n : Nat} {v : Value} (h : Calls P f args (w.drewN n) fun e w' => e = .returned v ∧ ∃ k, w' = (w.drewN n).drewN k) : Calls P f args (w.drewN n) fun e w'' => e = .returned v ∧ ∃ m, w'' = w.drewN m :=
 h.mono fun _ _ ⟨he, k, hk⟩ => ⟨he, n + k, by rw [hk, World.drewN_drewN]⟩
theorem follows_any (w : World) (rb : Nat) (st : RSt) (V : RV) (cs : List ChV) (c : ChV) (m : Msg) (vq va vu vx : Value) (q : Qn) (h : RefAt w rb st V (cs ++ [c])) (hok : StOk st) (hne : c.ch.servers ≠ []) (hcn : nameB c.ch.name = true) (hm : Got m) (hat : MsgAt w m vq va vu vx) (hq : st.asked.qs = [q]) (hqk : 0 ≤ q.kind ∧ q.kind ≤ 65535) (hsn : st.seen.length ≤ 999) :
  Calls Tryz.prog 91 #[.pointer (some ⟨rb, 0, none⟩), .agg (mc_ m vq va vu vx)] w (Says w rb V (cs ++ [c]) (followsP st (cs.map ChV.ch) c.ch m)) := by
 have H0 := hide (FM.start h hat)
 obtain ⟨P, hP⟩ : ∃ P, P = followsP st (cs.map ChV.ch) c.ch m := ⟨_, rfl⟩
 rw [← hP]
 rw [followsP_eq] at hP
 have HP := hide hP
 obtain ⟨aa, ca, hva, _⟩ := (show Lies w 5 va (m.an.map Rc.cells) from hat.a)
 obtain ⟨au, cu, hvu, _⟩ := (show Lies w 5 vu (m.au.map Rc.cells) from hat.u)
 rw [List.length_map] at hva hvu
 subst hva hvu
 have HOK := hide hok
 have HM := hide hm
 have HQ := hide hq
 have HCN := hide hcn
 have hcl : cs.length ≤ 1000 := by
  have := hok.len
  rw [← h.chs] at this
  simp at this
  omega
 obtain ⟨g, cap, cur, hvL, hg, -, -, -, -⟩ := row_at h
 have HVL := hide hvL
 have hrl : rb < w.heap.size := hl_ h.box
 clear h hok hm hat hq hcn hP hg hvL
 unfold Says
 unfold mc_ at H0 ⊢
 go_enter Tryz.func91, Tryz.ntmps91
 go_wp2_with fail
 generalize ((w.alloc _).alloc _) = W1 at H0 ⊢
 have hc0 := bc_ H0.out.ref.box
 simp only [refCells] at hc0
 rw [HVL.out] at hc0
 go_quiet (fail)
 have hb2 : Below W1.heap.size W1 (W1.drewN nq) := below_drewN (Below.refl _ _) _
 have H2 := hide (H0.out.next hb2)
 clear hb2 H0 hc0
 generalize W1.drewN nq = W2 at H2 ⊢
 have hc0 := bc_ H2.out.ref.box
 simp only [refCells] at hc0
 rw [HVL.out] at hc0
 have hcm := bc_ H2.out.msg
 simp only [mc_] at hcm
 rcases (show (m.code ≠ 0 ∧ m.code ≠ 3) ∨ m.code = 0 ∨ m.code = 3 by omega) with ⟨h0, h3⟩ | hcd
 ·have hp : P = sendP st (cs.map ChV.ch) c.ch := by rw [HP.out, if_pos ⟨h0, h3⟩]
  have HPP := hide hp
  have h0' : ((m.code : Int) != 0) = true := by simp; exact h0
  have h3' : ((m.code : Int) != 3) = true := by simp; exact h3
  clear hp HP
  go_wp2_with fail
  refine (send_any W2 rb st V cs c H2.out.ref HOK.out hne).mono ?_
  clear hcm hc0
  rintro e w5 ⟨he, H5⟩
  obtain ⟨k5, t5, s5, hst⟩ := (sendP_step st (cs.map ChV.ch) c.ch)
  have hT := H2.out.tail H5.out
  have HX5 := hide hT.1
  have HT5 := hide hT.2
  rw [hst] at he
  subst he
  have HST := hide hst
  clear hT hst H5
  have hcz := bc_ HX5.out
  have hfz := fz_ HX5.out
  unfold stepV
  go_wp2_with fail
  clear hcz hfz
  refine bodyPost_ret (results_cell_row rfl _ _ ((w).heap.size + 1) _ _ _ _ rfl (pb_ (.int .i64 k5) (.int .u32 t5) (.string s5) HX5.out) undSt rfl (by kernel_rfl)) rfl ?_
  exact ⟨by rw [(HPP).out, HST.out]; rfl, by rw [(HPP).out]; exact HT5.out _ _ _⟩
 have hcn0 := HM.out.an
 have HGA : Hid (∀ x, x ∈ m.an → nameB x.name = true) := fun x hx => (HM.out.named.a x hx).1
 have HS5 : Hid (∀ w', Below W2.heap.size W2 w' → w'.cell? ⟨w.heap.size, 9, none⟩ = some (.slice aa m.an.length ca) ∧ w'.cell? ⟨g, cs.length * 6 + 2, none⟩ = some (.string c.ch.zone) ∧ w'.cell? ⟨g, cs.length * 6, none⟩ = some (.string c.ch.name) ∧ w'.cell? ⟨g, cs.length * 6 + 1, none⟩ = some (.int .u16 c.ch.kind)) := fun w' hb => by
  have F := H2.out.next hb
  exact ⟨(bc_ F.msg 9).trans rfl, (fm_chase F HVL.out 2 (by decide)).trans rfl, (fm_chase F HVL.out 0 (by decide)).trans rfl, (fm_chase F HVL.out 1 (by decide)).trans rfl⟩
 have HOF : Hid (∀ Wx kd, Below W2.heap.size W2 Wx → Calls Tryz.prog 134 #[.slice aa m.an.length ca, .string c.ch.zone, .string c.ch.name, .int .u16 kd] Wx fun e w9 => ∃ a9 c9, e = .returned (.slice a9 (m.an.filter (ofB c.ch.zone c.ch.name kd)).length c9) ∧ Hid (Below W2.heap.size W2 w9) ∧ Hid (Fresh W2 w9 (.slice a9 (m.an.filter (ofB c.ch.zone c.ch.name kd)).length c9) (m.an.filter (ofB c.ch.zone c.ch.name kd))) ∧ (w9.cell? ⟨w.heap.size, 9, none⟩ = some (.slice aa m.an.length ca) ∧ w9.cell? ⟨g, cs.length * 6 + 2, none⟩ = some (.string c.ch.zone) ∧ w9.cell? ⟨g, cs.length * 6, none⟩ = some (.string c.ch.name) ∧ w9.cell? ⟨g, cs.length * 6 + 1, none⟩ = some (.int .u16 c.ch.kind))) := fun Wx kd hb => by
  refine (of_any Wx _ m.an c.ch.zone c.ch.name kd HM.out.an HGA.out (H2.out.at_.a.below hb)).mono ?_
  rintro e w9 ⟨a9, c9, rfl, H9⟩
  have hb9 := hb.trans (H9.out.below.mono hb.size)
  exact ⟨a9, c9, rfl, hb9, H9.out.fresh.from hb.size, HS5.out w9 hb9⟩
 have hp1 : P = if m.an.filter (ofB c.ch.zone c.ch.name c.ch.kind) ≠ [] then gotP st (cs.map ChV.ch) (m.an.filter (ofB c.ch.zone c.ch.name c.ch.kind)) else restP st (cs.map ChV.ch) c.ch m (m.an.filter (ofB c.ch.zone c.ch.name 5)) := by rw [HP.out, if_neg (by omega)]
 have HP1 := hide hp1
 clear hp1 HP
 have HDR : Hid (Below W2.heap.size W2 W2.drew) := below_drewN (Below.refl _ _) 1
 obtain ⟨k9, k2, k0, k1⟩ := HS5.out W2 (Below.refl _ _)
 have hcd' : ((m.code != 0) && (m.code != 3)) = false := by
  rcases hcd with e | e <;> rw [e] <;> rfl
 have HCD := hide hcd
 have hcdm : (m.code = 0 ∨ m.code = 3) := hcd
 rcases hcd with hcd | hcd
 all_goals
  rw [hcd] at hcm
  go_wp2_with fail
  go_region_held3 (fun w' => w'.cell? ⟨w.heap.size, 9, none⟩ = some (.slice aa m.an.length ca) ∧ w'.cell? ⟨g, cs.length * 6 + 2, none⟩ = some (.string c.ch.zone) ∧ w'.cell? ⟨g, cs.length * 6, none⟩ = some (.string c.ch.name) ∧ w'.cell? ⟨g, cs.length * 6 + 1, none⟩ = some (.int .u16 c.ch.kind)) (first | (go_keep; done) | exact hs9) (first | (go_at_call 134; refine (HOF.out _ _ HDR.out).mono ?_; rintro e w9 ⟨a9, c9, rfl, HB9, HF9, hs9⟩))
 all_goals
  obtain ⟨j9, j2, j0, j1⟩ := hs9
  have H9 := hide (H2.out.next HB9.out)
  obtain ⟨Fd, hFd⟩ : ∃ A', A' = m.an.filter (ofB c.ch.zone c.ch.name c.ch.kind) := ⟨_, rfl⟩
  rw [← hFd] at HF9 HP1 ⊢
  have HFL : Hid (Fd.length ≤ 65535 ∧ ∀ x ∈ Fd, WfR x) := ⟨by rw [hFd]; exact Nat.le_trans (List.length_filter_le _ _) HM.out.an, fun x hx => by rw [hFd] at hx; exact wf_an HM.out (List.mem_filter.1 hx).1⟩
  have HNB : Hid (∀ k, (Value.slice a9 Fd.length c9).ownBlock = some k → k ≠ rb) := fun k e => by have := HF9.out.new k e; have := H2.out.below.size; omega
  have hkl := HOK.out.kept
  have hfl := HFL.out.1
  clear k9 k2 k0 k1 hFd hc0 HDR
  by_cases hfd : Fd ≠ []
  ·have hpos : 0 < Fd.length := List.length_pos_iff.2 hfd
   have hp2 : P = gotP st (cs.map ChV.ch) Fd := by rw [HP1.out, if_pos hfd]
   have HP2 := hide hp2
   clear hp2 HP1 hfd j9 j2 j0 j1
   rcases nil_or_snoc cs with hcs | ⟨cs', c1, hcs⟩
   ·subst hcs
    have HPP : Hid (P = foundP st Fd 0) := HP2.out
    clear HP2
    go_wp2_with fail
    refine (done_says w9 rb st V ([] ++ [c]) 0 (.slice a9 Fd.length c9) Fd H9.out.ref HF9.out.lies HNB.out (wf_done HOK.out (by decide) HFL.out.1 HFL.out.2) (by omega)).mono ?_
    clear hcm
    rintro e w5 ⟨he, H5⟩
    obtain ⟨k5, t5, s5, hst⟩ := (foundP_step st Fd 0)
    have hT := H9.out.tail H5.out
    have HX5 := hide hT.1
    have HT5 := hide hT.2
    rw [hst] at he
    subst he
    have HST := hide hst
    clear hT hst H5
    have hcz := bc_ HX5.out
    have hfz := fz_ HX5.out
    unfold stepV
    go_wp2_with fail
    clear hcz hfz
    refine bodyPost_ret (results_cell_row rfl _ _ ((w).heap.size + 1) _ _ _ _ rfl (pb_ (.int .i64 k5) (.int .u32 t5) (.string s5) HX5.out) undSt rfl (by kernel_rfl)) rfl ?_
    exact ⟨by rw [(HPP).out, HST.out]; rfl, by rw [(HPP).out]; exact HT5.out _ _ _⟩
   ·have hfst : (((cs.length : Int) + 1) == 1) = false := by rw [hcs]; simp; omega
    go_wp2_with fail
    refine (addresses_any w9 _ Fd HFL.out.1 (fun x hx => (HFL.out.2 x hx).data) HF9.out.lies).mono ?_
    rintro e w10 ⟨a10, c10, rfl, H10'⟩
    have H10 := hide (H9.out.next H10'.out.below)
    by_cases had : addrs Fd = []
    ·have hz : (addrs Fd).length = 0 := by rw [had]; rfl
     have HPP : Hid (P = lookP st (c1.ch :: (cs'.map ChV.ch).reverse)) := by
      unfold Hid
      rw [HP2.out]
      unfold gotP
      rw [hcs]
      simp [had, nextP]
     clear HP2 had
     rw [hz]
     go_wp2_with fail
     subst hcs
     refine (without2_any rb w10 st V cs' c1 c (goes_all rb _).2 H10.out.ref HOK.out).mono ?_
     clear hcm
     rintro e w5 ⟨he, H5⟩
     obtain ⟨k5, t5, s5, hst⟩ := (lookP_step st (c1.ch :: (cs'.map ChV.ch).reverse))
     have hT := H10.out.tail H5.out
     have HX5 := hide hT.1
     have HT5 := hide hT.2
     rw [hst] at he
     subst he
     have HST := hide hst
     clear hT hst H5
     have hcz := bc_ HX5.out
     have hfz := fz_ HX5.out
     unfold stepV
     go_wp2_with fail
     clear hcz hfz
     refine bodyPost_ret (results_cell_row rfl _ _ ((w).heap.size + 1) _ _ _ _ rfl (pb_ (.int .i64 k5) (.int .u32 t5) (.string s5) HX5.out) undSt rfl (by kernel_rfl)) rfl ?_
     exact ⟨by rw [(HPP).out, HST.out]; rfl, by rw [(HPP).out]; exact HT5.out _ _ _⟩
    ·have hapos : 0 < (addrs Fd).length := List.length_pos_iff.2 had
     have hal := addrs_len Fd
     have hz : (((addrs Fd).length : Int) == 0) = false := by simp; exact had
     have HPP : Hid (P = sendP { st with l := cs'.map ChV.ch ++ [{ c1.ch with servers := addrs Fd }] } (cs'.map ChV.ch) { c1.ch with servers := addrs Fd }) := by
      unfold Hid
      rw [HP2.out]
      unfold gotP
      rw [hcs]
      simp [had]
     have HLS := hide H10'.out.lies
     have HNW := hide H10'.out.new
     have HLW := hide (fun k (e : (Value.slice a10 (addrs Fd).length c10).ownBlock = some k) => (H10'.out.own.lt k e).2)
     have hz9 := H9.out.below.size
     have HZW9 : Hid (w.heap.size + 2 ≤ w9.heap.size) := by have := hl_ H9.out.res; unfold Hid; omega
     clear HP2 H10' hfst
     subst hcs
     go_wp2_with fail
     obtain ⟨vR, wq, wa, wu, wx, vK, vS, vL⟩ := V
     have hvL := HVL.out
     dsimp only at hvL
     subst hvL
     clear HVL
     have HLT := hide H10.out.lt
     have HCS := hide H10.out.ref.chs
     obtain ⟨W3, hW3⟩ : ∃ W : World, W = w10.drew := ⟨_, rfl⟩
     have hb3 : Below w10.heap.size w10 W3 := by rw [hW3]; exact below_drewN (Below.refl _ _) 1
     have HM3 := hide (H10.out.next hb3)
     have HF3 := hide (Fr.of_below HM3.out.below (RV.owns ⟨vR, wq, wa, wu, wx, vK, vS, .slice (some ⟨g, 0, none⟩) ((cs' ++ [c1]).length + 1) cap⟩ (cs' ++ [c1] ++ [c]) rb))
     have HZ3 := hide HM3.out.res
     have HLS3 := hide (HLS.out.below hb3)
     have hz3 : W3.heap.size = w10.heap.size := by rw [hW3]; rfl
     have hz10 := H10.out.below.size
     clear hb3 H10 H9 HLS
     have H4 := hide (HM3.out.ref.pop rfl)
     have HF4 := hide (HF3.out.pop rfl)
     have HZ4 := hide ((Below.heap_setCell W3 ⟨rb, 21, none⟩ (.slice (some ⟨g, 0, none⟩) (cs' ++ [c1]).length cap) (w.heap.size + 1) (by show w.heap.size + 1 ≠ rb; omega)).trans HZ3.out)
     have HLS4 := hide (HLS3.out.keep (w' := W3.setCell ⟨rb, 21, none⟩ (.slice (some ⟨g, 0, none⟩) (cs' ++ [c1]).length cap)) (by simp [World.setCell]) (fun k e _ => Below.heap_setCell _ _ _ _ (by have := HNW.out k e; show k ≠ rb; omega)))
     have hc3 := bc_ HM3.out.ref.box
     simp only [refCells] at hc3
     have hf3 := fz_ HM3.out.ref.box
     have HN4 : Hid (∀ k, RV.owns (withL ⟨vR, wq, wa, wu, wx, vK, vS, .slice (some ⟨g, 0, none⟩) ((cs' ++ [c1]).length + 1) cap⟩ (.slice (some ⟨g, 0, none⟩) (cs' ++ [c1]).length cap)) (cs' ++ [c1]) rb k → k < w.heap.size) := fun k hk => by
      rcases hk with hk | ⟨v, hv, hk⟩
      ·exact HLT.out k (.inl hk)
      ·exact HLT.out k (.inr ⟨v, (rs_ _ _ _ _).2 (.inl hv), hk⟩)
     clear HF3 HZ3 HLS3 HM3
     have hnn2 : (cs' ++ [c1]).length = cs'.length + 1 := by simp
     rw [hnn2] at H4 HF4 HZ4 HLS4 hc3 HN4 HLT
     obtain ⟨W4, hW4⟩ : ∃ W : World, W = W3.setCell ⟨rb, 21, none⟩ (.slice (some ⟨g, 0, none⟩) (cs'.length + 1) cap) := ⟨_, rfl⟩
     rw [← hW4] at H4 HF4 HZ4 HLS4
     have hz4 : W4.heap.size = w10.heap.size := by rw [hW4]; simp [World.setCell]; exact hz3
     have HW4 := hide hW4
     have HC3 := hide hc3
     have HF3' := hide hf3
     have hcl2 : cs'.length + 1 ≤ 1000 := by omega
     obtain ⟨g9, cap9, cur9, e9, _, kk1, _⟩ := row_at H4.out
     have hcap : cs'.length + 1 ≤ cap := by cases e9; exact kk1
     clear hW4 hc3 hf3 e9 kk1
     refine Stg.wp_region_stage [14] (fun j w' => w' = Stg.pick4 W3 W4 W4 W4 j) (by kernel_rfl) (by kernel_rfl) hW3.symm ?_
     clear hW3
     iterate 3 refine lex_at (by kernel_rfl) (.pointer (some ⟨rb, 0, none⟩)) (fun _ w' _ => by go_simp) ?_
     refine lex_at (by kernel_rfl) (.pointer (some ⟨rb, 21, none⟩)) (fun _ w' _ => by go_simp) ?_
     refine lex_le 0 (by kernel_rfl) (.slice (some ⟨g, 0, none⟩) (cs'.length + 1 + 1) cap) (fun j w' hj hw' => ?_) ?_
     ·have hj0 : j = 0 := by omega
      subst hj0
      rw [show w' = W3 from hw']
      have hk := HC3.out
      clear hw'
      go_simp
     iterate 2 refine lex_at (by kernel_rfl) (.pointer (some ⟨rb, 0, none⟩)) (fun _ w' _ => by go_simp) ?_
     refine lex_at (by kernel_rfl) (.pointer (some ⟨rb, 21, none⟩)) (fun _ w' _ => by go_simp) ?_
     refine lex_le 0 (by kernel_rfl) (.slice (some ⟨g, 0, none⟩) (cs'.length + 1 + 1) cap) (fun j w' hj hw' => ?_) ?_
     ·have hj0 : j = 0 := by omega
      subst hj0
      rw [show w' = W3 from hw']
      have hk := HC3.out
      clear hw'
      go_simp
     have hwrp : IntKind.i64.wrap ((cs'.length : Int) + 1) = (cs'.length : Int) + 1 := by rw [IntKind.wrap_i64]; omega
     have hq1 : (0 : Int) ≤ (cs'.length : Int) + 1 := by omega
     have hq2 : (cs'.length : Int) + 1 ≤ (cap : Int) := by omega
     refine lex_at (by kernel_rfl) (.int .i64 ((cs'.length : Int) + 1 + 1)) (fun _ w' _ => by go_simp; try (with_reducible rfl)) ?_
     refine lex_at (by kernel_rfl) (.int .i64 ((cs'.length : Int) + 1)) (fun _ w' _ => by go_simp; try (with_reducible rfl)) ?_
     refine lex_at (by kernel_rfl) (.slice (some ⟨g, 0, none⟩) (cs'.length + 1) cap) (fun _ w' _ => by go_simp; try (with_reducible rfl)) ?_
     refine lex_at (by kernel_rfl) (.pointer (some ⟨rb, 0, none⟩)) (fun _ w' _ => by go_simp) ?_
     refine lex_at (by kernel_rfl) (.pointer (some ⟨rb, 21, none⟩)) (fun _ w' _ => by go_simp) ?_
     refine Stg.lex_move 0 (by kernel_rfl) undef ?_ ?_
     ·intro w' hw'
      rw [show w' = W3 from hw', show Stg.pick4 W3 W4 W4 W4 (0 + 1) = W4 from rfl]
      clear hw' w'
      have hw4 := HW4.out.symm
      have hc3 := HC3.out
      have hf3 := HF3'.out
      go_simp
     refine Stg.lex_nil ?_
     intro w' hw'
     rw [show w' = W4 from hw']
     clear hw' w' HW4 HC3 HF3'
     dsimp only [Act.put]
     simp only [List.setIfInBounds_toArray, List.set_cons_zero, List.set_cons_succ]
     have hc4 := bc_ H4.out.box
     simp only [refCells, withL] at hc4
     go_wp2_with fail
     go_quiet (fail)
     have hb5 : Below W4.heap.size W4 (W4.drewN nq) := below_drewN (Below.refl _ _) _
     have H5 := hide (H4.out.keep hb5)
     have HF5 := hide (HF4.out.trans (Fr.of_below hb5 _))
     have HZ5 := hide ((hb5.block _ (hl_ HZ4.out)).trans HZ4.out)
     have HLS5 := hide (HLS4.out.below hb5)
     have hz5 : (W4.drewN nq).heap.size = W4.heap.size := rfl
     clear hb5 H4 HF4 HZ4 HLS4 hc4
     generalize W4.drewN nq = W5 at H5 HF5 HZ5 HLS5 hz5 ⊢
     obtain ⟨g5, cap5, cur5, e5, hg5, _, _, _, k45⟩ := row_at H5.out
     have e5' : g5 = g ∧ cap5 = cap := by
      simp only [withL] at e5
      injection e5 with a b c
      injection a with a
      injection a with a
      exact ⟨a.symm, c.symm⟩
     obtain ⟨rfl, rfl⟩ := e5'
     have hcg := ch_cells hg5 k45 3 (by decide)
     simp only [ChV.cells, List.getElem?_cons_zero, List.getElem?_cons_succ] at hcg
     have hfg := fz_ hg5
     have hsr := H5.out.srv c1 (List.mem_append_right _ (List.mem_singleton.2 rfl))
     have hold : ∀ k, c1.vn.ownBlock = some k → ∃ v ∈ RV.reads (withL ⟨vR, wq, wa, wu, wx, vK, vS, .slice (some ⟨g5, 0, none⟩) (cs'.length + 1 + 1) cap5⟩ (.slice (some ⟨g5, 0, none⟩) (cs'.length + 1) cap5)) (cs' ++ [c1]), v.ownBlock = some k := fun k hk => ⟨_, (rs_ _ _ _ _).2 (.inr (.inr rfl)), hk⟩
     have hnew : ∀ k, (Value.slice a10 (addrs Fd).length c10).ownBlock = some k → w.heap.size ≤ k ∧ k < W5.heap.size := fun k e => ⟨by have := HNW.out k e; omega, by have := HLW.out k e; omega⟩
     have H6 := hide (H5.out.top (c' := ⟨{ c1.ch with servers := addrs Fd }, .slice a10 (addrs Fd).length c10, c1.vn⟩) rfl 3 (.slice a10 (addrs Fd).length c10) (by decide) (by simp [ChV.cells]) HLS5.out hsr.2 (fun k hk => by
      rcases hk with hk | hk
      ·exact ⟨(hnew k hk).2, fun e => by have := HN4.out k (.inl e); have := (hnew k hk).1; omega⟩
      ·obtain ⟨v, hv, e⟩ := hold k hk
       exact ⟨H5.out.lt k (.inr ⟨v, hv, e⟩), H5.out.free v hv k e⟩) (H5.out.caps c1 (List.mem_append_right _ (List.mem_singleton.2 rfl))))
     have HF6 := hide (HF5.out.top (c' := ⟨{ c1.ch with servers := addrs Fd }, .slice a10 (addrs Fd).length c10, c1.vn⟩) rfl 3 (.slice a10 (addrs Fd).length c10) (fun k hk => by
      rcases hk with hk | hk
      ·exact .inr (hnew k hk).1
      ·exact .inl (.inr (hold k hk))))
     have hgl : g5 < w.heap.size := HLT.out g5 (.inl (.inr (.inr (.inr rfl))))
     have HZ6 := hide ((Below.heap_setCell W5 ⟨g5, cs'.length * 6 + 3, none⟩ (.slice a10 (addrs Fd).length c10) (w.heap.size + 1) (by show w.heap.size + 1 ≠ g5; omega)).trans HZ5.out)
     clear H5 HF5 HZ5 HLS5 hsr hold
     go_wp2_with fail
     have HOK6 : Hid (StOk { st with l := cs'.map ChV.ch ++ [{ c1.ch with servers := addrs Fd }] }) := by
      refine HOK.out.withL _ (by simp only [List.length_map, List.length_append, List.length_singleton]; omega) (fun d hd => ?_)
      have hch : ∀ e ∈ cs' ++ [c1], ChOk e.ch := fun e he => HOK.out.chs _ (by rw [← HCS.out]; exact List.mem_map_of_mem (List.mem_append_left _ he))
      simp only [List.mem_append, List.mem_singleton] at hd
      rcases hd with hd | rfl
      ·obtain ⟨e, he, rfl⟩ := List.mem_map.1 hd
       exact hch e (List.mem_append_left _ he)
      ·have k := hch c1 (List.mem_append_right _ (List.mem_singleton.2 rfl))
       exact ⟨k.name, k.kind0, k.kind1, k.zone, by show (addrs Fd).length ≤ _; omega, k.sent, k.names, k.texts⟩
     have HNO6 : Hid (¬ RV.owns (withL ⟨vR, wq, wa, wu, wx, vK, vS, .slice (some ⟨g5, 0, none⟩) (cs'.length + 1 + 1) cap5⟩ (.slice (some ⟨g5, 0, none⟩) (cs'.length + 1) cap5)) (cs' ++ [(⟨{ c1.ch with servers := addrs Fd }, .slice a10 (addrs Fd).length c10, c1.vn⟩ : ChV)]) rb (w.heap.size + 1)) := fun hk => by
      rcases hk with hk | ⟨v, hv, hk⟩
      ·have := HN4.out _ (.inl hk); omega
      ·rcases (rs_ _ _ _ _).1 hv with hv | rfl | rfl
       ·have := HN4.out _ (.inr ⟨v, (rs_ _ _ _ _).2 (.inl hv), hk⟩); omega
       ·have := HNW.out _ hk; have := HZW9.out; omega
       ·have := HN4.out _ (.inr ⟨_, (rs_ _ _ _ _).2 (.inr (.inr rfl)), hk⟩); omega
     refine (send_any _ rb _ _ cs' ⟨{ c1.ch with servers := addrs Fd }, .slice a10 (addrs Fd).length c10, c1.vn⟩ H6.out HOK6.out had).mono ?_
     clear hcm hcg hfg hnew H6 HOK6
     have HF7 : Hid (Fr w (W5.setCell ⟨g5, cs'.length * 6 + 3, none⟩ (.slice a10 (addrs Fd).length c10)) (RV.owns ⟨vR, wq, wa, wu, wx, vK, vS, .slice (some ⟨g5, 0, none⟩) ((cs' ++ [c1]).length + 1) cap5⟩ (cs' ++ [c1] ++ [c]) rb) (RV.owns (withL ⟨vR, wq, wa, wu, wx, vK, vS, .slice (some ⟨g5, 0, none⟩) (cs'.length + 1 + 1) cap5⟩ (.slice (some ⟨g5, 0, none⟩) (cs'.length + 1) cap5)) (cs' ++ [(⟨{ c1.ch with servers := addrs Fd }, .slice a10 (addrs Fd).length c10, c1.vn⟩ : ChV)]) rb)) := by
      unfold Hid
      rw [hnn2]
      exact HF6.out
     rintro e w5 ⟨he, H5⟩
     obtain ⟨k5, t5, s5, hst⟩ := (sendP_step _ _ _)
     have hT := (fr_tail HF7.out HZ6.out HNO6.out) H5.out
     have HX5 := hide hT.1
     have HT5 := hide hT.2
     rw [hst] at he
     subst he
     have HST := hide hst
     clear hT hst H5
     have hcz := bc_ HX5.out
     have hfz := fz_ HX5.out
     unfold stepV
     go_wp2_with fail
     clear hcz hfz
     refine bodyPost_ret (results_cell_row rfl _ _ ((w).heap.size + 1) _ _ _ _ rfl (pb_ (.int .i64 k5) (.int .u32 t5) (.string s5) HX5.out) undSt rfl (by kernel_rfl)) rfl ?_
     exact ⟨by rw [(HPP).out, HST.out]; rfl, by rw [(HPP).out]; exact HT5.out _ _ _⟩
  have hf0 : Fd = [] := by simpa using hfd
  subst hf0
  have hp2 : P = restP st (cs.map ChV.ch) c.ch m (m.an.filter (ofB c.ch.zone c.ch.name 5)) := by rw [HP1.out, if_neg hfd]
  have HP2 := hide hp2
  have HDR : Hid (Below W2.heap.size W2 w9.drew) := HB9.out.trans ((below_drewN (Below.refl _ _) 1).mono HB9.out.size)
  clear hp2 HP1 hfd HFL HNB hfl HF9
  go_wp2_with fail
  go_region_held3 (fun w' => w'.cell? ⟨w.heap.size, 9, none⟩ = some (.slice aa m.an.length ca) ∧ w'.cell? ⟨g, cs.length * 6 + 2, none⟩ = some (.string c.ch.zone) ∧ w'.cell? ⟨g, cs.length * 6, none⟩ = some (.string c.ch.name) ∧ w'.cell? ⟨g, cs.length * 6 + 1, none⟩ = some (.int .u16 c.ch.kind)) (first | (go_keep; done) | exact hs11) (first | (go_at_call 134; refine (HOF.out _ _ HDR.out).mono ?_; rintro e w11 ⟨a11, c11, rfl, HB11, HF11, hs11⟩))
  obtain ⟨i9, i2, i0, i1⟩ := hs11
  clear j9 j2 j0 j1 HDR H9
  have H11 := hide (H2.out.next HB11.out)
  obtain ⟨Ot, hOt⟩ : ∃ A', A' = m.an.filter (ofB c.ch.zone c.ch.name 5) := ⟨_, rfl⟩
  rw [← hOt] at HF11 HP2 ⊢
  have HOL : Hid (Ot.length ≤ 65535 ∧ ∀ x ∈ Ot, WfR x) := ⟨by rw [hOt]; exact Nat.le_trans (List.length_filter_le _ _) HM.out.an, fun x hx => by rw [hOt] at hx; exact wf_an HM.out (List.mem_filter.1 hx).1⟩
  clear hOt
  by_cases hot : Ot ≠ []
  ·obtain ⟨x, ot, rfl⟩ : ∃ x ot, Ot = x :: ot := by
    cases Ot with
    | nil => exact absurd rfl hot
    | cons x ot => exact ⟨x, ot, rfl⟩
   clear hot i9 i2 i0 i1
   have HWX := hide (HOL.out.2 x (List.mem_cons_self ..))
   obtain ⟨av, cv, hav, -, hlie⟩ := HF11.out.lies
   rw [List.length_map] at hav
   cases hav
   rcases hlie with he | ⟨b, off, rfl, hbl, hc⟩
   ·exfalso; cases he
   obtain ⟨x0, x1, x2, x3, x4⟩ := Lies.rat hc (show (x :: ot)[0]? = some x from rfl)
   clear hc hbl
   simp only [Nat.zero_mul, Nat.add_zero] at x0 x1 x2 x3 x4
   simp only [List.length_cons]
   rcases nil_or_snoc cs with hcs | ⟨cs', c1, hcs⟩
   ·subst hcs
    have HPP : Hid (P = standsP st x q.kind) := by
     unfold Hid
     rw [HP2.out]
     unfold restP
     rw [HQ.out]
     rfl
    clear HP2
    go_wp2_with fail
    refine (stands_any w11 rb st V ([] ++ [c]) x q H11.out.ref HOK.out HWX.out HQ.out hqk hsn).mono ?_
    clear hcm x0 x1 x2 x3 x4
    rintro e w5 ⟨he, H5⟩
    obtain ⟨k5, t5, s5, hst⟩ := (standsP_step st x q.kind)
    have hT := H11.out.tail H5.out
    have HX5 := hide hT.1
    have HT5 := hide hT.2
    rw [hst] at he
    subst he
    have HST := hide hst
    clear hT hst H5
    have hcz := bc_ HX5.out
    have hfz := fz_ HX5.out
    unfold stepV
    go_wp2_with fail
    clear hcz hfz
    refine bodyPost_ret (results_cell_row rfl _ _ ((w).heap.size + 1) _ _ _ _ rfl (pb_ (.int .i64 k5) (.int .u32 t5) (.string s5) HX5.out) undSt rfl (by kernel_rfl)) rfl ?_
    exact ⟨by rw [(HPP).out, HST.out]; rfl, by rw [(HPP).out]; exact HT5.out _ _ _⟩
   ·have hfst : (((cs.length : Int) + 1) == 1) = false := by rw [hcs]; simp; omega
    clear x0 x1 x2 x3 x4
    go_wp2_with fail
    subst hcs
    have HPP : Hid (P = lookP st (c1.ch :: (cs'.map ChV.ch).reverse)) := by
     unfold Hid
     rw [HP2.out]
     unfold restP
     simp [nextP]
    refine (without2_any rb w11 st V cs' c1 c (goes_all rb _).2 H11.out.ref HOK.out).mono ?_
    clear hcm
    rintro e w5 ⟨he, H5⟩
    obtain ⟨k5, t5, s5, hst⟩ := (lookP_step st (c1.ch :: (cs'.map ChV.ch).reverse))
    have hT := H11.out.tail H5.out
    have HX5 := hide hT.1
    have HT5 := hide hT.2
    rw [hst] at he
    subst he
    have HST := hide hst
    clear hT hst H5
    have hcz := bc_ HX5.out
    have hfz := fz_ HX5.out
    unfold stepV
    go_wp2_with fail
    clear hcz hfz
    refine bodyPost_ret (results_cell_row rfl _ _ ((w).heap.size + 1) _ _ _ _ rfl (pb_ (.int .i64 k5) (.int .u32 t5) (.string s5) HX5.out) undSt rfl (by kernel_rfl)) rfl ?_
    exact ⟨by rw [(HPP).out, HST.out]; rfl, by rw [(HPP).out]; exact HT5.out _ _ _⟩
  have ho0 : Ot = [] := by simpa using hot
  subst ho0
  clear hot HOL HF11
 ·clear i9 i2 i0 i1 hcm
  have hcs0 : ((((cs.length : Int) + 1) == 1) = true ∧ cs = []) ∨ ((((cs.length : Int) + 1) == 1) = false ∧ cs ≠ []) := by
   cases cs with
   | nil => exact .inl ⟨rfl, rfl⟩
   | cons a l => exact .inr ⟨by simp; omega, by simp⟩
  have hcm := bc_ H11.out.msg
  simp only [mc_] at hcm
  rw [hcd] at hcm
  go_wp2_with fail
  clear hcm
  have HB0 : Hid (Below w11.heap.size w11 w11) := Below.refl _ _
  go_loopw [10] (fun i wr => ∃ k : Nat, i = .int .i64 k ∧ k ≤ m.au.length ∧ Hid ((m.au.take k).find? (leads c.ch) = none) ∧ Hid (Below w11.heap.size w11 wr)) (fun i _ => m.au.length - (intOf i).toNat)
  case atStart => exact ⟨0, rfl, Nat.zero_le _, by simp [Hid], HB0.out⟩
  case round =>
   obtain ⟨k, rfl, hk, HFI, HB⟩ := hrel
   have HW := hide (H11.out.next HB.out)
   have hcm := bc_ HW.out.msg
   simp only [mc_] at hcm
   rw [hcd] at hcm
   have hul := HM.out.au
   by_cases hin : k < m.au.length
   ·obtain ⟨r, hr⟩ : ∃ r, m.au[k]? = some r := ⟨_, List.getElem?_eq_getElem hin⟩
    obtain ⟨au', cu', hau, -, hlie⟩ := (show Lies wr 5 (.slice au m.au.length cu) (m.au.map Rc.cells) from HW.out.at_.u)
    rw [List.length_map] at hau
    cases hau
    rcases hlie with he | ⟨b, off, rfl, hbl, hc⟩
    ·exfalso; have := congrArg List.length he; simp at this; rw [this] at hin; simp at hin
    obtain ⟨c0, c1, c2, c3, c4⟩ := Lies.rat hc hr
    have HN1 := hide (HM.out.named.u r (List.mem_of_getElem? hr))
    have HTK : Hid ((m.au.take (k + 1)).find? (leads c.ch) = if leads c.ch r then some r else none) := by
     unfold Hid
     rw [take_snoc m.au k r hr, List.find?_append, HFI.out]
     cases hld : leads c.ch r <;> simp [List.find?, hld]
    have HSP : Hid (m.au = m.au.take (k + 1) ++ m.au.drop (k + 1)) := (List.take_append_drop _ _).symm
    obtain ⟨nm, kd, cl, tt, dt⟩ := r
    dsimp only at c0 c1 c2 c3 c4
    have HN2 : Hid (nameB nm = true) := HN1.out.1
    have hnz := (nameB_size HN2.out).2
    clear hc hr
    go_wp2_with fail
    have hb12 : Below wr.heap.size wr (wr.alloc (.cells #[.string nm, .int .u16 kd, .int .u16 cl, .int .u32 tt, .string dt] 69)) := (Below.refl _ _).alloc (Nat.le_refl _) _
    have hx12 := hn_ wr (.cells #[.string nm, .int .u16 kd, .int .u16 cl, .int .u32 tt, .string dt] 69)
    have H12 := hide (HW.out.next hb12)
    have HB12 := hide (HB.out.trans (hb12.mono HB.out.size))
    clear hb12 HW hcm c0 c1 c2 c3 c4 HB hbl
    generalize wr.alloc _ = W12 at hx12 H12 HB12 ⊢
    have hc12 := bc_ hx12
    have hg2 : W12.cell? ⟨g, cs.length * 6 + 2, none⟩ = some (.string c.ch.zone) := (fm_chase H12.out HVL.out 2 (by decide)).trans rfl
    have hg0 : W12.cell? ⟨g, cs.length * 6, none⟩ = some (.string c.ch.name) := (fm_chase H12.out HVL.out 0 (by decide)).trans rfl
    go_quiet ((go_at_call 138; exact quiet_drew (refLies_any _ _ HN2.out _)))
    have hb13 : Below W12.heap.size W12 (W12.drewN nq) := below_drewN (Below.refl _ _) _
    have H13 := hide (H12.out.next hb13)
    have HB13 := hide (HB12.out.trans (hb13.mono HB12.out.size))
    have hx13 := (hb13.block _ (hl_ hx12)).trans hx12
    clear hb13 H12 HB12 hx12 hc12 hg2 hg0
    generalize W12.drewN nq = W13 at H13 HB13 hx13 ⊢
    clear nq
    go_wp2_with fail
    have hc13 := bc_ hx13
    have hg2 : W13.cell? ⟨g, cs.length * 6 + 2, none⟩ = some (.string c.ch.zone) := (fm_chase H13.out HVL.out 2 (by decide)).trans rfl
    have hg0 : W13.cell? ⟨g, cs.length * 6, none⟩ = some (.string c.ch.name) := (fm_chase H13.out HVL.out 0 (by decide)).trans rfl
    go_quiet ((go_at_call 90; exact quiet_drew (refSame_any nm c.ch.zone (Nat.le_trans hnz (by decide)) _)))
    have hb14 : Below W13.heap.size W13 (W13.drewN nq) := below_drewN (Below.refl _ _) _
    have H14 := hide (H13.out.next hb14)
    have HB14 := hide (HB13.out.trans (hb14.mono HB13.out.size))
    have hx14 := (hb14.block _ (hl_ hx13)).trans hx13
    clear hb14 H13 HB13 hx13 hc13 hg2 hg0
    generalize W13.drewN nq = W14 at H14 HB14 hx14 ⊢
    clear nq
    go_wp2_with fail
    have hc14 := bc_ hx14
    have hg2 : W14.cell? ⟨g, cs.length * 6 + 2, none⟩ = some (.string c.ch.zone) := (fm_chase H14.out HVL.out 2 (by decide)).trans rfl
    have hg0 : W14.cell? ⟨g, cs.length * 6, none⟩ = some (.string c.ch.name) := (fm_chase H14.out HVL.out 0 (by decide)).trans rfl
    go_quiet ((go_at_call 138; exact quiet_drew (refLies_any _ _ HCN.out _)))
    have hb15 : Below W14.heap.size W14 (W14.drewN nq) := below_drewN (Below.refl _ _) _
    have H15 := hide (H14.out.next hb15)
    have HB15 := hide (HB14.out.trans (hb15.mono HB14.out.size))
    have hx15 := (hb15.block _ (hl_ hx14)).trans hx14
    clear hb15 H14 HB14 hx14 hc14 hg2 hg0
    generalize W14.drewN nq = W15 at H15 HB15 hx15 ⊢
    clear nq
    have hc15 := bc_ hx15
    have hg2 : W15.cell? ⟨g, cs.length * 6 + 2, none⟩ = some (.string c.ch.zone) := (fm_chase H15.out HVL.out 2 (by decide)).trans rfl
    have hg0 : W15.cell? ⟨g, cs.length * 6, none⟩ = some (.string c.ch.name) := (fm_chase H15.out HVL.out 0 (by decide)).trans rfl
    have HLD : Hid (leads c.ch ⟨nm, kd, cl, tt, dt⟩ = (liesB nm c.ch.zone && !sameB nm c.ch.zone && liesB c.ch.name nm && decide (kd = 2) && decide (cl = 1))) := rfl
    clear hg2 hg0 HN2 HFI
    generalize liesB nm c.ch.zone = b1 at HLD ⊢
    generalize sameB nm c.ch.zone = b2 at HLD ⊢
    generalize liesB c.ch.name nm = b3 at HLD ⊢
    cases b1
    ·clear hc15
     go_wp2_with fail
     exact ⟨⟨k + 1, by go_num, by omega, by unfold Hid; rw [HTK.out, if_neg (by rw [HLD.out]; simp)], HB15.out⟩, by simp [intOf]; omega⟩
    cases b2
    rotate_left
    ·clear hc15
     go_wp2_with fail
     exact ⟨⟨k + 1, by go_num, by omega, by unfold Hid; rw [HTK.out, if_neg (by rw [HLD.out]; simp)], HB15.out⟩, by simp [intOf]; omega⟩
    cases b3
    ·clear hc15
     go_wp2_with fail
     exact ⟨⟨k + 1, by go_num, by omega, by unfold Hid; rw [HTK.out, if_neg (by rw [HLD.out]; simp)], HB15.out⟩, by simp [intOf]; omega⟩
    by_cases q3 : kd = 2
    rotate_left
    ·have q5 : ((kd : Int) == 2) = false := by simp; exact q3
     go_wp2_with fail
     exact ⟨⟨k + 1, by go_num, by omega, by unfold Hid; rw [HTK.out, if_neg (by rw [HLD.out]; simp [q3])], HB15.out⟩, by simp [intOf]; omega⟩
    subst q3
    by_cases q4 : cl = 1
    rotate_left
    ·have q5 : ((cl : Int) == 1) = false := by simp; exact q4
     go_wp2_with fail
     exact ⟨⟨k + 1, by go_num, by omega, by unfold Hid; rw [HTK.out, if_neg (by rw [HLD.out]; simp [q4])], HB15.out⟩, by simp [intOf]; omega⟩
    subst q4
    have HPP : Hid (P = downP st (cs.map ChV.ch) c.ch nm m) := by
     unfold Hid
     rw [HP2.out]
     unfold restP
     have hfn : m.au.find? (leads c.ch) = some ⟨nm, 2, 1, tt, dt⟩ := by
      rw [HSP.out, List.find?_append, HTK.out, if_pos (by rw [HLD.out]; simp)]
      rfl
     rw [hfn, hcd]
     simp
    have hcm := bc_ H15.out.msg
    simp only [mc_] at hcm
    clear HTK HLD HSP
    go_wp2_with fail
    have hdn := (down_any W15 rb st V cs c nm m vq _ _ vx H15.out.ref HOK.out H15.out.at_ HM.out.named HM.out.au HM.out.ex (fun r hr hk => (nameB_size ((HM.out.named.u r hr).2 (by rw [hk]; rfl))).2) (fun r hr => (wf_ex HM.out hr).data) hnz)
    unfold mc_ at hdn
    rw [hcd] at hdn
    refine hdn.mono ?_
    clear hdn
    clear hcm hc15
    rintro e w5 ⟨he, H5⟩
    obtain ⟨k5, t5, s5, hst⟩ := (downP_step st (cs.map ChV.ch) c.ch nm m)
    have hT := H15.out.tail H5.out
    have HX5 := hide hT.1
    have HT5 := hide hT.2
    rw [hst] at he
    subst he
    have HST := hide hst
    clear hT hst H5
    have hcz := bc_ HX5.out
    have hfz := fz_ HX5.out
    unfold stepV
    go_wp2_with fail
    clear hcz hfz
    refine bodyPost_ret (results_cell_row rfl _ _ ((w).heap.size + 1) _ _ _ _ rfl (pb_ (.int .i64 k5) (.int .u32 t5) (.string s5) HX5.out) undSt rfl (by kernel_rfl)) rfl ?_
    exact ⟨by rw [(HPP).out, HST.out]; rfl, by rw [(HPP).out]; exact HT5.out _ _ _⟩
   ·have hp3 : P = if m.own then (if cs.map ChV.ch = [] then foundP st [] 0 else nextP st (cs.map ChV.ch)) else sendP st (cs.map ChV.ch) c.ch := by
     rw [HP2.out]
     unfold restP
     have hfn : m.au.find? (leads c.ch) = none := by
      have := HFI.out
      rwa [List.take_of_length_le (by omega)] at this
     rw [hfn, hcd]
     simp
    have HP3 := hide hp3
    clear hp3 HP2 HFI
    generalize hown : m.own = ow at hcm HP3
    cases ow
    ·have HPP : Hid (P = sendP st (cs.map ChV.ch) c.ch) := HP3.out
     go_wp2_with fail
     refine (send_any wr rb st V cs c HW.out.ref HOK.out hne).mono ?_
     clear hcm
     rintro e w5 ⟨he, H5⟩
     obtain ⟨k5, t5, s5, hst⟩ := (sendP_step st (cs.map ChV.ch) c.ch)
     have hT := HW.out.tail H5.out
     have HX5 := hide hT.1
     have HT5 := hide hT.2
     rw [hst] at he
     subst he
     have HST := hide hst
     clear hT hst H5
     have hcz := bc_ HX5.out
     have hfz := fz_ HX5.out
     unfold stepV
     go_wp2_with fail
     clear hcz hfz
     refine bodyPost_ret (results_cell_row rfl _ _ ((w).heap.size + 1) _ _ _ _ rfl (pb_ (.int .i64 k5) (.int .u32 t5) (.string s5) HX5.out) undSt rfl (by kernel_rfl)) rfl ?_
     exact ⟨by rw [(HPP).out, HST.out]; rfl, by rw [(HPP).out]; exact HT5.out _ _ _⟩
    rcases nil_or_snoc cs with hcs | ⟨cs', c1, hcs⟩
    ·subst hcs
     have HPP : Hid (P = foundP st [] 0) := HP3.out
     go_wp2_with fail
     refine (done_says wr rb st V ([] ++ [c]) 0 (.slice none 0 0) [] HW.out.ref ⟨none, 0, rfl, fun _ => rfl, .inl rfl⟩ (fun k e => by cases e) (wf_done HOK.out (by decide) (by simp) (by simp)) (by have := HOK.out.kept; simp; omega)).mono ?_
     clear hcm
     rintro e w5 ⟨he, H5⟩
     obtain ⟨k5, t5, s5, hst⟩ := (foundP_step st [] 0)
     have hT := HW.out.tail H5.out
     have HX5 := hide hT.1
     have HT5 := hide hT.2
     rw [hst] at he
     subst he
     have HST := hide hst
     clear hT hst H5
     have hcz := bc_ HX5.out
     have hfz := fz_ HX5.out
     unfold stepV
     go_wp2_with fail
     clear hcz hfz
     refine bodyPost_ret (results_cell_row rfl _ _ ((w).heap.size + 1) _ _ _ _ rfl (pb_ (.int .i64 k5) (.int .u32 t5) (.string s5) HX5.out) undSt rfl (by kernel_rfl)) rfl ?_
     exact ⟨by rw [(HPP).out, HST.out]; rfl, by rw [(HPP).out]; exact HT5.out _ _ _⟩
    ·have hfst : (((cs.length : Int) + 1) == 1) = false := by rw [hcs]; simp; omega
     clear hcs0
     go_wp2_with fail
     subst hcs
     have HPP : Hid (P = lookP st (c1.ch :: (cs'.map ChV.ch).reverse)) := by
      unfold Hid
      rw [HP3.out]
      simp [nextP]
     refine (without2_any rb wr st V cs' c1 c (goes_all rb _).2 HW.out.ref HOK.out).mono ?_
     clear hcm
     rintro e w5 ⟨he, H5⟩
     obtain ⟨k5, t5, s5, hst⟩ := (lookP_step st (c1.ch :: (cs'.map ChV.ch).reverse))
     have hT := HW.out.tail H5.out
     have HX5 := hide hT.1
     have HT5 := hide hT.2
     rw [hst] at he
     subst he
     have HST := hide hst
     clear hT hst H5
     have hcz := bc_ HX5.out
     have hfz := fz_ HX5.out
     unfold stepV
     go_wp2_with fail
     clear hcz hfz
     refine bodyPost_ret (results_cell_row rfl _ _ ((w).heap.size + 1) _ _ _ _ rfl (pb_ (.int .i64 k5) (.int .u32 t5) (.string s5) HX5.out) undSt rfl (by kernel_rfl)) rfl ?_
     exact ⟨by rw [(HPP).out, HST.out]; rfl, by rw [(HPP).out]; exact HT5.out _ _ _⟩
 ·clear i9 i2 i0 i1 hcm
  have hcm := bc_ H11.out.msg
  simp only [mc_] at hcm
  rw [hcd] at hcm
  have hp3 : P = if cs.map ChV.ch = [] then foundP st [] 3 else nextP st (cs.map ChV.ch) := by
   rw [HP2.out]
   unfold restP
   rw [hcd]
   simp
  have HP3 := hide hp3
  clear hp3 HP2
  rcases nil_or_snoc cs with hcs | ⟨cs', c1, hcs⟩
  ·subst hcs
   have HPP : Hid (P = foundP st [] 3) := HP3.out
   go_wp2_with fail
   refine (done_says w11 rb st V ([] ++ [c]) 3 (.slice none 0 0) [] H11.out.ref ⟨none, 0, rfl, fun _ => rfl, .inl rfl⟩ (fun k e => by cases e) (wf_done HOK.out (by decide) (by simp) (by simp)) (by have := HOK.out.kept; simp; omega)).mono ?_
   clear hcm
   rintro e w5 ⟨he, H5⟩
   obtain ⟨k5, t5, s5, hst⟩ := (foundP_step st [] 3)
   have hT := H11.out.tail H5.out
   have HX5 := hide hT.1
   have HT5 := hide hT.2
   rw [hst] at he
   subst he
   have HST := hide hst
   clear hT hst H5
   have hcz := bc_ HX5.out
   have hfz := fz_ HX5.out
   unfold stepV
   go_wp2_with fail
   clear hcz hfz
   refine bodyPost_ret (results_cell_row rfl _ _ ((w).heap.size + 1) _ _ _ _ rfl (pb_ (.int .i64 k5) (.int .u32 t5) (.string s5) HX5.out) undSt rfl (by kernel_rfl)) rfl ?_
   exact ⟨by rw [(HPP).out, HST.out]; rfl, by rw [(HPP).out]; exact HT5.out _ _ _⟩
  ·have hfst : (((cs.length : Int) + 1) == 1) = false := by rw [hcs]; simp; omega
   go_wp2_with fail
   subst hcs
   have HPP : Hid (P = lookP st (c1.ch :: (cs'.map ChV.ch).reverse)) := by
    unfold Hid
    rw [HP3.out]
    simp [nextP]
   refine (without2_any rb w11 st V cs' c1 c (goes_all rb _).2 H11.out.ref HOK.out).mono ?_
   clear hcm
   rintro e w5 ⟨he, H5⟩
   obtain ⟨k5, t5, s5, hst⟩ := (lookP_step st (c1.ch :: (cs'.map ChV.ch).reverse))
   have hT := H11.out.tail H5.out
   have HX5 := hide hT.1
   have HT5 := hide hT.2
   rw [hst] at he
   subst he
   have HST := hide hst
   clear hT hst H5
   have hcz := bc_ HX5.out
   have hfz := fz_ HX5.out
   unfold stepV
   go_wp2_with fail
   clear hcz hfz
   refine bodyPost_ret (results_cell_row rfl _ _ ((w).heap.size + 1) _ _ _ _ rfl (pb_ (.int .i64 k5) (.int .u32 t5) (.string s5) HX5.out) undSt rfl (by kernel_rfl)) rfl ?_
   exact ⟨by rw [(HPP).out, HST.out]; rfl, by rw [(HPP).out]; exact HT5.out _ _ _⟩
end Go.Proofs.YtafoepfhepdcoaaGreat
