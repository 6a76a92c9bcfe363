import Derived.Test.YtafoepfhepdcoaaGreatM36
/- The reference: the last chase, which is not the first one, has found no address. -/
namespace Go.Proofs.YtafoepfhepdcoaaGreat
open Go.RowKit Go.Trawl

attribute [local go_sem] Stg.upon
theorem lookP_l (st : RSt) (l : List Ch) : ∀ r, lookP { st with l := l } r = if r = [] then failP { st with l := l } else lookP st r
  | [] => rfl
  | c :: r => by
    rw [if_neg (by simp)]
    unfold lookP
    split
    · split
      · rfl
      · rw [lookP_l st l r, if_neg (by assumption)]
    · split
      · split
        · rfl
        · rw [lookP_l st l r, if_neg (by assumption)]
      · rfl

set_option maxRecDepth 10000 in
set_option maxHeartbeats 4000000 in
theorem without2_any (rb : Nat) (w : World) (st : RSt) (V : RV) (cs : List ChV) (c1 c : ChV) (hL : GoesLook rb cs.length) (h : RefAt w rb st V (cs ++ [c1] ++ [c])) (hok : StOk st) :
    Calls Tryz.prog 136 #[.pointer (some ⟨rb, 0, none⟩)] w (Says w rb V (cs ++ [c1] ++ [c]) (lookP st (c1.ch :: (cs.map ChV.ch).reverse))) := by
  have HLT := hide h.lt
  have hB1 := (Below.refl w.heap.size w).alloc (Nat.le_refl _) (.cells #[Value.int IntKind.i64 0, Value.int IntKind.u32 0, Value.string { data := #[] }] 111)
  have H1 := hide (h.keep hB1)
  have HF1 := hide (Fr.of_below hB1 (V.owns (cs ++ [c1] ++ [c]) rb))
  have HZ1 := hide (heap_new w (.cells #[Value.int IntKind.i64 0, Value.int IntKind.u32 0, Value.string { data := #[] }] 111))
  have HLI := hide hL
  have HCS := hide h.chs
  have HOK := hide hok
  clear h hB1 hL
  unfold Says
  go_enter Tryz.func136, Tryz.ntmps136
  go_wp2_with fail
  generalize w.alloc (.cells #[Value.int IntKind.i64 0, Value.int IntKind.u32 0, Value.string { data := #[] }] 111) = W1 at H1 HF1 HZ1 ⊢
  obtain ⟨g, cap, cur, hvL, hg, k1, k2, k3, k4⟩ := row_at H1.out
  obtain ⟨vR, vq, va, vu, vx, vK, vS, vL⟩ := V
  dsimp only at hvL
  subst hvL
  have hcl : (cs ++ [c1]).length ≤ 1000 := by
    have := hok.len
    rw [← H1.out.chs] at this
    simp only [List.length_map, List.length_append] at this ⊢
    omega
  obtain ⟨W3, hW3⟩ : ∃ W : World, W = W1.drew := ⟨_, rfl⟩
  have hb3 : Below W1.heap.size W1 W3 := by rw [hW3]; exact below_drewN (Below.refl _ _) 1
  have H3 := hide (H1.out.keep hb3)
  have HF3 := hide (HF1.out.trans (Fr.of_below hb3 _))
  have HZ3 := hide ((hb3.block _ (heap_lt HZ1.out)).trans HZ1.out)
  clear hb3 H1 HF1 HZ1 hg k4
  have H4 := hide (H3.out.pop rfl)
  have HF4 := hide (HF3.out.pop rfl)
  have hzr : rb < w.heap.size := HLT.out rb (.inl (.inl rfl))
  have HZ4 := hide ((Below.heap_setCell W3 ⟨rb, 21, none⟩ (.slice (some ⟨g, 0, none⟩) (cs ++ [c1]).length cap) w.heap.size (Nat.ne_of_gt hzr)).trans HZ3.out)
  have hc3 := box_cells H3.out.box
  simp only [refCells] at hc3
  have hf3 := frozen_of_block H3.out.box
  have HN4 : ∀ k, RV.owns (withL ⟨vR, vq, va, vu, vx, vK, vS, .slice (some ⟨g, 0, none⟩) ((cs ++ [c1]).length + 1) cap⟩ (.slice (some ⟨g, 0, none⟩) (cs ++ [c1]).length cap)) (cs ++ [c1]) rb k → k < w.heap.size := fun k hk => by
    rcases hk with hk | ⟨v, hv, hk⟩
    · exact HLT.out k (.inl hk)
    · exact HLT.out k (.inr ⟨v, (reads_snoc _ _ _ _).2 (.inl hv), hk⟩)
  have HN4' := hide HN4
  clear HN4 H3 HF3
  generalize hnn : (cs ++ [c1]).length = nn at H4 HF4 HZ4 hc3 hcl k1 HN4'
  have HNN := hide hnn
  clear hnn
  obtain ⟨W4, hW4⟩ : ∃ W : World, W = W3.setCell ⟨rb, 21, none⟩ (.slice (some ⟨g, 0, none⟩) nn cap) := ⟨_, rfl⟩
  rw [← hW4] at H4 HF4 HZ4
  obtain ⟨f, hf0, hf1, hf2, hfp⟩ := Stg.coverE W3 W3 W3
  clear hf1 hf2
  have hcr := hfp (fun W => ∀ o, W.cell? ⟨rb, o, none⟩ = W3.cell? ⟨rb, o, none⟩) (fun _ => rfl) (fun _ => rfl) (fun _ => rfl)
  have hcs := fun (k o : Nat) => (hcr k o).trans (hc3 o)
  have HU : Hid (∀ (j : Nat) (w' : World), j < 1 → w' = Stg.pick4 W3 W4 W4 W4 j → ∃ n, w' = f n) := fun j w' hj e => ⟨0, by rw [e, show j = 0 by omega, ← hf0]; rfl⟩
  obtain ⟨f4, hq0, hq1, hq2, hq3, _⟩ := Stg.coverE4 W3 W4 W4 W4
  have HU4 := hide (Stg.pick4_cover4 hq0 hq1 hq2 hq3)
  have HW4 := hide hW4
  clear hq0 hq1 hq2 hq3 hf0 hfp hcr hW4
  refine Stg.wp_region_stage [14] (fun j w' => w' = Stg.pick4 W3 W4 W4 W4 j) (by kernel_rfl) (by kernel_rfl) hW3.symm ?_
  clear hW3
  refine Stg.lex_upto 12 1 (by decide) (by kernel_rfl) HU.out ?_
  simp only [List.take_succ_cons, List.take_zero, List.drop_succ_cons, List.drop_zero]
  repeat (first | go_big_quiet_step (fail) | quiet_step (fail))
  refine wpQuiet_nil ?_
  refine Stg.lex_upto 2 4 (by decide) (by kernel_rfl) HU4.out ?_
  simp only [List.take_succ_cons, List.take_zero, List.drop_succ_cons, List.drop_zero]
  repeat (first | go_big_quiet_step (fail) | quiet_step (fail))
  refine wpQuiet_nil ?_
  refine Stg.lex_move 0 (by kernel_rfl) undef ?_ ?_
  · intro w' hw'
    rw [show w' = W3 from hw', show Stg.pick4 W3 W4 W4 W4 (0 + 1) = W4 from rfl]
    clear hw' w'
    have hw4 := HW4.out.symm
    go_simp
  refine Stg.lex_nil ?_
  intro w' hw'
  rw [show w' = W4 from hw']
  clear hw' w' HU HU4 hc3 hf3 HW4 hcs
  dsimp only [Act.put]
  go_wp2_with fail
  have HST : Hid (StOk { st with l := (cs ++ [c1]).map ChV.ch }) := by
    have hall := HOK.out.chs
    rw [← HCS.out] at hall
    refine HOK.out.withL _ ?_ (fun x hx => hall x (by rw [List.map_append]; exact List.mem_append_left _ hx))
    rw [List.length_map, HNN.out]
    exact hcl
  refine (HLI.out W4 _ _ cs c1 rfl H4.out HST.out).mono ?_
  rintro e w5 ⟨he, h5⟩
  obtain ⟨V5, cs5, h51, h52⟩ := h5.out
  have hA : lookP { st with l := (cs ++ [c1]).map ChV.ch } (c1.ch :: (cs.map ChV.ch).reverse) = lookP st (c1.ch :: (cs.map ChV.ch).reverse) := by
    rw [lookP_l, if_neg (by simp)]
  rw [hA] at he h51
  obtain ⟨k, to, s, hks⟩ := lookP_step st (c1.ch :: (cs.map ChV.ch).reverse)
  rw [hks] at he
  subst he
  have hz4 := heap_lt HZ4.out
  have HZ5 := hide ((h52.block _ (heap_lt HZ4.out) (fun e => by have := HN4'.out _ e; omega)).trans HZ4.out)
  have HN5 : Hid (¬ V5.owns cs5 rb w.heap.size) := fun e => by
    rcases h52.new _ e with h | h
    · have := HN4'.out _ h; omega
    · omega
  have HF5 := hide (HF4.out.trans h52)
  have H5 := hide h51
  clear h5 h51 h52 H4 HF4 hA
  unfold stepV
  have hcz := box_cells HZ5.out
  have hfz := frozen_of_block HZ5.out
  have HKS := hide hks
  clear hks
  go_wp2_with fail
  clear hcz hfz
  refine bodyPost_ret (results_cell_row rfl _ _ w.heap.size _ _ _ _ rfl (put3_box (.int .i64 k) (.int .u32 to) (.string s) HZ5.out) undSt rfl (by kernel_rfl)) rfl ?_
  have hG := put3_grown w5 w.heap.size (.int .i64 k) (.int .u32 to) (.string s)
  refine ⟨by rw [HKS.out]; rfl, V5, cs5, H5.out.aside hG HN5.out, HF5.out.write hG (Nat.le_refl _)⟩
end Go.Proofs.YtafoepfhepdcoaaGreat

/- The reference: what the last chase was for goes on with the next name, or has none either. -/
namespace Go.Proofs.YtafoepfhepdcoaaGreat
open Go.RowKit Go.Trawl

attribute [local go_sem] Stg.upon
def lenAt (rb : Nat) (w : World) : Nat := match w.cell? ⟨rb, 21, none⟩ with
  | some (.slice _ n _) => n
  | _ => 0
structure WInv (rb : Nat) (w wr : World) (st : RSt) (V : RV) (cs : List ChV) (p : RSt × Value) (V' : RV) (cs' : List ChV) (c' : ChV) (l : List Ch) (n : Nat) : Prop where
  at_ : RefAt wr rb { st with l := l } V' (cs' ++ [c'])
  ok : StOk { st with l := l }
  goes : withoutP { st with l := l } c'.ch (cs'.map ChV.ch).reverse = p
  fr : Fr w wr (V.owns cs rb) (V'.owns (cs' ++ [c']) rb)
  le : cs'.length ≤ n
  step : wr.heap[w.heap.size]? = some (.cells #[Value.int IntKind.i64 0, Value.int IntKind.u32 0, Value.string { data := #[] }] 111)
  out : ∀ k, V'.owns (cs' ++ [c']) rb k → k < w.heap.size

set_option maxRecDepth 10000 in
set_option maxHeartbeats 4000000 in
theorem without_step (rb n : Nat) (hL : ∀ m, m < n → GoesLook rb m) : GoesWithout rb n := by
  intro w st V cs c hn h hok
  obtain ⟨p, hp⟩ : ∃ p, p = withoutP st c.ch (cs.map ChV.ch).reverse := ⟨_, rfl⟩
  rw [← hp]
  have hB1 := (Below.refl w.heap.size w).alloc (Nat.le_refl _) (.cells #[Value.int IntKind.i64 0, Value.int IntKind.u32 0, Value.string { data := #[] }] 111)
  have HI : Hid (WInv rb w (w.alloc (.cells #[Value.int IntKind.i64 0, Value.int IntKind.u32 0, Value.string { data := #[] }] 111)) st V (cs ++ [c]) p V cs c st.l n) :=
    ⟨h.keep hB1, hok, hp.symm, Fr.of_below hB1 _, Nat.le_of_eq hn, heap_new _ _, h.lt⟩
  have HLI := hide hL
  clear h hB1 hL hn hp hok
  unfold Says
  go_enter Tryz.func131, Tryz.ntmps131
  go_wp2_with fail
  generalize w.alloc (.cells #[Value.int IntKind.i64 0, Value.int IntKind.u32 0, Value.string { data := #[] }] 111) = W1 at HI ⊢
  go_loopw [] (fun wr => ∃ V' cs' c' l, Hid (WInv rb w wr st V (cs ++ [c]) p V' cs' c' l n)) (fun wr => lenAt rb wr)
  case atStart => exact ⟨V, cs, c, st.l, HI⟩
  case round =>
    obtain ⟨V', cs', c', l, HI⟩ := hrel
    obtain ⟨g, cap, cur, hvL, hg, k1, k2, k3, k4⟩ := row_at HI.out.at_
    obtain ⟨vR, vq, va, vu, vx, vK, vS, vL⟩ := V'
    dsimp only at hvL
    subst hvL
    have hc3 := box_cells HI.out.at_.box
    simp only [refCells] at hc3
    have hcl : cs'.length ≤ 1000 := by
      have := HI.out.ok.len
      have e := HI.out.at_.chs
      dsimp only at this e
      rw [← e] at this
      simp only [List.length_map, List.length_append] at this
      omega
    rcases List.eq_nil_or_concat cs' with e0 | ⟨cs0, c1, e0⟩
    · subst e0
      dsimp only [List.length_nil] at hc3
      go_wp2_with fail
      clear hc3 hg k4
      refine (done_any wr rb _ _ _ 2 (.slice none 0 0) [] HI.out.at_ ⟨none, 0, rfl, fun _ => rfl, .inl rfl⟩ (fun k hk => by cases hk) (wf_fail HI.out.ok) (by have : st.kept.length ≤ 1000 := HI.out.ok.kept; simp; omega)).mono ?_
      rintro e w3 ⟨rfl, h3⟩
      have hpp : p = failP { st with l := l } := by
        have e1 := HI.out.goes
        have e2 := HI.out.at_.chs
        dsimp only [List.nil_append, List.map_cons, List.map_nil] at e2
        rw [← e1, ← e2]
        rfl
      have H3 := hide h3.out.1
      have HF3 := hide (HI.out.fr.trans h3.out.2)
      have HZ3 := hide ((h3.out.2.block _ (heap_lt HI.out.step) (fun e => by have := HI.out.out _ e; omega)).trans HI.out.step)
      have HOT := hide HI.out.out
      clear h3 HI
      unfold stepV
      generalize hbs : str (replyL (doneM { st with l := l } 2 [])) = bs
      have hcz := box_cells HZ3.out
      have hfz := frozen_of_block HZ3.out
      go_wp2_with fail
      clear hcz hfz
      refine bodyPost_ret (results_cell_row rfl _ _ w.heap.size _ _ _ _ rfl (put3_box (.int .i64 2) (.int .u32 0) (.string bs) HZ3.out) undSt rfl (by kernel_rfl)) rfl ?_
      have hG := put3_grown w3 w.heap.size (.int .i64 2) (.int .u32 0) (.string bs)
      rw [hpp]
      refine ⟨by unfold failP; rw [hbs]; rfl, _, _, H3.out.aside hG (fun e => by have := HOT.out _ e; omega), HF3.out.write hG (Nat.le_refl _)⟩
    · rw [List.concat_eq_append] at e0
      subst e0
      have hN : (1 : Int) < ((cs0 ++ [c1]).length : Int) + 1 := by simp; omega
      go_wp2_with fail
      obtain ⟨W3, hW3⟩ : ∃ W : World, W = wr.drew := ⟨_, rfl⟩
      have hb3 : Below wr.heap.size wr W3 := by rw [hW3]; exact below_drewN (Below.refl _ _) 1
      have H3 := hide (HI.out.at_.keep hb3)
      have HF3 := hide (HI.out.fr.trans (Fr.of_below hb3 _))
      have HZ3 := hide ((hb3.block _ (heap_lt HI.out.step)).trans HI.out.step)
      have HOT := hide HI.out.out
      have H4 := hide (H3.out.pop rfl)
      have HF4 := hide (HF3.out.pop rfl)
      have hzr : rb < w.heap.size := HOT.out rb (.inl (.inl rfl))
      have HZ4 := hide ((Below.heap_setCell W3 ⟨rb, 21, none⟩ (.slice (some ⟨g, 0, none⟩) (cs0 ++ [c1]).length cap) w.heap.size (Nat.ne_of_gt hzr)).trans HZ3.out)
      clear hc3
      have hc3 := box_cells H3.out.box
      simp only [refCells] at hc3
      have hf3 := frozen_of_block H3.out.box
      have HN4 : Hid (∀ k, RV.owns (withL ⟨vR, vq, va, vu, vx, vK, vS, .slice (some ⟨g, 0, none⟩) ((cs0 ++ [c1]).length + 1) cap⟩ (.slice (some ⟨g, 0, none⟩) (cs0 ++ [c1]).length cap)) (cs0 ++ [c1]) rb k → k < w.heap.size) := fun k hk => by
        rcases hk with hk | ⟨v, hv, hk⟩
        · exact HOT.out k (.inl hk)
        · exact HOT.out k (.inr ⟨v, (reads_snoc _ _ _ _).2 (.inl hv), hk⟩)
      have HST : Hid (StOk { st with l := (cs0 ++ [c1]).map ChV.ch }) := by
        have hall := HI.out.ok.chs
        have e := HI.out.at_.chs
        dsimp only at hall e
        rw [← e] at hall
        refine HI.out.ok.withL _ (by rw [List.length_map]; exact hcl) (fun x hx => hall x (by rw [List.map_append]; exact List.mem_append_left _ hx))
      have HGO : Hid (lookP st (c1.ch :: (cs0.map ChV.ch).reverse) = p) := by
        unfold Hid
        have e1 := HI.out.goes
        unfold withoutP at e1
        rw [if_neg (by simp), lookP_l, if_neg (by simp)] at e1
        simpa using e1
      have HLE := hide HI.out.le
      have HLEN : Hid (lenAt rb wr = (cs0 ++ [c1]).length + 1) := by
        unfold Hid lenAt
        rw [box_cells HI.out.at_.box]
        rfl
      clear H3 HF3 HI hg k4 hb3 HZ3
      generalize hnn : (cs0 ++ [c1]).length = nn at H4 HF4 HZ4 hc3 hcl k1 HN4 HLE HLEN
      have HNN := hide hnn
      clear hnn hN
      obtain ⟨W4, hW4⟩ : ∃ W : World, W = W3.setCell ⟨rb, 21, none⟩ (.slice (some ⟨g, 0, none⟩) nn cap) := ⟨_, rfl⟩
      rw [← hW4] at H4 HF4 HZ4
      obtain ⟨f, hf0, hf1, hf2, hfp⟩ := Stg.coverE W3 W3 W3
      clear hf1 hf2
      have hcr := hfp (fun W => ∀ o, W.cell? ⟨rb, o, none⟩ = W3.cell? ⟨rb, o, none⟩) (fun _ => rfl) (fun _ => rfl) (fun _ => rfl)
      have hcs := fun (k o : Nat) => (hcr k o).trans (hc3 o)
      have HU : Hid (∀ (j : Nat) (w' : World), j < 1 → w' = Stg.pick4 W3 W4 W4 W4 j → ∃ n, w' = f n) := fun j w' hj e => ⟨0, by rw [e, show j = 0 by omega, ← hf0]; rfl⟩
      obtain ⟨f4, hq0, hq1, hq2, hq3, _⟩ := Stg.coverE4 W3 W4 W4 W4
      have HU4 := hide (Stg.pick4_cover4 hq0 hq1 hq2 hq3)
      have HW4 := hide hW4
      clear hq0 hq1 hq2 hq3 hf0 hfp hcr hW4
      refine Stg.wp_region_stage [14] (fun j w' => w' = Stg.pick4 W3 W4 W4 W4 j) (by kernel_rfl) (by kernel_rfl) hW3.symm ?_
      have HW3 := hide hW3
      clear hW3
      refine Stg.lex_upto 12 1 (by decide) (by kernel_rfl) HU.out ?_
      simp only [List.take_succ_cons, List.take_zero, List.drop_succ_cons, List.drop_zero]
      repeat (first | go_big_quiet_step (fail) | quiet_step (fail))
      refine wpQuiet_nil ?_
      refine Stg.lex_upto 2 4 (by decide) (by kernel_rfl) HU4.out ?_
      simp only [List.take_succ_cons, List.take_zero, List.drop_succ_cons, List.drop_zero]
      repeat (first | go_big_quiet_step (fail) | quiet_step (fail))
      refine wpQuiet_nil ?_
      refine Stg.lex_move 0 (by kernel_rfl) undef ?_ ?_
      · intro w' hw'
        rw [show w' = W3 from hw', show Stg.pick4 W3 W4 W4 W4 (0 + 1) = W4 from rfl]
        clear hw' w'
        have hw4 := HW4.out.symm
        go_simp
      refine Stg.lex_nil ?_
      intro w' hw'
      rw [show w' = W4 from hw']
      clear hw' w' HU HU4 hc3 hf3 HW4 hcs
      dsimp only [Act.put]
      have hc4 := box_cells H4.out.box
      simp only [refCells, withL] at hc4
      go_wp2_with fail
      have hnn : nn = cs0.length + 1 := by rw [← HNN.out]; simp
      subst hnn
      obtain ⟨g', cap', cur4, e4, hg4, _, _, _, k44⟩ := row_at H4.out
      cases e4
      obtain ⟨⟨nm, kd, zn, sv, sn, ns⟩, vs1, vn1⟩ := c1
      have hvn : Lies W4 1 vn1 (textsV ns) := (H4.out.srv _ (List.mem_append_right _ (List.mem_singleton.2 rfl))).2
      obtain ⟨aN, cN, rfl, _, _⟩ := hvn
      have hlw : (textsV ns).length = ns.length := by simp [textsV]
      rw [hlw] at H4 HF4 HN4 k44 HST HGO
      have hg5 := ch_cells hg4 k44 5 (by decide)
      simp only [ChV.cells, List.getElem?_cons_zero, List.getElem?_cons_succ] at hg5
      have hnl := (HST.out.chs ⟨nm, kd, zn, sv, sn, ns⟩ (by simp)).names
      dsimp only at hnl
      go_quiet (fail)
      by_cases hns : 0 < (ns.length : Int)
      · go_wp2_with fail
        generalize hW5 : W4.drewN _ = W5
        have hb5 : Below W4.heap.size W4 W5 := by rw [← hW5]; exact below_drewN (Below.refl _ _) _
        have H5 := hide (H4.out.keep hb5)
        have HF5 := hide (HF4.out.trans (Fr.of_below hb5 _))
        have HZ5 := hide ((hb5.block _ (heap_lt HZ4.out)).trans HZ4.out)
        clear hW5 hb5 H4 HF4 HZ4 hc4 hg4 hg5 k44
        refine (HLI.out cs0.length (by have := HLE.out; omega) W5 _ _ cs0 _ rfl H5.out HST.out).mono ?_
        rintro e w6 ⟨he, h6⟩
        obtain ⟨V6, cs6, h61, h62⟩ := h6.out
        rw [lookP_l, if_neg (by simp), HGO.out] at he h61
        obtain ⟨k, to, s, hks⟩ := lookP_step st ((⟨nm, kd, zn, sv, sn, ns⟩ : Ch) :: (cs0.map ChV.ch).reverse)
        rw [HGO.out] at hks
        rw [hks] at he
        subst he
        have hz5 := heap_lt HZ5.out
        have HZ6 := hide ((h62.block _ (heap_lt HZ5.out) (fun e => by have := HN4.out _ e; omega)).trans HZ5.out)
        have HN6 : Hid (¬ V6.owns cs6 rb w.heap.size) := fun e => by
          rcases h62.new _ e with h | h
          · have := HN4.out _ h; omega
          · omega
        have HF6 := hide (HF5.out.trans h62)
        have H6 := hide h61
        clear h6 h61 h62 H5 HF5
        unfold stepV
        have hcz := box_cells HZ6.out
        have hfz := frozen_of_block HZ6.out
        have HKS := hide hks
        clear hks
        go_wp2_with fail
        clear hcz hfz
        refine bodyPost_ret (results_cell_row rfl _ _ w.heap.size _ _ _ _ rfl (put3_box (.int .i64 k) (.int .u32 to) (.string s) HZ6.out) undSt rfl (by kernel_rfl)) rfl ?_
        have hG := put3_grown w6 w.heap.size (.int .i64 k) (.int .u32 to) (.string s)
        refine ⟨by rw [HKS.out]; rfl, V6, cs6, H6.out.aside hG HN6.out, HF6.out.write hG (Nat.le_refl _)⟩
      · go_wp2_with fail
        have hb5 : Below W4.heap.size W4 (W4.drewN nq) := below_drewN (Below.refl _ _) _
        have hn0 : ns = [] := List.eq_nil_of_length_eq_zero (by omega)
        refine ⟨⟨_, cs0, _, _, ⟨H4.out.keep hb5, HST.out, ?_, HF4.out.trans (Fr.of_below hb5 _), by have := HLE.out; omega, (hb5.block _ (heap_lt HZ4.out)).trans HZ4.out, HN4.out⟩⟩, ?_⟩
        · rw [← HGO.out]
          subst hn0
          unfold withoutP
          show _ = (if _ then _ else _)
          split
          · rfl
          · rw [lookP_l, if_neg (by assumption)]
        · rw [HLEN.out]
          have : lenAt rb (W4.drewN nq) = cs0.length + 1 := by
            unfold lenAt
            rw [box_cells (H4.out.keep hb5).box]
            rfl
          omega
theorem goes_all (rb : Nat) : ∀ n, GoesWithout rb n ∧ GoesLook rb n := by
  intro n
  induction n using Nat.strongRecOn with
  | ind n ih =>
    have h := without_step rb n (fun m hm => (ih m hm).2)
    exact ⟨h, look_step rb n h⟩
end Go.Proofs.YtafoepfhepdcoaaGreat
