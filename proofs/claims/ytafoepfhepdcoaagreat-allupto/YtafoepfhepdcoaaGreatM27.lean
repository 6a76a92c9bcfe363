import Derived.Test.YtafoepfhepdcoaaGreatM26
import Derived.Test.YtafoepfhepdcoaaGreatM25
set_option maxRecDepth 100000
set_option maxHeartbeats 8000000
namespace Go.Proofs.YtafoepfhepdcoaaGreat
open Go.RowKit Go.Trawl
attribute [local go_sem] Stg.upon
def lenAt (rb : Nat) (w : World) : Nat := match w.cell? ⟨rb, 21, none⟩ with
 | some (.slice _ n _) => n
 | _ => 0
structure WInv (rb : Nat) (w wr : World) (st : RSt) (V : RV) (cs : List ChV) (p : RSt × Value) (V' : RV) (cs' : List ChV) (c' : ChV) (l : List Ch) (n : Nat) : Prop where
 at_ : RefAt wr rb { st with l := l } V' (cs' ++ [c'])
 ok : StOk { st with l := l }
 goes : withoutP { st with l := l } c'.ch (cs'.map ChV.ch).reverse = p
 fr : Fr w wr (V.owns cs rb) (V'.owns (cs' ++ [c']) rb)
 le : cs'.length ≤ n
 step : wr.heap[w.heap.size]? = some (.cells #[.int .i64 0, .int .u32 0, .string ⟨#[]⟩] 111)
 out : ∀ k, V'.owns (cs' ++ [c']) rb k → k < w.heap.size
theorem without_step (rb n : Nat) (hL : ∀ m, m < n → GoesLook rb m) : GoesWithout rb n := by
 intro w st V cs c hn h hok
 obtain ⟨p, hp⟩ : ∃ p, p = withoutP st c.ch (cs.map ChV.ch).reverse := ⟨_, rfl⟩
 rw [← hp]
 have hB1 := (Below.refl w.heap.size w).alloc (Nat.le_refl _) (.cells #[.int .i64 0, .int .u32 0, .string ⟨#[]⟩] 111)
 have HI : Hid (WInv rb w (w.alloc (.cells #[.int .i64 0, .int .u32 0, .string ⟨#[]⟩] 111)) st V (cs ++ [c]) p V cs c st.l n) :=
  ⟨h.keep hB1, hok, hp.symm, Fr.of_below hB1 _, Nat.le_of_eq hn, hn_ _ _, h.lt⟩
 have HLI := hide hL
 clear h hB1 hL hn hp hok
 unfold Says
 go_enter Tryz.func131, Tryz.ntmps131
 go_wp2_with fail
 generalize w.alloc (.cells #[.int .i64 0, .int .u32 0, .string ⟨#[]⟩] 111) = W1 at HI ⊢
 go_loopw [] (fun wr => ∃ V' cs' c' l, Hid (WInv rb w wr st V (cs ++ [c]) p V' cs' c' l n)) (fun wr => lenAt rb wr)
 case atStart => exact ⟨V, cs, c, st.l, HI⟩
 case round =>
  obtain ⟨V', cs', c', l, HI⟩ := hrel
  obtain ⟨g, cap, cur, hvL, hg, k1, k2, k3, k4⟩ := row_at HI.out.at_
  obtain ⟨vR, vq, va, vu, vx, vK, vS, vL⟩ := V'
  dsimp only at hvL
  subst hvL
  have hc3 := bc_ HI.out.at_.box
  simp only [refCells] at hc3
  have hcl : cs'.length ≤ 1000 := by
   have := HI.out.ok.len
   have e := HI.out.at_.chs
   dsimp only at this e
   rw [← e] at this
   simp only [List.length_map, List.length_append] at this
   omega
  rcases List.eq_nil_or_concat cs' with e0 | ⟨cs0, c1, e0⟩
  ·subst e0
   dsimp only [List.length_nil] at hc3
   go_wp2_with fail
   clear hc3 hg k4
   refine (done_any wr rb _ _ _ 2 (.slice none 0 0) [] HI.out.at_ ⟨none, 0, rfl, fun _ => rfl, .inl rfl⟩ (fun k hk => by cases hk) (wf_fail HI.out.ok) (by have : st.kept.length ≤ 1000 := HI.out.ok.kept; simp; omega)).mono ?_
   rintro e w3 ⟨rfl, h3⟩
   have hpp : p = failP { st with l := l } := by
    have e1 := HI.out.goes
    have e2 := HI.out.at_.chs
    dsimp only [List.nil_append, List.map_cons, List.map_nil] at e2
    rw [← e1, ← e2]
    rfl
   have H3 := hide h3.out.1
   have HF3 := hide (HI.out.fr.trans h3.out.2)
   have HZ3 := hide ((h3.out.2.block _ (hl_ HI.out.step) (fun e => by have := HI.out.out _ e; omega)).trans HI.out.step)
   have HOT := hide HI.out.out
   clear h3 HI
   unfold stepV
   generalize hbs : str (replyL (doneM { st with l := l } 2 [])) = bs
   have hcz := bc_ HZ3.out
   have hfz := fz_ HZ3.out
   go_wp2_with fail
   clear hcz hfz
   refine bodyPost_ret (results_cell_row rfl _ _ w.heap.size _ _ _ _ rfl (pb_ (.int .i64 2) (.int .u32 0) (.string bs) HZ3.out) undSt rfl (by kernel_rfl)) rfl ?_
   have hG := pg_ w3 w.heap.size (.int .i64 2) (.int .u32 0) (.string bs)
   rw [hpp]
   refine ⟨by unfold failP; rw [hbs]; rfl, _, _, H3.out.aside hG (fun e => by have := HOT.out _ e; omega), HF3.out.write hG (Nat.le_refl _)⟩
  ·rw [List.concat_eq_append] at e0
   subst e0
   have hN : (1 : Int) < ((cs0 ++ [c1]).length : Int) + 1 := by simp; omega
   go_wp2_with fail
   obtain ⟨W3, hW3⟩ : ∃ W : World, W = wr.drew := ⟨_, rfl⟩
   have hb3 : Below wr.heap.size wr W3 := by rw [hW3]; exact below_drewN (Below.refl _ _) 1
   have H3 := hide (HI.out.at_.keep hb3)
   have HF3 := hide (HI.out.fr.trans (Fr.of_below hb3 _))
   have HZ3 := hide ((hb3.block _ (hl_ HI.out.step)).trans HI.out.step)
   have HOT := hide HI.out.out
   have H4 := hide (H3.out.pop rfl)
   have HF4 := hide (HF3.out.pop rfl)
   have hzr : rb < w.heap.size := HOT.out rb (.inl (.inl rfl))
   have HZ4 := hide ((Below.heap_setCell W3 ⟨rb, 21, none⟩ (.slice (some ⟨g, 0, none⟩) (cs0 ++ [c1]).length cap) w.heap.size (Nat.ne_of_gt hzr)).trans HZ3.out)
   clear hc3
   have hc3 := bc_ H3.out.box
   simp only [refCells] at hc3
   have hf3 := fz_ H3.out.box
   have HN4 : Hid (∀ k, RV.owns (withL ⟨vR, vq, va, vu, vx, vK, vS, .slice (some ⟨g, 0, none⟩) ((cs0 ++ [c1]).length + 1) cap⟩ (.slice (some ⟨g, 0, none⟩) (cs0 ++ [c1]).length cap)) (cs0 ++ [c1]) rb k → k < w.heap.size) := fun k hk => by
    rcases hk with hk | ⟨v, hv, hk⟩
    ·exact HOT.out k (.inl hk)
    ·exact HOT.out k (.inr ⟨v, (rs_ _ _ _ _).2 (.inl hv), hk⟩)
   have HST : Hid (StOk { st with l := (cs0 ++ [c1]).map ChV.ch }) := by
    have hall := HI.out.ok.chs
    have e := HI.out.at_.chs
    dsimp only at hall e
    rw [← e] at hall
    refine HI.out.ok.withL _ (by rw [List.length_map]; exact hcl) (fun x hx => hall x (by rw [List.map_append]; exact List.mem_append_left _ hx))
   have HGO : Hid (lookP st (c1.ch :: (cs0.map ChV.ch).reverse) = p) := by
    unfold Hid
    have e1 := HI.out.goes
    unfold withoutP at e1
    rw [if_neg (by simp), lookP_l, if_neg (by simp)] at e1
    simpa using e1
   have HLE := hide HI.out.le
   have HLEN : Hid (lenAt rb wr = (cs0 ++ [c1]).length + 1) := by
    unfold Hid lenAt
    rw [bc_ HI.out.at_.box]
    rfl
   clear H3 HF3 HI hg k4 hb3 HZ3
   generalize hnn : (cs0 ++ [c1]).length = nn at H4 HF4 HZ4 hc3 hcl k1 HN4 HLE HLEN
   have HNN := hide hnn
   clear hnn hN
   obtain ⟨W4, hW4⟩ : ∃ W : World, W = W3.setCell ⟨rb, 21, none⟩ (.slice (some ⟨g, 0, none⟩) nn cap) := ⟨_, rfl⟩
   rw [← hW4] at H4 HF4 HZ4
   obtain ⟨f, hf0, hf1, hf2, hfp⟩ := Stg.coverE W3 W3 W3
   clear hf1 hf2
   have hcr := hfp (fun W => ∀ o, W.cell? ⟨rb, o, none⟩ = W3.cell? ⟨rb, o, none⟩) (fun _ => rfl) (fun _ => rfl) (fun _ => rfl)
   have hcs := fun (k o : Nat) => (hcr k o).trans (hc3 o)
   have HU : Hid (∀ (j : Nat) (w' : World), j < 1 → w' = Stg.pick4 W3 W4 W4 W4 j → ∃ n, w' = f n) := fun j w' hj e => ⟨0, by rw [e, show j = 0 by omega, ← hf0]; rfl⟩
   obtain ⟨f4, hq0, hq1, hq2, hq3, _⟩ := Stg.coverE4 W3 W4 W4 W4
   have HU4 := hide (Stg.pick4_cover4 hq0 hq1 hq2 hq3)
   have HW4 := hide hW4
   clear hq0 hq1 hq2 hq3 hf0 hfp hcr hW4
   refine Stg.wp_region_stage [14] (fun j w' => w' = Stg.pick4 W3 W4 W4 W4 j) (by kernel_rfl) (by kernel_rfl) hW3.symm ?_
   have HW3 := hide hW3
   clear hW3
   refine Stg.lex_upto 12 1 (by decide) (by kernel_rfl) HU.out ?_
   simp only [List.take_succ_cons, List.take_zero, List.drop_succ_cons, List.drop_zero]
   repeat (first | go_big_quiet_step (fail) | quiet_step (fail))
   refine wpQuiet_nil ?_
   refine Stg.lex_upto 2 4 (by decide) (by kernel_rfl) HU4.out ?_
   simp only [List.take_succ_cons, List.take_zero, List.drop_succ_cons, List.drop_zero]
   repeat (first | go_big_quiet_step (fail) | quiet_step (fail))
   refine wpQuiet_nil ?_
   refine Stg.lex_move 0 (by kernel_rfl) undef ?_ ?_
   ·intro w' hw'
    rw [show w' = W3 from hw', show Stg.pick4 W3 W4 W4 W4 (0 + 1) = W4 from rfl]
    clear hw' w'
    have hw4 := HW4.out.symm
    go_simp
   refine Stg.lex_nil ?_
   intro w' hw'
   rw [show w' = W4 from hw']
   clear hw' w' HU HU4 hc3 hf3 HW4 hcs
   dsimp only [Act.put]
   have hc4 := bc_ H4.out.box
   simp only [refCells, withL] at hc4
   go_wp2_with fail
   have hnn : nn = cs0.length + 1 := by rw [← HNN.out]; simp
   subst hnn
   obtain ⟨g', cap', cur4, e4, hg4, _, _, _, k44⟩ := row_at H4.out
   cases e4
   obtain ⟨⟨nm, kd, zn, sv, sn, ns⟩, vs1, vn1⟩ := c1
   have hvn : Lies W4 1 vn1 (textsV ns) := (H4.out.srv _ (List.mem_append_right _ (List.mem_singleton.2 rfl))).2
   obtain ⟨aN, cN, rfl, _, _⟩ := hvn
   have hlw : (textsV ns).length = ns.length := by simp [textsV]
   rw [hlw] at H4 HF4 HN4 k44 HST HGO
   have hg5 := ch_cells hg4 k44 5 (by decide)
   simp only [ChV.cells, List.getElem?_cons_zero, List.getElem?_cons_succ] at hg5
   have hnl := (HST.out.chs ⟨nm, kd, zn, sv, sn, ns⟩ (by simp)).names
   dsimp only at hnl
   go_quiet (fail)
   by_cases hns : 0 < (ns.length : Int)
   ·go_wp2_with fail
    generalize hW5 : W4.drewN _ = W5
    have hb5 : Below W4.heap.size W4 W5 := by rw [← hW5]; exact below_drewN (Below.refl _ _) _
    have H5 := hide (H4.out.keep hb5)
    have HF5 := hide (HF4.out.trans (Fr.of_below hb5 _))
    have HZ5 := hide ((hb5.block _ (hl_ HZ4.out)).trans HZ4.out)
    clear hW5 hb5 H4 HF4 HZ4 hc4 hg4 hg5 k44
    refine (HLI.out cs0.length (by have := HLE.out; omega) W5 _ _ cs0 _ rfl H5.out HST.out).mono ?_
    rintro e w6 ⟨he, h6⟩
    obtain ⟨V6, cs6, h61, h62⟩ := h6.out
    rw [lookP_l, if_neg (by simp), HGO.out] at he h61
    obtain ⟨k, to, s, hks⟩ := lookP_step st ((⟨nm, kd, zn, sv, sn, ns⟩ : Ch) :: (cs0.map ChV.ch).reverse)
    rw [HGO.out] at hks
    rw [hks] at he
    subst he
    have hz5 := hl_ HZ5.out
    have HZ6 := hide ((h62.block _ (hl_ HZ5.out) (fun e => by have := HN4.out _ e; omega)).trans HZ5.out)
    have HN6 : Hid (¬ V6.owns cs6 rb w.heap.size) := fun e => by
     rcases h62.new _ e with h | h
     ·have := HN4.out _ h; omega
     ·omega
    have HF6 := hide (HF5.out.trans h62)
    have H6 := hide h61
    clear h6 h61 h62 H5 HF5
    unfold stepV
    have hcz := bc_ HZ6.out
    have hfz := fz_ HZ6.out
    have HKS := hide hks
    clear hks
    go_wp2_with fail
    clear hcz hfz
    refine bodyPost_ret (results_cell_row rfl _ _ w.heap.size _ _ _ _ rfl (pb_ (.int .i64 k) (.int .u32 to) (.string s) HZ6.out) undSt rfl (by kernel_rfl)) rfl ?_
    have hG := pg_ w6 w.heap.size (.int .i64 k) (.int .u32 to) (.string s)
    refine ⟨by rw [HKS.out]; rfl, V6, cs6, H6.out.aside hG HN6.out, HF6.out.write hG (Nat.le_refl _)⟩
   ·go_wp2_with fail
    have hb5 : Below W4.heap.size W4 (W4.drewN nq) := below_drewN (Below.refl _ _) _
    have hn0 : ns = [] := List.eq_nil_of_length_eq_zero (by omega)
    refine ⟨⟨_, cs0, _, _, ⟨H4.out.keep hb5, HST.out, ?_, HF4.out.trans (Fr.of_below hb5 _), by have := HLE.out; omega, (hb5.block _ (hl_ HZ4.out)).trans HZ4.out, HN4.out⟩⟩, ?_⟩
    ·rw [← HGO.out]
     subst hn0
     unfold withoutP
     show _ = (if _ then _ else _)
     split
     ·rfl
     ·rw [lookP_l, if_neg (by assumption)]
    ·rw [HLEN.out]
     have : lenAt rb (W4.drewN nq) = cs0.length + 1 := by
      unfold lenAt
      rw [bc_ (H4.out.keep hb5).box]
      rfl
     omega
theorem goes_all (rb : Nat) : ∀ n, GoesWithout rb n ∧ GoesLook rb n := by
 intro n
 induction n using Nat.strongRecOn with
 | ind n ih =>
  have h := without_step rb n (fun m hm => (ih m hm).2)
  exact ⟨h, look_step rb n h⟩
end Go.Proofs.YtafoepfhepdcoaaGreat
namespace Go.Proofs.YtafoepfhepdcoaaGreat
open Go.RowKit Go.Trawl
def confV (b d c t : Int) (vr : Value) : Value := .agg #[.int .i64 b, .int .i64 d, .int .i64 c, .int .i64 t, vr]
theorem conf_cases {b d c t : Int} {rs : List Int} (h : ¬ confOk b d c t rs) :
  b < 1 ∨ (¬ b < 1 ∧ 200 < b) ∨ (¬ b < 1 ∧ ¬ 200 < b ∧ d < 0) ∨ (¬ b < 1 ∧ ¬ 200 < b ∧ ¬ d < 0 ∧ 6 < d) ∨ (¬ b < 1 ∧ ¬ 200 < b ∧ ¬ d < 0 ∧ ¬ 6 < d ∧ c < 0) ∨ (¬ b < 1 ∧ ¬ 200 < b ∧ ¬ d < 0 ∧ ¬ 6 < d ∧ ¬ c < 0 ∧ 10 < c) ∨
  (¬ b < 1 ∧ ¬ 200 < b ∧ ¬ d < 0 ∧ ¬ 6 < d ∧ ¬ c < 0 ∧ ¬ 10 < c ∧ t < 1) ∨ (¬ b < 1 ∧ ¬ 200 < b ∧ ¬ d < 0 ∧ ¬ 6 < d ∧ ¬ c < 0 ∧ ¬ 10 < c ∧ ¬ t < 1 ∧ 8 < t) ∨
  (¬ b < 1 ∧ ¬ 200 < b ∧ ¬ d < 0 ∧ ¬ 6 < d ∧ ¬ c < 0 ∧ ¬ 10 < c ∧ ¬ t < 1 ∧ ¬ 8 < t ∧ (rs.length : Int) < 1) ∨ (¬ b < 1 ∧ ¬ 200 < b ∧ ¬ d < 0 ∧ ¬ 6 < d ∧ ¬ c < 0 ∧ ¬ 10 < c ∧ ¬ t < 1 ∧ ¬ 8 < t ∧ ¬ (rs.length : Int) < 1 ∧ (8 : Int) < rs.length) := by
 by_cases h1 : b < 1
 ·exact .inl h1
 by_cases h2 : 200 < b
 ·exact .inr (.inl ⟨h1, h2⟩)
 by_cases h3 : d < 0
 ·exact .inr (.inr (.inl ⟨h1, h2, h3⟩))
 by_cases h4 : 6 < d
 ·exact .inr (.inr (.inr (.inl ⟨h1, h2, h3, h4⟩)))
 by_cases h5 : c < 0
 ·exact .inr (.inr (.inr (.inr (.inl ⟨h1, h2, h3, h4, h5⟩))))
 by_cases h6 : 10 < c
 ·exact .inr (.inr (.inr (.inr (.inr (.inl ⟨h1, h2, h3, h4, h5, h6⟩)))))
 by_cases h7 : t < 1
 ·exact .inr (.inr (.inr (.inr (.inr (.inr (.inl ⟨h1, h2, h3, h4, h5, h6, h7⟩))))))
 by_cases h8 : 8 < t
 ·exact .inr (.inr (.inr (.inr (.inr (.inr (.inr (.inl ⟨h1, h2, h3, h4, h5, h6, h7, h8⟩)))))))
 by_cases h9 : (rs.length : Int) < 1
 ·exact .inr (.inr (.inr (.inr (.inr (.inr (.inr (.inr (.inl ⟨h1, h2, h3, h4, h5, h6, h7, h8, h9⟩))))))))
 by_cases h10 : (8 : Int) < rs.length
 ·exact .inr (.inr (.inr (.inr (.inr (.inr (.inr (.inr (.inr ⟨h1, h2, h3, h4, h5, h6, h7, h8, h9, h10⟩))))))))
 exact absurd ⟨⟨by omega, by omega⟩, ⟨by omega, by omega⟩, ⟨by omega, by omega⟩, ⟨by omega, by omega⟩, by omega, by omega⟩ h
theorem rNew_no (w : World) (b d c t : Int) (rs : List Int) (a : Option Addr) (cp : Nat) (h : ¬ confOk b d c t rs) :
  Calls Tryz.prog 86 #[confV b d c t (.slice a rs.length cp)] w fun e w' => e = .returned (.tuple #[.pointer none, .int .i64 2]) ∧ Below w.heap.size w w' := by
 have hB := hide ((Below.refl w.heap.size w).alloc (Nat.le_refl _) (.cells #[.int .i64 b, .int .i64 d, .int .i64 c, .int .i64 t, .slice a rs.length cp] 57))
 have hc := conf_cases h
 clear h
 unfold confV
 rcases hc with h | ⟨h1, h⟩ | ⟨h1, h2, h⟩ | ⟨h1, h2, h3, h⟩ | ⟨h1, h2, h3, h4, h⟩ | ⟨h1, h2, h3, h4, h5, h⟩ | ⟨h1, h2, h3, h4, h5, h6, h⟩ | ⟨h1, h2, h3, h4, h5, h6, h7, h⟩ | ⟨h1, h2, h3, h4, h5, h6, h7, h8, h⟩ | ⟨h1, h2, h3, h4, h5, h6, h7, h8, h9, h⟩
 all_goals
  go_enter Tryz.func86, Tryz.ntmps86
  go_wp2_with fail
  refine bodyPost_ret (results_tmp2 rfl _ _ _) rfl ?_
  exact ⟨rfl, hB.out⟩
def nilV : Value := .slice none 0 0
theorem buildRes (b d c t : Int) (a : Option Addr) (n cp : Nat) (W : World) : (Instr.build 163 #[(0, .agg #[.int .i64 b, .int .i64 d, .int .i64 c, .int .i64 t, .slice a n cp])]).run Tryz.prog W =
  .ok (.agg #[.int .i64 b, .int .i64 d, .int .i64 c, .int .i64 t, .slice a n cp, .int .u16 0, .bool false, .int .u16 0, .bool false, .int .i64 0, .bool false, .bool false, .bool false, .bool false, .int .i64 0, .slice none 0 0, .slice none 0 0, .slice none 0 0, .slice none 0 0, .slice none 0 0, .slice none 0 0, .slice none 0 0, .int .i64 0, .int .u32 0, .string ⟨#[]⟩]) W := run_build W _ _ _ (by kernel_rfl)
attribute [local go_sem] buildRes
theorem words_ok (rs : List Int) : ∀ x ∈ wordsV rs, x.length = 1 ∧ ∀ u ∈ x, u.oneCell' = true := by
 intro x hx
 obtain ⟨y, _, rfl⟩ := List.mem_map.1 hx
 exact ⟨rfl, fun u hu => by simp at hu; subst hu; rfl⟩
theorem rNew_yes (w : World) (b d c t : Int) (rs : List Int) (vr : Value) (h : confOk b d c t rs) (hv : Lies w 1 vr (wordsV rs)) :
  Calls Tryz.prog 86 #[confV b d c t vr] w fun e w' => ∃ rb, e = .returned (.tuple #[.pointer (some ⟨rb, 0, none⟩), .int .i64 0]) ∧ Hid (∃ V, RefAt w' rb (newSt b d c t rs) V [] ∧ Below w.heap.size w w' ∧ ∀ k, V.owns [] rb k → w.heap.size ≤ k) := by
 obtain ⟨i1, hi1, hy0, hy1, hy2⟩ := info_parts wI0
 obtain ⟨a, cp, rfl, _⟩ := (show Lies w 1 vr (wordsV rs) from hv)
 have hlen : (wordsV rs).length = rs.length := by simp [wordsV]
 rw [hlen] at hv ⊢
 have hB := (Below.refl w.heap.size w).alloc (Nat.le_refl _) (.cells #[.int .i64 b, .int .i64 d, .int .i64 c, .int .i64 t, .slice a rs.length cp] 57)
 have HV := hide (hv.below hB)
 have HB := hide hB
 have HN := hide (hn_ w (.cells #[.int .i64 b, .int .i64 d, .int .i64 c, .int .i64 t, .slice a rs.length cp] 57))
 clear hv hB
 obtain ⟨⟨h1, h2⟩, ⟨h3, h4⟩, ⟨h5, h6⟩, ⟨h7, h8⟩, h9, h10⟩ := h
 have h1 : ¬ b < 1 := by omega
 have h2 : ¬ 200 < b := by omega
 have h3 : ¬ d < 0 := by omega
 have h4 : ¬ 6 < d := by omega
 have h5 : ¬ c < 0 := by omega
 have h6 : ¬ 10 < c := by omega
 have h7 : ¬ t < 1 := by omega
 have h8 : ¬ 8 < t := by omega
 have h11 : ¬ (rs.length : Int) < 1 := by omega
 have h12 : ¬ (8 : Int) < rs.length := by omega
 unfold confV
 have HO1 : Hid ((w.alloc (.cells #[.int .i64 b, .int .i64 d, .int .i64 c, .int .i64 t, .slice a rs.length cp] 57)).ownsRow 0 54 1 (.slice none 0 0) 0 []) := World.ownsRow_nil _ _ _ _
 go_enter Tryz.func86, Tryz.ntmps86
 go_wp2_with (at_builtin; (refine Go.Trawl.wpList_append_lies _ rfl _ _ 55 rfl 54 i1 _ 1 4 uWs hi1 hy0 hy1 hy2 rfl (by decide) (.slice none 0 0) 0 _ rfl (.slice a rs.length cp) (wordsV rs) rfl (words_ok _) HO1.out HV.out (by rw [hlen]; unfold maxLen; omega) (by rw [hlen]; omega) ?_; intro v2 W2 g2; obtain ⟨a2, c2, rfl⟩ := os_ g2.own; have HG2 := hide g2; have HN2 := hide ((g2.keeps (hl_ HN.out) (by simp [Value.ownBlock])).1.trans HN.out); have hcm := bc_ HN2.out; have hfm := fz_ HN2.out; clear g2))
 have g2 := HG2.out
 have hz : (w.alloc (.cells #[.int .i64 b, .int .i64 d, .int .i64 c, .int .i64 t, .slice a rs.length cp] 57)).heap.size = w.heap.size + 1 := as_ _ _
 have hz2 := g2.grown.size
 have hown := g2.own
 rw [List.nil_append] at hown
 simp only [Nat.zero_add, hlen] at hown
 have hl2 : ∀ k, (Value.slice a2 rs.length c2).ownBlock = some k → w.heap.size < k ∧ k < W2.heap.size := by
  intro k hk
  refine ⟨?_, (hown.lt k hk).2⟩
  have hloc := g2.loc
  rw [hlen, Nat.zero_add] at hloc
  rcases hloc with e | ⟨i, e, hi⟩
  ·rw [hk] at e; cases e
  ·rw [hk] at e
   cases e
   omega
 obtain ⟨W3, hW3⟩ : ∃ x : World, x = W2.setCell ⟨w.heap.size, 4, none⟩ (.slice a2 rs.length c2) := ⟨_, rfl⟩
 have hz3 : W3.heap.size = W2.heap.size := by rw [hW3]; simp [World.setCell]
 have hB2 : Below w.heap.size w W2 := HB.out.trans ((below_grownBy g2.grown).mono (by omega))
 have hB3 : Below w.heap.size w W3 := by rw [hW3]; exact hB2.trans ((Below.refl _ W2).setCell (show w.heap.size ≤ (⟨w.heap.size, 4, none⟩ : Addr).block from Nat.le_refl _) _)
 have hr3 : Lies W3 1 (.slice a2 rs.length c2) (wordsV rs) := (own_lies hown (fun x hx => (words_ok rs x hx).1) hlen.symm).keep (by omega) (fun k hk _ => by rw [hW3]; exact Below.heap_setCell W2 ⟨w.heap.size, 4, none⟩ _ k (show k ≠ w.heap.size by have := hl2 k hk; omega))
 refine bodyPost_ret (results_tmp2 rfl _ _ _) rfl ?_
 rw [← hW3]
 have hB4 := hB3.alloc (by omega) (.cells (refCells (newSt b d c t rs) ⟨.slice a2 rs.length c2, nilV, nilV, nilV, nilV, nilV, nilV, nilV⟩) 163)
 refine ⟨W2.heap.size, rfl, ⟨.slice a2 rs.length c2, nilV, nilV, nilV, nilV, nilV, nilV, nilV⟩, ?_, hB4, ?_⟩
 ·refine ⟨by rw [← hz3]; exact hn_ W3 _, rfl, hr3.below ((Below.refl _ _).alloc (Nat.le_refl _) _), ⟨liesNil _ _, liesNil _ _, liesNil _ _, liesNil _ _⟩, World.ownsRow_nil _ _ _ _, World.ownsRow_nil _ _ _ _, World.ownsRow_nil _ _ _ _, (fun c hc => by cases hc), ?_, ?_, (fun c hc => by cases hc)⟩
  ·intro v hv k hk hw
   simp only [RV.reads, List.flatMap_nil, List.mem_cons, List.not_mem_nil, or_false] at hv
   have h0 : k < W2.heap.size := by
    rcases hv with rfl | rfl | rfl | rfl | rfl
    ·exact (hl2 k hk).2
    all_goals cases hk
   rcases hw with e | e | e | e
   ·omega
   all_goals cases e
  ·intro k hk
   rw [as_, hz3]
   rcases hk with (e | e | e | e) | ⟨v, hv, hk⟩
   ·omega
   ·cases e
   ·cases e
   ·cases e
   ·simp only [RV.reads, List.flatMap_nil, List.mem_cons, List.not_mem_nil, or_false] at hv
    rcases hv with rfl | rfl | rfl | rfl | rfl
    ·have := hl2 k hk; omega
    all_goals cases hk
 ·intro k hk
  rcases hk with (e | e | e | e) | ⟨v, hv, hk⟩
  ·omega
  ·cases e
  ·cases e
  ·cases e
  ·simp only [RV.reads, List.flatMap_nil, List.mem_cons, List.not_mem_nil, or_false] at hv
   rcases hv with rfl | rfl | rfl | rfl | rfl
   ·have := hl2 k hk; omega
   all_goals cases hk
end Go.Proofs.YtafoepfhepdcoaaGreat
namespace Go.Proofs.YtafoepfhepdcoaaGreat
open Go.RowKit Go.Trawl
def Answers (w : World) (rb : Nat) (V : RV) (cs : List ChV) (p : RSt × Value × Int) (e : Ending) (w' : World) : Prop :=
 e = .returned (.tuple #[p.2.1, .int .i64 p.2.2]) ∧ Hid (∃ V' cs', RefAt w' rb p.1 V' cs' ∧ Fr w w' (V.owns cs rb) (V'.owns cs' rb))
theorem buildSt0 (W : World) : (Instr.build 111 #[]).run Tryz.prog W = .ok (.agg #[.int .i64 0, .int .u32 0, .string ⟨#[]⟩]) W := run_build W _ _ _ (by kernel_rfl)
theorem buildSt2 (k : Int) (W : World) : (Instr.build 111 #[(0, .int .i64 k)]).run Tryz.prog W = .ok (.agg #[.int .i64 k, .int .u32 0, .string ⟨#[]⟩]) W := run_build W _ _ _ (by kernel_rfl)
theorem buildMr (i k : Int) (W : World) : (Instr.build 30 #[(0, .int .u16 i), (7, .int .i64 k)]).run Tryz.prog W = .ok (.agg (mc_ (refM i k []) (.slice none 0 0) (.slice none 0 0) (.slice none 0 0) (.slice none 0 0))) W := run_build W _ _ _ (by kernel_rfl)
attribute [local go_sem] buildSt0 buildSt2 buildMr
structure Begun (w W : World) (rb : Nat) (st : RSt) (V : RV) (cs : List ChV) : Prop where
 ref : RefAt W rb st V cs
 fr : Fr w W (V.owns cs rb) (V.owns cs rb)
 res : W.heap[w.heap.size]? = some (.cells #[.int .i64 0, .int .u32 0, .string ⟨#[]⟩] 111)
 lt : ∀ k, V.owns cs rb k → k < w.heap.size
theorem Begun.start {w : World} {rb : Nat} {st : RSt} {V : RV} {cs : List ChV} (h : RefAt w rb st V cs) : Begun w (w.alloc (.cells #[.int .i64 0, .int .u32 0, .string ⟨#[]⟩] 111)) rb st V cs := by
 have hB := (Below.refl w.heap.size w).alloc (Nat.le_refl _) (.cells #[.int .i64 0, .int .u32 0, .string ⟨#[]⟩] 111)
 exact ⟨h.keep hB, Fr.of_below hB _, hn_ _ _, h.lt⟩
theorem Begun.below {w W W' : World} {rb : Nat} {st : RSt} {V : RV} {cs : List ChV} (h : Begun w W rb st V cs) (hb : Below W.heap.size W W') : Begun w W' rb st V cs :=
 ⟨h.ref.keep hb, h.fr.trans (Fr.of_below hb _), (hb.block _ (hl_ h.res)).trans h.res, h.lt⟩
theorem Begun.put {w W : World} {rb : Nat} {st : RSt} {V : RV} {cs : List ChV} (h : Begun w W rb st V cs) (v0 v1 v2 : Value) : RefAt (put3 W w.heap.size v0 v1 v2) rb st V cs ∧ Fr w (put3 W w.heap.size v0 v1 v2) (V.owns cs rb) (V.owns cs rb) := by
 have hG := pg_ W w.heap.size v0 v1 v2
 exact ⟨h.ref.aside hG (fun e => by have := h.lt _ e; omega), h.fr.write hG (Nat.le_refl _)⟩
theorem rAsk_busy (w : World) (rb : Nat) (st : RSt) (V : RV) (cs : List ChV) (s : ByteArray) (h : RefAt w rb st V cs) (hbz : st.busy = true) :
  Calls Tryz.prog 53 #[.pointer (some ⟨rb, 0, none⟩), .string s] w (Answers w rb V cs (st, stepV 0 0 ⟨#[]⟩, 3)) := by
 have H1 := hide (Begun.start h)
 have H := hide h
 clear h
 unfold Answers
 have hc := bc_ H1.out.ref.box
 simp only [refCells, hbz] at hc
 go_enter Tryz.func53, Tryz.ntmps53
 go_wp2_with fail
 refine bodyPost_ret (rr_ rfl _ _ w.heap.size _ _ _ _ rfl (hn_ w _) undSt rfl (by kernel_rfl)) rfl ?_
 have hB := (Below.refl w.heap.size w).alloc (Nat.le_refl _) (.cells #[.int .i64 0, .int .u32 0, .string ⟨#[]⟩] 111)
 exact ⟨rfl, V, cs, H.out.keep hB, Fr.of_below hB _⟩
theorem rAsk_short (w : World) (rb : Nat) (st : RSt) (V : RV) (cs : List ChV) (s : ByteArray) (h : RefAt w rb st V cs) (hbz : st.busy = false) (hs : s.size < 12) :
  Calls Tryz.prog 53 #[.pointer (some ⟨rb, 0, none⟩), .string s] w (Answers w rb V cs (st, stepV 2 0 ⟨#[]⟩, 0)) := by
 have H1 := hide (Begun.start h)
 have H := hide h
 clear h
 unfold Answers
 have hc := bc_ H1.out.ref.box
 simp only [refCells, hbz] at hc
 go_enter Tryz.func53, Tryz.ntmps53
 go_wp2_with fail
 refine bodyPost_ret (rr_ rfl _ _ w.heap.size _ _ _ _ rfl (hn_ w _) undSt rfl (by kernel_rfl)) rfl ?_
 have hB := (Below.refl w.heap.size w).alloc (Nat.le_refl _) (.cells #[.int .i64 2, .int .u32 0, .string ⟨#[]⟩] 111)
 exact ⟨rfl, V, cs, H.out.keep hB, Fr.of_below hB _⟩
theorem ref_wf {i k : Int} {qs : List Qn} (h0 : 0 ≤ i) (h1 : i ≤ 65535) (k0 : 0 ≤ k) (k1 : k ≤ 15) (hq : qs.length ≤ 2097152) (hw : ∀ q ∈ qs, WfQ q) : WfM (refM i k qs) :=
 ⟨h0, h1, by simp [refM], by simp [refM], by simp [refM]; omega, by simp [refM]; omega, hq, by simp [refM], by simp [refM], by simp [refM], hw, by simp [refM, recs]⟩
theorem nil_at (w : World) (i k : Int) : MsgAt w (refM i k []) (.slice none 0 0) (.slice none 0 0) (.slice none 0 0) (.slice none 0 0) := ⟨liesNil _ _, liesNil _ _, liesNil _ _, liesNil _ _⟩
theorem rAsk_bad (w : World) (rb : Nat) (st : RSt) (V : RV) (cs : List ChV) (s : ByteArray) (h : RefAt w rb st V cs) (hbz : st.busy = false) (hs : ¬ s.size < 12) (hsm : s.size ≤ 2097152) (hbad : unE s = 1 ∨ unE s = 0 ∧ (unM s).resp = true) :
  Calls Tryz.prog 53 #[.pointer (some ⟨rb, 0, none⟩), .string s] w (Answers w rb V cs (st, stepV 2 0 (str (replyL (refM (n2 s 0) 1 []))), 0)) := by
 have H1 := hide (Begun.start h)
 clear h
 unfold Answers
 have hc := bc_ H1.out.ref.box
 simp only [refCells, hbz] at hc
 have hi0 : ∀ W, (Instr.index 9 (.string s) (.int .i64 0)).run Tryz.prog W = .ok (.int .u8 (at8 s 0)) W := fun W => idx s 0 (by omega) W
 have hi1 : ∀ W, (Instr.index 9 (.string s) (.int .i64 1)).run Tryz.prog W = .ok (.int .u8 (at8 s 1)) W := fun W => idx s 1 (by omega) W
 have b0 := at8_lt s 0
 have b1 := at8_lt s 1
 have HID : Hid (IntKind.u16.wrap (IntKind.u16.wrap (IntKind.u16.wrap ((at8 s 0 : Nat) : Int) * 256) + IntKind.u16.wrap ((at8 s 1 : Nat) : Int)) = (n2 s 0 : Int)) := by
  have e : n2 s 0 = at8 s 0 * 256 + at8 s 1 := rfl
  rw [e]
  show _ = _
  simp only [IntKind.wrap_u16]
  omega
 have HWF : Hid (WfM (refM (n2 s 0) 1 [])) := ref_wf (by omega) (by have := n2_lt s 0; omega) (by omega) (by omega) (by simp) (by simp)
 go_enter Tryz.func53, Tryz.ntmps53
 go_wp2_with fail
 generalize w.alloc _ = W1 at H1 hc ⊢
 clear hc
 refine (rUnpack2 W1 s hsm).mono ?_
 rintro e w2 ⟨aq, cq, aa, ca, au, cu, ax, cx, rfl, H2⟩
 have HB2 := hide H2.out.1
 clear H2
 have HBG2 := hide (H1.out.below HB2.out)
 clear HB2 H1
 have er0 : unE s = 1 ∨ unE s = 0 := by rcases hbad with h | h; exact .inl h; exact .inr h.1
 generalize unM s = m at hbad ⊢
 generalize unE s = er at hbad er0 ⊢
 have HBG3 := hide (HBG2.out.below ((Below.refl _ _).alloc (Nat.le_refl _) (.cells (mc_ m (.slice aq m.qs.length cq) (.slice aa m.an.length ca) (.slice au m.au.length cu) (.slice ax m.ex.length cx)) 30)))
 have hcm := bc_ (hn_ w2 (.cells (mc_ m (.slice aq m.qs.length cq) (.slice aa m.an.length ca) (.slice au m.au.length cu) (.slice ax m.ex.length cx)) 30))
 obtain ⟨M, hM⟩ : ∃ M, M = w2.heap.size := ⟨_, rfl⟩
 simp only [mc_] at hcm HBG3 ⊢
 rcases hbad with rfl | ⟨rfl, hrp⟩
 ·go_wp2_with fail
  generalize w2.alloc _ = W3 at HBG3 hcm ⊢
  clear hcm
  have HBG4 := hide (HBG3.out.below (below_drewN (Below.refl _ W3) 1))
  go_region_held3 (fun _ => True) (trivial) (first | (go_at_call 87; rw [HID.out]; refine (reply_any W3.drew (refM (n2 s 0) 1 []) (.slice none 0 0) (.slice none 0 0) (.slice none 0 0) (.slice none 0 0) HWF.out (nil_at _ _ _)).mono ?_; rintro e w4 ⟨rfl, H4⟩; have HBG5 := hide (HBG4.out.below H4.out); clear H4; unfold stepV; have hcz := bc_ HBG5.out.res; have hfz := fz_ HBG5.out.res))
  all_goals
   go_wp2_with fail
   generalize str (replyL (refM (n2 s 0) 1 [])) = bs
   clear hcz hfz
   refine bodyPost_ret (rr_ rfl _ _ w.heap.size _ _ _ _ rfl (pb_ (.int .i64 2) (.int .u32 0) (.string bs) HBG5.out.res) undSt rfl (by kernel_rfl)) rfl ?_
   exact ⟨rfl, V, cs, HBG5.out.put _ _ _⟩
 ·rw [hrp] at hcm HBG3
  go_wp2_with fail
  generalize w2.alloc _ = W3 at HBG3 hcm ⊢
  clear hcm
  have HBG4 := hide (HBG3.out.below (below_drewN (Below.refl _ W3) 1))
  go_region_held3 (fun _ => True) (trivial) (first | (go_at_call 87; rw [HID.out]; refine (reply_any W3.drew (refM (n2 s 0) 1 []) (.slice none 0 0) (.slice none 0 0) (.slice none 0 0) (.slice none 0 0) HWF.out (nil_at _ _ _)).mono ?_; rintro e w4 ⟨rfl, H4⟩; have HBG5 := hide (HBG4.out.below H4.out); clear H4; unfold stepV; have hcz := bc_ HBG5.out.res; have hfz := fz_ HBG5.out.res))
  all_goals
   go_wp2_with fail
   generalize str (replyL (refM (n2 s 0) 1 [])) = bs
   clear hcz hfz
   refine bodyPost_ret (rr_ rfl _ _ w.heap.size _ _ _ _ rfl (pb_ (.int .i64 2) (.int .u32 0) (.string bs) HBG5.out.res) undSt rfl (by kernel_rfl)) rfl ?_
   exact ⟨rfl, V, cs, HBG5.out.put _ _ _⟩
end Go.Proofs.YtafoepfhepdcoaaGreat
namespace Go.Proofs.YtafoepfhepdcoaaGreat
open Go.RowKit Go.Trawl
attribute [local go_sem] buildSt0
def sendP (st : RSt) (r : List Ch) (c : Ch) : RSt × Value := if (c.sent : Int) < st.t then askP st r c else withoutP st c r.reverse
theorem sendP_step (st : RSt) (r : List Ch) (c : Ch) : ∃ k t s, (sendP st r c).2 = stepV k t s := by
 unfold sendP
 split
 ·exact askP_step _ _ _
 ·exact withoutP_step _ _ _
theorem send_any (w : World) (rb : Nat) (st : RSt) (V : RV) (cs : List ChV) (c : ChV) (h : RefAt w rb st V (cs ++ [c])) (hok : StOk st) (hne : c.ch.servers ≠ []) :
  Calls Tryz.prog 89 #[.pointer (some ⟨rb, 0, none⟩)] w (Says w rb V (cs ++ [c]) (sendP st (cs.map ChV.ch) c.ch)) := by
 by_cases ht : (c.ch.sent : Int) < st.t
 ·have e : sendP st (cs.map ChV.ch) c.ch = askP st (cs.map ChV.ch) c.ch := if_pos ht
  rw [e]
  exact send_low w rb st V cs c h hok hne ht
 have e : sendP st (cs.map ChV.ch) c.ch = withoutP st c.ch (cs.map ChV.ch).reverse := if_neg ht
 rw [e]
 clear e hne
 have HLT := hide h.lt
 have hB1 := (Below.refl w.heap.size w).alloc (Nat.le_refl _) (.cells #[.int .i64 0, .int .u32 0, .string ⟨#[]⟩] 111)
 have H1 := hide (h.keep hB1)
 have HF1 := hide (Fr.of_below hB1 (V.owns (cs ++ [c]) rb))
 have HZ1 := hide (hn_ w (.cells #[.int .i64 0, .int .u32 0, .string ⟨#[]⟩] 111))
 clear h hB1
 unfold Says
 go_enter Tryz.func89, Tryz.ntmps89
 go_wp2_with fail
 generalize w.alloc (.cells #[.int .i64 0, .int .u32 0, .string ⟨#[]⟩] 111) = W1 at H1 HF1 HZ1 ⊢
 obtain ⟨g, cap, cur, hvL, hg, k1, k2, k3, k4⟩ := row_at H1.out
 obtain ⟨vR, vq, va, vu, vx, vK, vS, vL⟩ := V
 obtain ⟨ch, vs, vn⟩ := c
 obtain ⟨nm, kd, zn, sv, sn, ns⟩ := ch
 dsimp only at hvL ht
 subst hvL
 have hc0 := bc_ H1.out.box
 simp only [refCells] at hc0
 have hg4 := ch_cells hg k4 4 (by decide)
 simp only [ChV.cells, List.getElem?_cons_zero, List.getElem?_cons_succ] at hg4
 have HOK := hide hok
 have ht1 := hok.t1
 have hcl : cs.length ≤ 1000 := by
  have := hok.len
  rw [← H1.out.chs] at this
  simp at this
  omega
 have hsn := (hok.chs ⟨nm, kd, zn, sv, sn, ns⟩ (by rw [← H1.out.chs]; simp)).sent
 dsimp only at hsn
 clear hok
 have hti : st.t ≤ (sn : Int) := by omega
 clear ht
 go_quiet (fail)
 go_wp2_with fail
 go_quiet (fail)
 go_wp2_with fail
 generalize hW2 : W1.drewN _ = W2
 have hb2 : Below W1.heap.size W1 W2 := by rw [← hW2]; exact below_drewN (Below.refl _ _) _
 have H2 := hide (H1.out.keep hb2)
 have HF2 := hide (HF1.out.trans (Fr.of_below hb2 _))
 have HZ2 := hide ((hb2.block _ (hl_ HZ1.out)).trans HZ1.out)
 clear hW2 hb2 H1 HF1 HZ1 hg hc0 hg4 k4
 refine ((goes_all rb cs.length).1 W2 st _ cs _ rfl H2.out HOK.out).mono ?_
 rintro e w3 ⟨he, h3⟩
 obtain ⟨V3, cs3, h31, h32⟩ := h3.out
 obtain ⟨k, to, s, hks⟩ := withoutP_step st ⟨nm, kd, zn, sv, sn, ns⟩ (cs.map ChV.ch).reverse
 dsimp only at he h31
 rw [hks] at he
 subst he
 have HZ3 := hide ((h32.block _ (hl_ HZ2.out) (fun e => by have := HLT.out _ e; omega)).trans HZ2.out)
 have hz2 := hl_ HZ2.out
 have HN3 : Hid (¬ V3.owns cs3 rb w.heap.size) := fun e => by
  rcases h32.new _ e with e | e
  ·have := HLT.out _ e; omega
  ·omega
 have HF3 := hide (HF2.out.trans h32)
 have H3 := hide h31
 clear h3 h31 h32 H2 HF2 HZ2
 unfold stepV
 have hcz := bc_ HZ3.out
 have hfz := fz_ HZ3.out
 have HKS := hide hks
 clear hks
 go_wp2_with fail
 clear hcz hfz
 refine bodyPost_ret (results_cell_row rfl _ _ w.heap.size _ _ _ _ rfl (pb_ (.int .i64 k) (.int .u32 to) (.string s) HZ3.out) undSt rfl (by kernel_rfl)) rfl ?_
 have hG := pg_ w3 w.heap.size (.int .i64 k) (.int .u32 to) (.string s)
 refine ⟨by rw [HKS.out]; rfl, V3, cs3, H3.out.aside hG HN3.out, HF3.out.write hG (Nat.le_refl _)⟩
theorem rLate_idle (w : World) (rb : Nat) (st : RSt) (V : RV) (cs : List ChV) (h : RefAt w rb st V cs) (hbz : st.busy = false) :
  Calls Tryz.prog 56 #[.pointer (some ⟨rb, 0, none⟩)] w (Answers w rb V cs (st, stepV 0 0 ⟨#[]⟩, 3)) := by
 have H1 := hide (Begun.start h)
 have H := hide h
 clear h
 unfold Answers
 have hc := bc_ H1.out.ref.box
 simp only [refCells, hbz] at hc
 go_enter Tryz.func56, Tryz.ntmps56
 go_wp2_with fail
 refine bodyPost_ret (rr_ rfl _ _ w.heap.size _ _ _ _ rfl (hn_ w _) undSt rfl (by kernel_rfl)) rfl ?_
 have hB := (Below.refl w.heap.size w).alloc (Nat.le_refl _) (.cells #[.int .i64 0, .int .u32 0, .string ⟨#[]⟩] 111)
 exact ⟨rfl, V, cs, H.out.keep hB, Fr.of_below hB _⟩
theorem rLate_busy (w : World) (rb : Nat) (st : RSt) (V : RV) (cs : List ChV) (c : ChV) (h : RefAt w rb st V (cs ++ [c])) (hbz : st.busy = true) (hok : StOk st) (hne : c.ch.servers ≠ []) :
  Calls Tryz.prog 56 #[.pointer (some ⟨rb, 0, none⟩)] w (Answers w rb V (cs ++ [c]) ((sendP st (cs.map ChV.ch) c.ch).1, (sendP st (cs.map ChV.ch) c.ch).2, 0)) := by
 have H1 := hide (Begun.start h)
 clear h
 unfold Answers
 obtain ⟨p, hp⟩ : ∃ p, p = sendP st (cs.map ChV.ch) c.ch := ⟨_, rfl⟩
 rw [← hp]
 have HP := hide hp
 have HOK := hide hok
 have HNE := hide hne
 clear hp hok hne
 dsimp only
 have hc := bc_ H1.out.ref.box
 simp only [refCells, hbz] at hc
 go_enter Tryz.func56, Tryz.ntmps56
 go_wp2_with fail
 generalize w.alloc _ = W1 at H1 hc ⊢
 clear hc
 refine (send_any W1 rb st V cs c H1.out.ref HOK.out HNE.out).mono ?_
 rintro e w2 ⟨he, H2⟩
 have he2 : e = .returned p.2 := by rw [he, HP.out]
 subst he2
 clear he
 obtain ⟨k, t, s', hst⟩ : ∃ k t s, p.2 = stepV k t s := by rw [HP.out]; exact sendP_step _ _ _
 rw [hst]
 obtain ⟨V', cs', h2, f2⟩ := H2.out
 have H3 : Hid (RefAt w2 rb p.1 V' cs') := by show RefAt _ _ _ _ _; rw [HP.out]; exact h2
 have HF3 := hide (H1.out.fr.trans f2)
 have hno : ¬ V.owns (cs ++ [c]) rb w.heap.size := fun e => by have := H1.out.lt _ e; omega
 have HRES := hide ((f2.block w.heap.size (hl_ H1.out.res) hno).trans H1.out.res)
 have HNO : Hid (¬ V'.owns cs' rb w.heap.size) := fun e => by
  rcases f2.new _ e with e | e
  ·exact hno e
  ·have := hl_ H1.out.res; omega
 clear h2 f2 H2 hno
 have HST := hide hst
 clear hst
 unfold stepV
 have hcz := bc_ HRES.out
 have hfz := fz_ HRES.out
 go_wp2_with fail
 clear hcz hfz
 refine bodyPost_ret (rr_ rfl _ _ w.heap.size _ _ _ _ rfl (pb_ (.int .i64 k) (.int .u32 t) (.string s') HRES.out) undSt rfl (by kernel_rfl)) rfl ?_
 have hG := pg_ w2 w.heap.size (.int .i64 k) (.int .u32 t) (.string s')
 exact ⟨by rw [HST.out]; rfl, V', cs', H3.out.aside hG HNO.out, HF3.out.write hG (Nat.le_refl _)⟩
end Go.Proofs.YtafoepfhepdcoaaGreat
