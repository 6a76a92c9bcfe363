import Derived.Test.YtafoepfhepdcoaaGreatM21
set_option maxRecDepth 100000
set_option maxHeartbeats 8000000
namespace Go.Proofs.YtafoepfhepdcoaaGreat
open Go.RowKit Go.Trawl
def lookP (st : RSt) : List Ch → RSt × Value
 | [] => failP st
 | c :: r => match c.names with
  | [] => if r = [] then failP { st with l := [c] } else lookP st r
  | n :: ns => if st.d < (r.length : Int) + 1 then (if r = [] then failP { st with l := [c] } else lookP st r) else askP st (r.reverse ++ [{ c with names := ns }]) (freshCh st n 1)
def withoutP (st : RSt) (c : Ch) (r : List Ch) : RSt × Value := if r = [] then failP { st with l := [c] } else lookP st r
def GoesWithout (rb n : Nat) : Prop := ∀ w st V cs c, cs.length = n → RefAt w rb st V (cs ++ [c]) → StOk st → Calls Tryz.prog 131 #[.pointer (some ⟨rb, 0, none⟩)] w (Says w rb V (cs ++ [c]) (withoutP st c.ch (cs.map ChV.ch).reverse))
def GoesLook (rb n : Nat) : Prop := ∀ w st V cs c, cs.length = n → RefAt w rb st V (cs ++ [c]) → StOk st → Calls Tryz.prog 166 #[.pointer (some ⟨rb, 0, none⟩)] w (Says w rb V (cs ++ [c]) (lookP st (c.ch :: (cs.map ChV.ch).reverse)))
theorem failP_step (st : RSt) : ∃ k t s, (failP st).2 = stepV k t s := ⟨2, 0, _, rfl⟩
theorem askP_step (st : RSt) (r : List Ch) (c : Ch) : ∃ k t s, (askP st r c).2 = stepV k t s := by
 unfold askP
 split
 ·exact failP_step _
 ·exact ⟨1, _, _, rfl⟩
theorem lookP_step (st : RSt) : ∀ l, ∃ k t s, (lookP st l).2 = stepV k t s
 | [] => failP_step st
 | c :: r => by
  unfold lookP
  split
  ·split
   ·exact failP_step _
   ·exact lookP_step st r
  ·split
   ·split
    ·exact failP_step _
    ·exact lookP_step st r
   ·exact askP_step _ _ _
theorem withoutP_step (st : RSt) (c : Ch) (r : List Ch) : ∃ k t s, (withoutP st c r).2 = stepV k t s := by
 unfold withoutP
 split
 ·exact failP_step _
 ·exact lookP_step st r
theorem StOk.withL {st : RSt} (h : StOk st) (l : List Ch) (hl : l.length ≤ 1000) (hc : ∀ c ∈ l, ChOk c) : StOk { st with l := l } :=
 ⟨h.b0, h.b1, h.d0, h.d1, h.c0, h.c1, h.t0, h.t1, h.r0, h.r1, h.id0, h.id1, h.asked, h.kept, h.recs, h.seen, h.texts, hl, hc, h.spent⟩
theorem fresh_ok {st : RSt} (h : StOk st) (n : ByteArray) (hn : n.size ≤ 2097152) (k : Int) (h0 : 0 ≤ k) (h1 : k ≤ 65535) : ChOk (freshCh st n k) :=
 ⟨hn, h0, h1, by show (1 : Nat) ≤ _; decide, by have := h.r1; show st.roots.length ≤ _; omega, Nat.zero_le _, Nat.zero_le _, fun x hx => by cases hx⟩
theorem look_step (rb n : Nat) (hW : GoesWithout rb n) : GoesLook rb n := by
 intro w st V cs c hn h hok
 subst hn
 have HLT := hide h.lt
 have hB1 := (Below.refl w.heap.size w).alloc (Nat.le_refl _) (.cells #[.int .i64 0, .int .u32 0, .string ⟨#[]⟩] 111)
 have H1 := hide (h.keep hB1)
 have HF1 := hide (Fr.of_below hB1 (V.owns (cs ++ [c]) rb))
 have HZ1 := hide (hn_ w (.cells #[.int .i64 0, .int .u32 0, .string ⟨#[]⟩] 111))
 have HWI := hide hW
 clear h hB1 hW
 unfold Says
 go_enter Tryz.func166, Tryz.ntmps166
 go_wp2_with fail
 generalize w.alloc (.cells #[.int .i64 0, .int .u32 0, .string ⟨#[]⟩] 111) = W1 at H1 HF1 HZ1 ⊢
 obtain ⟨g, cap, cur, hvL, hg, k1, k2, k3, k4⟩ := row_at H1.out
 obtain ⟨vR, vq, va, vu, vx, vK, vS, vL⟩ := V
 obtain ⟨ch, vs, vn⟩ := c
 obtain ⟨nm, kd, zn, sv, sn, ns⟩ := ch
 dsimp only at hvL
 subst hvL
 have hvn : Lies W1 1 vn (textsV ns) := (H1.out.srv _ (List.mem_append_right _ (List.mem_singleton.2 rfl))).2
 obtain ⟨aN, cN, rfl, _, hvn⟩ := hvn
 have hlw : (textsV ns).length = ns.length := by simp [textsV]
 rw [hlw] at H1 HF1 HLT k4
 have hc0 := bc_ H1.out.box
 simp only [refCells] at hc0
 have hg5 := ch_cells hg k4 5 (by decide)
 simp only [ChV.cells, List.getElem?_cons_zero, List.getElem?_cons_succ] at hg5
 have HOK := hide hok
 have hd0 := hok.d0
 have hd1 := hok.d1
 have hcl : cs.length ≤ 1000 := by
  have := hok.len
  rw [← H1.out.chs] at this
  simp at this
  omega
 have hnl := (hok.chs ⟨nm, kd, zn, sv, sn, ns⟩ (by rw [← H1.out.chs]; simp)).names
 dsimp only at hnl
 clear hok
 go_quiet (fail)
 go_wp2_with fail
 by_cases h0 : ns = []
 ·have hz : ((ns.length : Int) == 0) = true := by subst h0; rfl
  have HLP : Hid (lookP st (⟨nm, kd, zn, sv, sn, ns⟩ :: (cs.map ChV.ch).reverse) = withoutP st ⟨nm, kd, zn, sv, sn, ns⟩ (cs.map ChV.ch).reverse) := by
   unfold Hid
   subst h0
   rfl
  clear h0
  go_quiet (fail)
  go_wp2_with fail
  generalize hW2 : W1.drewN _ = W2
  have hb2 : Below W1.heap.size W1 W2 := by rw [← hW2]; exact below_drewN (Below.refl _ _) _
  have H2 := hide (H1.out.keep hb2)
  have HF2 := hide (HF1.out.trans (Fr.of_below hb2 _))
  have HZ2 := hide ((hb2.block _ (hl_ HZ1.out)).trans HZ1.out)
  clear hW2 hb2 H1 HF1 HZ1 hg hc0 hg5 k4 hvn
  refine (HWI.out W2 st _ cs _ rfl H2.out HOK.out).mono ?_
  rintro e w3 ⟨he, h3⟩
  obtain ⟨V3, cs3, h31, h32⟩ := h3.out
  obtain ⟨k, to, s, hks⟩ := withoutP_step st ⟨nm, kd, zn, sv, sn, ns⟩ (cs.map ChV.ch).reverse
  dsimp only at he h31
  rw [hks] at he
  subst he
  have HZ3 := hide ((h32.block _ (hl_ HZ2.out) (fun e => by have := HLT.out _ e; omega)).trans HZ2.out)
  have hz2 := hl_ HZ2.out
  have HN3 : Hid (¬ V3.owns cs3 rb w.heap.size) := fun e => by
   rcases h32.new _ e with e | e
   ·have := HLT.out _ e; omega
   ·omega
  have HF3 := hide (HF2.out.trans h32)
  have H3 := hide h31
  clear h3 h31 h32 H2 HF2 HZ2
  unfold stepV
  have hcz := bc_ HZ3.out
  have hfz := fz_ HZ3.out
  have HKS := hide hks
  clear hks
  go_wp2_with fail
  clear hcz hfz
  refine bodyPost_ret (results_cell_row rfl _ _ w.heap.size _ _ _ _ rfl (pb_ (.int .i64 k) (.int .u32 to) (.string s) HZ3.out) undSt rfl (by kernel_rfl)) rfl ?_
  have hG := pg_ w3 w.heap.size (.int .i64 k) (.int .u32 to) (.string s)
  rw [HLP.out]
  refine ⟨by rw [HKS.out]; rfl, V3, cs3, H3.out.aside hG HN3.out, HF3.out.write hG (Nat.le_refl _)⟩
 ·have hz : ((ns.length : Int) == 0) = false := by
   cases ns with
   | nil => exact absurd rfl h0
   | cons a l => simp; omega
  by_cases hdp : st.d < (cs.length : Int) + 1
  ·have HLP : Hid (lookP st (⟨nm, kd, zn, sv, sn, ns⟩ :: (cs.map ChV.ch).reverse) = withoutP st ⟨nm, kd, zn, sv, sn, ns⟩ (cs.map ChV.ch).reverse) := by
    unfold Hid
    cases ns with
    | nil => rfl
    | cons a l =>
     show (if st.d < _ then _ else _) = _
     rw [if_pos (by simpa using hdp)]
     rfl
   go_quiet (fail)
   go_wp2_with fail
   generalize hW2 : W1.drewN _ = W2
   have hb2 : Below W1.heap.size W1 W2 := by rw [← hW2]; exact below_drewN (Below.refl _ _) _
   have H2 := hide (H1.out.keep hb2)
   have HF2 := hide (HF1.out.trans (Fr.of_below hb2 _))
   have HZ2 := hide ((hb2.block _ (hl_ HZ1.out)).trans HZ1.out)
   clear hW2 hb2 H1 HF1 HZ1 hg hc0 hg5 k4 hvn
   refine (HWI.out W2 st _ cs _ rfl H2.out HOK.out).mono ?_
   rintro e w3 ⟨he, h3⟩
   obtain ⟨V3, cs3, h31, h32⟩ := h3.out
   obtain ⟨k, to, s, hks⟩ := withoutP_step st ⟨nm, kd, zn, sv, sn, ns⟩ (cs.map ChV.ch).reverse
   dsimp only at he h31
   rw [hks] at he
   subst he
   have HZ3 := hide ((h32.block _ (hl_ HZ2.out) (fun e => by have := HLT.out _ e; omega)).trans HZ2.out)
   have hz2 := hl_ HZ2.out
   have HN3 : Hid (¬ V3.owns cs3 rb w.heap.size) := fun e => by
    rcases h32.new _ e with e | e
    ·have := HLT.out _ e; omega
    ·omega
   have HF3 := hide (HF2.out.trans h32)
   have H3 := hide h31
   clear h3 h31 h32 H2 HF2 HZ2
   unfold stepV
   have hcz := bc_ HZ3.out
   have hfz := fz_ HZ3.out
   have HKS := hide hks
   clear hks
   go_wp2_with fail
   clear hcz hfz
   refine bodyPost_ret (results_cell_row rfl _ _ w.heap.size _ _ _ _ rfl (pb_ (.int .i64 k) (.int .u32 to) (.string s) HZ3.out) undSt rfl (by kernel_rfl)) rfl ?_
   have hG := pg_ w3 w.heap.size (.int .i64 k) (.int .u32 to) (.string s)
   rw [HLP.out]
   refine ⟨by rw [HKS.out]; rfl, V3, cs3, H3.out.aside hG HN3.out, HF3.out.write hG (Nat.le_refl _)⟩
  ·rcases hvn with e0 | ⟨bN, oN, rfl, hbN, hN⟩
   ·exact absurd (by simpa [textsV] using e0) h0
   cases ns with
   | nil => exact absurd rfl h0
   | cons n0 ns =>
    have hx0 : W1.cell? ⟨bN, oN, none⟩ = some (.string n0) := by
     have := hN 0 [.string n0] rfl 0 (.string n0) rfl
     simpa using this
    have HNT : Hid (Lies W1 1 (.slice (some ⟨bN, oN, none⟩) (n0 :: ns).length cN) (textsV (n0 :: ns))) := by
     have := (H1.out.srv _ (List.mem_append_right _ (List.mem_singleton.2 rfl))).2
     exact this
    have hgr : g ≠ rb := fun e => by
     subst e
     rw [H1.out.box] at hg
     cases hg
    have hfg := fz_ hg
    have hcap : ns.length + 1 ≤ cN := (H1.out.caps ⟨⟨nm, kd, zn, sv, sn, n0 :: ns⟩, vs, .slice (some ⟨bN, oN, none⟩) (n0 :: ns).length cN⟩ (List.mem_append_right _ (List.mem_singleton.2 rfl))) _ _ _ rfl
    have HLP : Hid (lookP st (⟨nm, kd, zn, sv, sn, n0 :: ns⟩ :: (cs.map ChV.ch).reverse) = askP st (cs.map ChV.ch ++ [⟨nm, kd, zn, sv, sn, ns⟩]) (freshCh st n0 1)) := by
     unfold Hid
     show (if st.d < _ then _ else _) = _
     rw [if_neg (by simpa using hdp), List.reverse_reverse]
    obtain ⟨vt, hvt, hvtl, hvtc, hvtb⟩ : ∃ vt : Value, vt = (if cN = 1 then .slice (some ⟨bN, oN, none⟩) ns.length (cN - 1) else .slice (some ⟨bN, oN + 1, none⟩) ns.length (cN - 1)) ∧ Lies W1 1 vt (textsV ns) ∧ capOk vt ∧ vt.ownBlock = some bN := by
     refine ⟨_, rfl, ?_, ?_, ?_⟩
     ·split
      ·have : ns = [] := List.eq_nil_of_length_eq_zero (by omega)
       subst this
       exact ⟨_, _, rfl, fun e => (by cases e), .inl rfl⟩
      ·refine ⟨some ⟨bN, oN + 1, none⟩, cN - 1, by simp [textsV], fun e => (by cases e), .inr ⟨bN, oN + 1, rfl, hbN, fun i e hi j u hj => ?_⟩⟩
       have := hN (i + 1) e hi j u hj
       rw [show oN + 1 + i * 1 + j = oN + (i + 1) * 1 + j by omega]
       exact this
     ·intro a n c e
      split at e <;> · cases e; omega
     ·split <;> rfl
    have HVT := hide hvtl
    have HVC := hide hvtc
    clear h0 hN hvtl hvtc
    have hcs6 : cs.length + 1 ≤ 6 := by omega
    have hrne : st.roots ≠ [] := fun e => by have := HOK.out.r0; rw [e] at this; simp at this
    have ht0 := HOK.out.t0
    have HRN := hide hrne
    clear hrne
    by_cases hcN : cN = 1
    ·have hvt' : vt = .slice (some ⟨bN, oN, none⟩) 0 0 := by rw [hvt, if_pos hcN, hcN, show ns.length = 0 by omega]
     clear hvt
     subst hcN
     go_quiet (fail)
     go_wp2_with fail
     rw [← hvt']
     generalize hW2 : W1.drewN _ = W2
     have hb2 : Below W1.heap.size W1 W2 := by rw [← hW2]; exact below_drewN (Below.refl _ _) _
     have H2 := hide (H1.out.keep hb2)
     have HF2 := hide (HF1.out.trans (Fr.of_below hb2 _))
     have HZ2 := hide ((hb2.block _ (hl_ HZ1.out)).trans HZ1.out)
     have HVT2 := hide (HVT.out.below hb2)
     have hold : ∀ k, vs.ownBlock = some k ∨ vt.ownBlock = some k → ∃ v ∈ RV.reads ⟨vR, vq, va, vu, vx, vK, vS, .slice (some ⟨g, 0, none⟩) (cs.length + 1) cap⟩ (cs ++ [⟨⟨nm, kd, zn, sv, sn, n0 :: ns⟩, vs, .slice (some ⟨bN, oN, none⟩) (n0 :: ns).length 1⟩]), v.ownBlock = some k := fun k hk => by
      rcases hk with hk | hk
      ·exact ⟨_, (rs_ _ _ _ _).2 (.inr (.inl rfl)), hk⟩
      ·refine ⟨_, (rs_ _ _ _ _).2 (.inr (.inr rfl)), ?_⟩
       rw [hvtb] at hk
       exact hk
     have H3 := hide (H2.out.top (c' := ⟨⟨nm, kd, zn, sv, sn, ns⟩, vs, vt⟩) rfl 5 vt (by decide) rfl (H2.out.srv _ (List.mem_append_right _ (List.mem_singleton.2 rfl))).1 HVT2.out (fun k hk => by
      obtain ⟨v, hv, e⟩ := hold k hk
      exact ⟨H2.out.lt k (.inr ⟨v, hv, e⟩), H2.out.free v hv k e⟩) HVC.out)
     have HF3 := hide (HF2.out.top (c' := ⟨⟨nm, kd, zn, sv, sn, ns⟩, vs, vt⟩) rfl 5 vt (fun k hk => .inl (.inr (hold k hk))))
     have hzg : g < w.heap.size := HLT.out g (.inl (.inr (.inr (.inr rfl))))
     have HZ3 := hide ((Below.heap_setCell W2 ⟨g, cs.length * 6 + 5, none⟩ vt w.heap.size (Nat.ne_of_gt hzg)).trans HZ2.out)
     have HCS := hide H1.out.chs
     clear hold H1 HF1 HZ1 H2 HF2 HZ2 hW2 hb2 HVT HVT2 HVC hg hc0 hg5 k4 hx0 hfg hgr HNT hvt'
     generalize W2.setCell ⟨g, cs.length * 6 + 5, none⟩ vt = W3 at H3 HF3 HZ3 ⊢
     refine (chase_any W3 rb _ _ (cs ++ [⟨⟨nm, kd, zn, sv, sn, ns⟩, vs, vt⟩]) n0 1 H3.out (by simp; omega)).mono ?_
     rintro e W4 ⟨rfl, h4⟩
     obtain ⟨vL', h41, h42⟩ := h4.out
     have HN3 : ∀ k, RV.owns ⟨vR, vq, va, vu, vx, vK, vS, .slice (some ⟨g, 0, none⟩) (cs.length + 1) cap⟩ (cs ++ [⟨⟨nm, kd, zn, sv, sn, ns⟩, vs, vt⟩]) rb k → k ≠ w.heap.size := fun k hk e => by
      subst e
      rcases hk with hk | ⟨v, hv, hk⟩
      ·have := HLT.out _ (.inl hk); omega
      ·rcases (rs_ _ _ _ _).1 hv with hv | hv | hv
       ·have := HLT.out _ (.inr ⟨v, (rs_ _ _ _ _).2 (.inl hv), hk⟩); omega
       ·have := HLT.out _ (.inr ⟨v, (rs_ _ _ _ _).2 (.inr (.inl hv)), hk⟩); omega
       ·rw [hv, hvtb] at hk
        have := HLT.out w.heap.size (.inr ⟨_, (rs_ _ _ _ _).2 (.inr (.inr rfl)), hk⟩); omega
     have HZ4 := hide ((h42.block _ (hl_ HZ3.out) (fun e => HN3 _ e rfl)).trans HZ3.out)
     have HF4 := hide (HF3.out.trans h42)
     have HNW := hide h42.new
     have H4 := hide h41
     clear h4 h41 h42 H3 HF3
     have hz3 := hl_ HZ3.out
     go_wp2_with fail
     have HST : Hid (StOk { st with l := cs.map ChV.ch ++ [(⟨nm, kd, zn, sv, sn, ns⟩ : Ch)] ++ [freshCh st n0 1] }) := by
      have hall := HOK.out.chs
      rw [← HCS.out] at hall
      have hc1 := hall ⟨nm, kd, zn, sv, sn, n0 :: ns⟩ (by simp)
      refine HOK.out.withL _ (by simp; omega) (fun c hc => ?_)
      simp only [List.mem_append, List.mem_singleton] at hc
      rcases hc with (hc | hc) | hc
      ·exact hall c (by rw [List.map_append]; exact List.mem_append_left _ hc)
      ·subst hc
       exact ⟨hc1.name, hc1.kind0, hc1.kind1, hc1.zone, hc1.servers, hc1.sent, Nat.le_trans (Nat.le_succ _) hc1.names, fun x hx => hc1.texts x (List.mem_cons_of_mem _ hx)⟩
      ·subst hc
       exact fresh_ok HOK.out n0 (hc1.texts n0 List.mem_cons_self) 1 (by decide) (by decide)
     have hA : ∀ l, askP { st with l := l } ((cs ++ [(⟨⟨nm, kd, zn, sv, sn, ns⟩, vs, vt⟩ : ChV)]).map ChV.ch) (freshCh st n0 1) = askP st (cs.map ChV.ch ++ [(⟨nm, kd, zn, sv, sn, ns⟩ : Ch)]) (freshCh st n0 1) := fun l => by
      rw [List.map_append]
      rfl
     refine (send_low W4 rb _ _ (cs ++ [(⟨⟨nm, kd, zn, sv, sn, ns⟩, vs, vt⟩ : ChV)]) _ H4.out HST.out HRN.out (show ((0 : Nat) : Int) < st.t by omega)).mono ?_
     rintro e w5 ⟨he, h5⟩
     obtain ⟨V5, cs5, h51, h52⟩ := h5.out
     replace he : e = .returned (askP { st with l := cs.map ChV.ch ++ [(⟨nm, kd, zn, sv, sn, ns⟩ : Ch)] ++ [freshCh st n0 1] } ((cs ++ [(⟨⟨nm, kd, zn, sv, sn, ns⟩, vs, vt⟩ : ChV)]).map ChV.ch) (freshCh st n0 1)).2 := he
     replace h51 : RefAt w5 rb (askP { st with l := cs.map ChV.ch ++ [(⟨nm, kd, zn, sv, sn, ns⟩ : Ch)] ++ [freshCh st n0 1] } ((cs ++ [(⟨⟨nm, kd, zn, sv, sn, ns⟩, vs, vt⟩ : ChV)]).map ChV.ch) (freshCh st n0 1)).1 V5 cs5 := h51
     rw [hA, ← HLP.out] at he h51
     obtain ⟨k, to, s, hks⟩ := lookP_step st ((⟨nm, kd, zn, sv, sn, n0 :: ns⟩ : Ch) :: (cs.map ChV.ch).reverse)
     rw [hks] at he
     subst he
     have HN4 : ∀ k, RV.owns (withL ⟨vR, vq, va, vu, vx, vK, vS, .slice (some ⟨g, 0, none⟩) (cs.length + 1) cap⟩ vL') (cs ++ [(⟨⟨nm, kd, zn, sv, sn, ns⟩, vs, vt⟩ : ChV)] ++ [(⟨freshCh st n0 1, vR, .slice none 0 0⟩ : ChV)]) rb k → k ≠ w.heap.size := fun k hk e => by
      rcases HNW.out k hk with h | h
      ·exact HN3 k h e
      ·omega
     have HZ5 := hide ((h52.block _ (hl_ HZ4.out) (fun e => HN4 _ e rfl)).trans HZ4.out)
     have hz4 := hl_ HZ4.out
     have HN5 : Hid (¬ V5.owns cs5 rb w.heap.size) := fun e => by
      rcases h52.new _ e with h | h
      ·exact HN4 _ h rfl
      ·omega
     have HF5 := hide (HF4.out.trans h52)
     have H5 := hide h51
     clear h5 h51 h52 H4 HF4 hA
     unfold stepV
     have hcz := bc_ HZ5.out
     have hfz := fz_ HZ5.out
     have HKS := hide hks
     clear hks
     go_wp2_with fail
     clear hcz hfz
     refine bodyPost_ret (results_cell_row rfl _ _ w.heap.size _ _ _ _ rfl (pb_ (.int .i64 k) (.int .u32 to) (.string s) HZ5.out) undSt rfl (by kernel_rfl)) rfl ?_
     have hG := pg_ w5 w.heap.size (.int .i64 k) (.int .u32 to) (.string s)
     refine ⟨by rw [HKS.out]; rfl, V5, cs5, H5.out.aside hG HN5.out, HF5.out.write hG (Nat.le_refl _)⟩
    ·have hvt' : vt = .slice (some ⟨bN, oN + 1, none⟩) ns.length (cN - 1) := by rw [hvt, if_neg hcN]
     clear hvt
     go_quiet (fail)
     go_wp2_with fail
     rw [← hvt']
     generalize hW2 : W1.drewN _ = W2
     have hb2 : Below W1.heap.size W1 W2 := by rw [← hW2]; exact below_drewN (Below.refl _ _) _
     have H2 := hide (H1.out.keep hb2)
     have HF2 := hide (HF1.out.trans (Fr.of_below hb2 _))
     have HZ2 := hide ((hb2.block _ (hl_ HZ1.out)).trans HZ1.out)
     have HVT2 := hide (HVT.out.below hb2)
     have hold : ∀ k, vs.ownBlock = some k ∨ vt.ownBlock = some k → ∃ v ∈ RV.reads ⟨vR, vq, va, vu, vx, vK, vS, .slice (some ⟨g, 0, none⟩) (cs.length + 1) cap⟩ (cs ++ [⟨⟨nm, kd, zn, sv, sn, n0 :: ns⟩, vs, .slice (some ⟨bN, oN, none⟩) (n0 :: ns).length cN⟩]), v.ownBlock = some k := fun k hk => by
      rcases hk with hk | hk
      ·exact ⟨_, (rs_ _ _ _ _).2 (.inr (.inl rfl)), hk⟩
      ·refine ⟨_, (rs_ _ _ _ _).2 (.inr (.inr rfl)), ?_⟩
       rw [hvtb] at hk
       exact hk
     have H3 := hide (H2.out.top (c' := ⟨⟨nm, kd, zn, sv, sn, ns⟩, vs, vt⟩) rfl 5 vt (by decide) rfl (H2.out.srv _ (List.mem_append_right _ (List.mem_singleton.2 rfl))).1 HVT2.out (fun k hk => by
      obtain ⟨v, hv, e⟩ := hold k hk
      exact ⟨H2.out.lt k (.inr ⟨v, hv, e⟩), H2.out.free v hv k e⟩) HVC.out)
     have HF3 := hide (HF2.out.top (c' := ⟨⟨nm, kd, zn, sv, sn, ns⟩, vs, vt⟩) rfl 5 vt (fun k hk => .inl (.inr (hold k hk))))
     have hzg : g < w.heap.size := HLT.out g (.inl (.inr (.inr (.inr rfl))))
     have HZ3 := hide ((Below.heap_setCell W2 ⟨g, cs.length * 6 + 5, none⟩ vt w.heap.size (Nat.ne_of_gt hzg)).trans HZ2.out)
     have HCS := hide H1.out.chs
     clear hold H1 HF1 HZ1 H2 HF2 HZ2 hW2 hb2 HVT HVT2 HVC hg hc0 hg5 k4 hx0 hfg hgr HNT hvt'
     generalize W2.setCell ⟨g, cs.length * 6 + 5, none⟩ vt = W3 at H3 HF3 HZ3 ⊢
     refine (chase_any W3 rb _ _ (cs ++ [⟨⟨nm, kd, zn, sv, sn, ns⟩, vs, vt⟩]) n0 1 H3.out (by simp; omega)).mono ?_
     rintro e W4 ⟨rfl, h4⟩
     obtain ⟨vL', h41, h42⟩ := h4.out
     have HN3 : ∀ k, RV.owns ⟨vR, vq, va, vu, vx, vK, vS, .slice (some ⟨g, 0, none⟩) (cs.length + 1) cap⟩ (cs ++ [⟨⟨nm, kd, zn, sv, sn, ns⟩, vs, vt⟩]) rb k → k ≠ w.heap.size := fun k hk e => by
      subst e
      rcases hk with hk | ⟨v, hv, hk⟩
      ·have := HLT.out _ (.inl hk); omega
      ·rcases (rs_ _ _ _ _).1 hv with hv | hv | hv
       ·have := HLT.out _ (.inr ⟨v, (rs_ _ _ _ _).2 (.inl hv), hk⟩); omega
       ·have := HLT.out _ (.inr ⟨v, (rs_ _ _ _ _).2 (.inr (.inl hv)), hk⟩); omega
       ·rw [hv, hvtb] at hk
        have := HLT.out w.heap.size (.inr ⟨_, (rs_ _ _ _ _).2 (.inr (.inr rfl)), hk⟩); omega
     have HZ4 := hide ((h42.block _ (hl_ HZ3.out) (fun e => HN3 _ e rfl)).trans HZ3.out)
     have HF4 := hide (HF3.out.trans h42)
     have HNW := hide h42.new
     have H4 := hide h41
     clear h4 h41 h42 H3 HF3
     have hz3 := hl_ HZ3.out
     go_wp2_with fail
     have HST : Hid (StOk { st with l := cs.map ChV.ch ++ [(⟨nm, kd, zn, sv, sn, ns⟩ : Ch)] ++ [freshCh st n0 1] }) := by
      have hall := HOK.out.chs
      rw [← HCS.out] at hall
      have hc1 := hall ⟨nm, kd, zn, sv, sn, n0 :: ns⟩ (by simp)
      refine HOK.out.withL _ (by simp; omega) (fun c hc => ?_)
      simp only [List.mem_append, List.mem_singleton] at hc
      rcases hc with (hc | hc) | hc
      ·exact hall c (by rw [List.map_append]; exact List.mem_append_left _ hc)
      ·subst hc
       exact ⟨hc1.name, hc1.kind0, hc1.kind1, hc1.zone, hc1.servers, hc1.sent, Nat.le_trans (Nat.le_succ _) hc1.names, fun x hx => hc1.texts x (List.mem_cons_of_mem _ hx)⟩
      ·subst hc
       exact fresh_ok HOK.out n0 (hc1.texts n0 List.mem_cons_self) 1 (by decide) (by decide)
     have hA : ∀ l, askP { st with l := l } ((cs ++ [(⟨⟨nm, kd, zn, sv, sn, ns⟩, vs, vt⟩ : ChV)]).map ChV.ch) (freshCh st n0 1) = askP st (cs.map ChV.ch ++ [(⟨nm, kd, zn, sv, sn, ns⟩ : Ch)]) (freshCh st n0 1) := fun l => by
      rw [List.map_append]
      rfl
     refine (send_low W4 rb _ _ (cs ++ [(⟨⟨nm, kd, zn, sv, sn, ns⟩, vs, vt⟩ : ChV)]) _ H4.out HST.out HRN.out (show ((0 : Nat) : Int) < st.t by omega)).mono ?_
     rintro e w5 ⟨he, h5⟩
     obtain ⟨V5, cs5, h51, h52⟩ := h5.out
     replace he : e = .returned (askP { st with l := cs.map ChV.ch ++ [(⟨nm, kd, zn, sv, sn, ns⟩ : Ch)] ++ [freshCh st n0 1] } ((cs ++ [(⟨⟨nm, kd, zn, sv, sn, ns⟩, vs, vt⟩ : ChV)]).map ChV.ch) (freshCh st n0 1)).2 := he
     replace h51 : RefAt w5 rb (askP { st with l := cs.map ChV.ch ++ [(⟨nm, kd, zn, sv, sn, ns⟩ : Ch)] ++ [freshCh st n0 1] } ((cs ++ [(⟨⟨nm, kd, zn, sv, sn, ns⟩, vs, vt⟩ : ChV)]).map ChV.ch) (freshCh st n0 1)).1 V5 cs5 := h51
     rw [hA, ← HLP.out] at he h51
     obtain ⟨k, to, s, hks⟩ := lookP_step st ((⟨nm, kd, zn, sv, sn, n0 :: ns⟩ : Ch) :: (cs.map ChV.ch).reverse)
     rw [hks] at he
     subst he
     have HN4 : ∀ k, RV.owns (withL ⟨vR, vq, va, vu, vx, vK, vS, .slice (some ⟨g, 0, none⟩) (cs.length + 1) cap⟩ vL') (cs ++ [(⟨⟨nm, kd, zn, sv, sn, ns⟩, vs, vt⟩ : ChV)] ++ [(⟨freshCh st n0 1, vR, .slice none 0 0⟩ : ChV)]) rb k → k ≠ w.heap.size := fun k hk e => by
      rcases HNW.out k hk with h | h
      ·exact HN3 k h e
      ·omega
     have HZ5 := hide ((h52.block _ (hl_ HZ4.out) (fun e => HN4 _ e rfl)).trans HZ4.out)
     have hz4 := hl_ HZ4.out
     have HN5 : Hid (¬ V5.owns cs5 rb w.heap.size) := fun e => by
      rcases h52.new _ e with h | h
      ·exact HN4 _ h rfl
      ·omega
     have HF5 := hide (HF4.out.trans h52)
     have H5 := hide h51
     clear h5 h51 h52 H4 HF4 hA
     unfold stepV
     have hcz := bc_ HZ5.out
     have hfz := fz_ HZ5.out
     have HKS := hide hks
     clear hks
     go_wp2_with fail
     clear hcz hfz
     refine bodyPost_ret (results_cell_row rfl _ _ w.heap.size _ _ _ _ rfl (pb_ (.int .i64 k) (.int .u32 to) (.string s) HZ5.out) undSt rfl (by kernel_rfl)) rfl ?_
     have hG := pg_ w5 w.heap.size (.int .i64 k) (.int .u32 to) (.string s)
     refine ⟨by rw [HKS.out]; rfl, V5, cs5, H5.out.aside hG HN5.out, HF5.out.write hG (Nat.le_refl _)⟩
attribute [local go_sem] Stg.upon
theorem lookP_l (st : RSt) (l : List Ch) : ∀ r, lookP { st with l := l } r = if r = [] then failP { st with l := l } else lookP st r
 | [] => rfl
 | c :: r => by
  rw [if_neg (by simp)]
  unfold lookP
  split
  ·split
   ·rfl
   ·rw [lookP_l st l r, if_neg (by assumption)]
  ·split
   ·split
    ·rfl
    ·rw [lookP_l st l r, if_neg (by assumption)]
   ·rfl
theorem without2_any (rb : Nat) (w : World) (st : RSt) (V : RV) (cs : List ChV) (c1 c : ChV) (hL : GoesLook rb cs.length) (h : RefAt w rb st V (cs ++ [c1] ++ [c])) (hok : StOk st) :
  Calls Tryz.prog 136 #[.pointer (some ⟨rb, 0, none⟩)] w (Says w rb V (cs ++ [c1] ++ [c]) (lookP st (c1.ch :: (cs.map ChV.ch).reverse))) := by
 have HLT := hide h.lt
 have hB1 := (Below.refl w.heap.size w).alloc (Nat.le_refl _) (.cells #[.int .i64 0, .int .u32 0, .string ⟨#[]⟩] 111)
 have H1 := hide (h.keep hB1)
 have HF1 := hide (Fr.of_below hB1 (V.owns (cs ++ [c1] ++ [c]) rb))
 have HZ1 := hide (hn_ w (.cells #[.int .i64 0, .int .u32 0, .string ⟨#[]⟩] 111))
 have HLI := hide hL
 have HCS := hide h.chs
 have HOK := hide hok
 clear h hB1 hL
 unfold Says
 go_enter Tryz.func136, Tryz.ntmps136
 go_wp2_with fail
 generalize w.alloc (.cells #[.int .i64 0, .int .u32 0, .string ⟨#[]⟩] 111) = W1 at H1 HF1 HZ1 ⊢
 obtain ⟨g, cap, cur, hvL, hg, k1, k2, k3, k4⟩ := row_at H1.out
 obtain ⟨vR, vq, va, vu, vx, vK, vS, vL⟩ := V
 dsimp only at hvL
 subst hvL
 have hcl : (cs ++ [c1]).length ≤ 1000 := by
  have := hok.len
  rw [← H1.out.chs] at this
  simp only [List.length_map, List.length_append] at this ⊢
  omega
 obtain ⟨W3, hW3⟩ : ∃ W : World, W = W1.drew := ⟨_, rfl⟩
 have hb3 : Below W1.heap.size W1 W3 := by rw [hW3]; exact below_drewN (Below.refl _ _) 1
 have H3 := hide (H1.out.keep hb3)
 have HF3 := hide (HF1.out.trans (Fr.of_below hb3 _))
 have HZ3 := hide ((hb3.block _ (hl_ HZ1.out)).trans HZ1.out)
 clear hb3 H1 HF1 HZ1 hg k4
 have H4 := hide (H3.out.pop rfl)
 have HF4 := hide (HF3.out.pop rfl)
 have hzr : rb < w.heap.size := HLT.out rb (.inl (.inl rfl))
 have HZ4 := hide ((Below.heap_setCell W3 ⟨rb, 21, none⟩ (.slice (some ⟨g, 0, none⟩) (cs ++ [c1]).length cap) w.heap.size (Nat.ne_of_gt hzr)).trans HZ3.out)
 have hc3 := bc_ H3.out.box
 simp only [refCells] at hc3
 have hf3 := fz_ H3.out.box
 have HN4 : ∀ k, RV.owns (withL ⟨vR, vq, va, vu, vx, vK, vS, .slice (some ⟨g, 0, none⟩) ((cs ++ [c1]).length + 1) cap⟩ (.slice (some ⟨g, 0, none⟩) (cs ++ [c1]).length cap)) (cs ++ [c1]) rb k → k < w.heap.size := fun k hk => by
  rcases hk with hk | ⟨v, hv, hk⟩
  ·exact HLT.out k (.inl hk)
  ·exact HLT.out k (.inr ⟨v, (rs_ _ _ _ _).2 (.inl hv), hk⟩)
 have HN4' := hide HN4
 clear HN4 H3 HF3
 generalize hnn : (cs ++ [c1]).length = nn at H4 HF4 HZ4 hc3 hcl k1 HN4'
 have HNN := hide hnn
 clear hnn
 obtain ⟨W4, hW4⟩ : ∃ W : World, W = W3.setCell ⟨rb, 21, none⟩ (.slice (some ⟨g, 0, none⟩) nn cap) := ⟨_, rfl⟩
 rw [← hW4] at H4 HF4 HZ4
 obtain ⟨f, hf0, hf1, hf2, hfp⟩ := Stg.coverE W3 W3 W3
 clear hf1 hf2
 have hcr := hfp (fun W => ∀ o, W.cell? ⟨rb, o, none⟩ = W3.cell? ⟨rb, o, none⟩) (fun _ => rfl) (fun _ => rfl) (fun _ => rfl)
 have hcs := fun (k o : Nat) => (hcr k o).trans (hc3 o)
 have HU : Hid (∀ (j : Nat) (w' : World), j < 1 → w' = Stg.pick4 W3 W4 W4 W4 j → ∃ n, w' = f n) := fun j w' hj e => ⟨0, by rw [e, show j = 0 by omega, ← hf0]; rfl⟩
 obtain ⟨f4, hq0, hq1, hq2, hq3, _⟩ := Stg.coverE4 W3 W4 W4 W4
 have HU4 := hide (Stg.pick4_cover4 hq0 hq1 hq2 hq3)
 have HW4 := hide hW4
 clear hq0 hq1 hq2 hq3 hf0 hfp hcr hW4
 refine Stg.wp_region_stage [14] (fun j w' => w' = Stg.pick4 W3 W4 W4 W4 j) (by kernel_rfl) (by kernel_rfl) hW3.symm ?_
 clear hW3
 refine Stg.lex_upto 12 1 (by decide) (by kernel_rfl) HU.out ?_
 simp only [List.take_succ_cons, List.take_zero, List.drop_succ_cons, List.drop_zero]
 repeat (first | go_big_quiet_step (fail) | quiet_step (fail))
 refine wpQuiet_nil ?_
 refine Stg.lex_upto 2 4 (by decide) (by kernel_rfl) HU4.out ?_
 simp only [List.take_succ_cons, List.take_zero, List.drop_succ_cons, List.drop_zero]
 repeat (first | go_big_quiet_step (fail) | quiet_step (fail))
 refine wpQuiet_nil ?_
 refine Stg.lex_move 0 (by kernel_rfl) undef ?_ ?_
 ·intro w' hw'
  rw [show w' = W3 from hw', show Stg.pick4 W3 W4 W4 W4 (0 + 1) = W4 from rfl]
  clear hw' w'
  have hw4 := HW4.out.symm
  go_simp
 refine Stg.lex_nil ?_
 intro w' hw'
 rw [show w' = W4 from hw']
 clear hw' w' HU HU4 hc3 hf3 HW4 hcs
 dsimp only [Act.put]
 go_wp2_with fail
 have HST : Hid (StOk { st with l := (cs ++ [c1]).map ChV.ch }) := by
  have hall := HOK.out.chs
  rw [← HCS.out] at hall
  refine HOK.out.withL _ ?_ (fun x hx => hall x (by rw [List.map_append]; exact List.mem_append_left _ hx))
  rw [List.length_map, HNN.out]
  exact hcl
 refine (HLI.out W4 _ _ cs c1 rfl H4.out HST.out).mono ?_
 rintro e w5 ⟨he, h5⟩
 obtain ⟨V5, cs5, h51, h52⟩ := h5.out
 have hA : lookP { st with l := (cs ++ [c1]).map ChV.ch } (c1.ch :: (cs.map ChV.ch).reverse) = lookP st (c1.ch :: (cs.map ChV.ch).reverse) := by
  rw [lookP_l, if_neg (by simp)]
 rw [hA] at he h51
 obtain ⟨k, to, s, hks⟩ := lookP_step st (c1.ch :: (cs.map ChV.ch).reverse)
 rw [hks] at he
 subst he
 have hz4 := hl_ HZ4.out
 have HZ5 := hide ((h52.block _ (hl_ HZ4.out) (fun e => by have := HN4'.out _ e; omega)).trans HZ4.out)
 have HN5 : Hid (¬ V5.owns cs5 rb w.heap.size) := fun e => by
  rcases h52.new _ e with h | h
  ·have := HN4'.out _ h; omega
  ·omega
 have HF5 := hide (HF4.out.trans h52)
 have H5 := hide h51
 clear h5 h51 h52 H4 HF4 hA
 unfold stepV
 have hcz := bc_ HZ5.out
 have hfz := fz_ HZ5.out
 have HKS := hide hks
 clear hks
 go_wp2_with fail
 clear hcz hfz
 refine bodyPost_ret (results_cell_row rfl _ _ w.heap.size _ _ _ _ rfl (pb_ (.int .i64 k) (.int .u32 to) (.string s) HZ5.out) undSt rfl (by kernel_rfl)) rfl ?_
 have hG := pg_ w5 w.heap.size (.int .i64 k) (.int .u32 to) (.string s)
 refine ⟨by rw [HKS.out]; rfl, V5, cs5, H5.out.aside hG HN5.out, HF5.out.write hG (Nat.le_refl _)⟩
end Go.Proofs.YtafoepfhepdcoaaGreat
