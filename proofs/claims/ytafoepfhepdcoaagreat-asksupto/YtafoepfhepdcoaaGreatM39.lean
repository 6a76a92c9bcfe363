import Derived.Test.YtafoepfhepdcoaaGreatM37
import Derived.Test.YtafoepfhepdcoaaGreatM38
/- The reference: send, in every state; Late. -/
namespace Go.Proofs.YtafoepfhepdcoaaGreat
open Go.RowKit Go.Trawl
attribute [local go_sem] buildSt0

def sendP (st : RSt) (r : List Ch) (c : Ch) : RSt × Value := if (c.sent : Int) < st.t then askP st r c else withoutP st c r.reverse
theorem sendP_step (st : RSt) (r : List Ch) (c : Ch) : ∃ k t s, (sendP st r c).2 = stepV k t s := by
  unfold sendP
  split
  · exact askP_step _ _ _
  · exact withoutP_step _ _ _

set_option maxRecDepth 10000 in
set_option maxHeartbeats 4000000 in
theorem send_any (w : World) (rb : Nat) (st : RSt) (V : RV) (cs : List ChV) (c : ChV) (h : RefAt w rb st V (cs ++ [c])) (hok : StOk st) (hne : c.ch.servers ≠ []) :
    Calls Tryz.prog 89 #[.pointer (some ⟨rb, 0, none⟩)] w (Says w rb V (cs ++ [c]) (sendP st (cs.map ChV.ch) c.ch)) := by
  by_cases ht : (c.ch.sent : Int) < st.t
  · have e : sendP st (cs.map ChV.ch) c.ch = askP st (cs.map ChV.ch) c.ch := if_pos ht
    rw [e]
    exact send_low w rb st V cs c h hok hne ht
  have e : sendP st (cs.map ChV.ch) c.ch = withoutP st c.ch (cs.map ChV.ch).reverse := if_neg ht
  rw [e]
  clear e hne
  have HLT := hide h.lt
  have hB1 := (Below.refl w.heap.size w).alloc (Nat.le_refl _) (.cells #[Value.int IntKind.i64 0, Value.int IntKind.u32 0, Value.string { data := #[] }] 111)
  have H1 := hide (h.keep hB1)
  have HF1 := hide (Fr.of_below hB1 (V.owns (cs ++ [c]) rb))
  have HZ1 := hide (heap_new w (.cells #[Value.int IntKind.i64 0, Value.int IntKind.u32 0, Value.string { data := #[] }] 111))
  clear h hB1
  unfold Says
  go_enter Tryz.func89, Tryz.ntmps89
  go_wp2_with fail
  generalize w.alloc (.cells #[Value.int IntKind.i64 0, Value.int IntKind.u32 0, Value.string { data := #[] }] 111) = W1 at H1 HF1 HZ1 ⊢
  obtain ⟨g, cap, cur, hvL, hg, k1, k2, k3, k4⟩ := row_at H1.out
  obtain ⟨vR, vq, va, vu, vx, vK, vS, vL⟩ := V
  obtain ⟨ch, vs, vn⟩ := c
  obtain ⟨nm, kd, zn, sv, sn, ns⟩ := ch
  dsimp only at hvL ht
  subst hvL
  have hc0 := box_cells H1.out.box
  simp only [refCells] at hc0
  have hg4 := ch_cells hg k4 4 (by decide)
  simp only [ChV.cells, List.getElem?_cons_zero, List.getElem?_cons_succ] at hg4
  have HOK := hide hok
  have ht1 := hok.t1
  have hcl : cs.length ≤ 1000 := by
    have := hok.len
    rw [← H1.out.chs] at this
    simp at this
    omega
  have hsn := (hok.chs ⟨nm, kd, zn, sv, sn, ns⟩ (by rw [← H1.out.chs]; simp)).sent
  dsimp only at hsn
  clear hok
  have hti : st.t ≤ (sn : Int) := by omega
  clear ht
  go_quiet (fail)
  go_wp2_with fail
  go_quiet (fail)
  go_wp2_with fail
  generalize hW2 : W1.drewN _ = W2
  have hb2 : Below W1.heap.size W1 W2 := by rw [← hW2]; exact below_drewN (Below.refl _ _) _
  have H2 := hide (H1.out.keep hb2)
  have HF2 := hide (HF1.out.trans (Fr.of_below hb2 _))
  have HZ2 := hide ((hb2.block _ (heap_lt HZ1.out)).trans HZ1.out)
  clear hW2 hb2 H1 HF1 HZ1 hg hc0 hg4 k4
  refine ((goes_all rb cs.length).1 W2 st _ cs _ rfl H2.out HOK.out).mono ?_
  rintro e w3 ⟨he, h3⟩
  obtain ⟨V3, cs3, h31, h32⟩ := h3.out
  obtain ⟨k, to, s, hks⟩ := withoutP_step st ⟨nm, kd, zn, sv, sn, ns⟩ (cs.map ChV.ch).reverse
  dsimp only at he h31
  rw [hks] at he
  subst he
  have HZ3 := hide ((h32.block _ (heap_lt HZ2.out) (fun e => by have := HLT.out _ e; omega)).trans HZ2.out)
  have hz2 := heap_lt HZ2.out
  have HN3 : Hid (¬ V3.owns cs3 rb w.heap.size) := fun e => by
    rcases h32.new _ e with e | e
    · have := HLT.out _ e; omega
    · omega
  have HF3 := hide (HF2.out.trans h32)
  have H3 := hide h31
  clear h3 h31 h32 H2 HF2 HZ2
  unfold stepV
  have hcz := box_cells HZ3.out
  have hfz := frozen_of_block HZ3.out
  have HKS := hide hks
  clear hks
  go_wp2_with fail
  clear hcz hfz
  refine bodyPost_ret (results_cell_row rfl _ _ w.heap.size _ _ _ _ rfl (put3_box (.int .i64 k) (.int .u32 to) (.string s) HZ3.out) undSt rfl (by kernel_rfl)) rfl ?_
  have hG := put3_grown w3 w.heap.size (.int .i64 k) (.int .u32 to) (.string s)
  refine ⟨by rw [HKS.out]; rfl, V3, cs3, H3.out.aside hG HN3.out, HF3.out.write hG (Nat.le_refl _)⟩

/-- Late: nothing is asked. -/
theorem rLate_idle (w : World) (rb : Nat) (st : RSt) (V : RV) (cs : List ChV) (h : RefAt w rb st V cs) (hbz : st.busy = false) :
    Calls Tryz.prog 56 #[.pointer (some ⟨rb, 0, none⟩)] w (Answers w rb V cs (st, stepV 0 0 ⟨#[]⟩, 3)) := by
  have H1 := hide (Begun.start h)
  have H := hide h
  clear h
  unfold Answers
  have hc := box_cells H1.out.ref.box
  simp only [refCells, hbz] at hc
  go_enter Tryz.func56, Tryz.ntmps56
  go_wp2_with fail
  refine bodyPost_ret (results_cell_row2 rfl _ _ w.heap.size _ _ _ _ rfl (heap_new w _) undSt rfl (by kernel_rfl)) rfl ?_
  have hB := (Below.refl w.heap.size w).alloc (Nat.le_refl _) (.cells #[Value.int IntKind.i64 0, Value.int IntKind.u32 0, Value.string { data := #[] }] 111)
  exact ⟨rfl, V, cs, H.out.keep hB, Fr.of_below hB _⟩

set_option maxRecDepth 10000 in
set_option maxHeartbeats 2000000 in
theorem rLate_busy (w : World) (rb : Nat) (st : RSt) (V : RV) (cs : List ChV) (c : ChV) (h : RefAt w rb st V (cs ++ [c])) (hbz : st.busy = true) (hok : StOk st) (hne : c.ch.servers ≠ []) :
    Calls Tryz.prog 56 #[.pointer (some ⟨rb, 0, none⟩)] w (Answers w rb V (cs ++ [c]) ((sendP st (cs.map ChV.ch) c.ch).1, (sendP st (cs.map ChV.ch) c.ch).2, 0)) := by
  have H1 := hide (Begun.start h)
  clear h
  unfold Answers
  obtain ⟨p, hp⟩ : ∃ p, p = sendP st (cs.map ChV.ch) c.ch := ⟨_, rfl⟩
  rw [← hp]
  have HP := hide hp
  have HOK := hide hok
  have HNE := hide hne
  clear hp hok hne
  dsimp only
  have hc := box_cells H1.out.ref.box
  simp only [refCells, hbz] at hc
  go_enter Tryz.func56, Tryz.ntmps56
  go_wp2_with fail
  generalize w.alloc _ = W1 at H1 hc ⊢
  clear hc
  refine (send_any W1 rb st V cs c H1.out.ref HOK.out HNE.out).mono ?_
  rintro e w2 ⟨he, H2⟩
  have he2 : e = .returned p.2 := by rw [he, HP.out]
  subst he2
  clear he
  obtain ⟨k, t, s', hst⟩ : ∃ k t s, p.2 = stepV k t s := by rw [HP.out]; exact sendP_step _ _ _
  rw [hst]
  obtain ⟨V', cs', h2, f2⟩ := H2.out
  have H3 : Hid (RefAt w2 rb p.1 V' cs') := by show RefAt _ _ _ _ _; rw [HP.out]; exact h2
  have HF3 := hide (H1.out.fr.trans f2)
  have hno : ¬ V.owns (cs ++ [c]) rb w.heap.size := fun e => by have := H1.out.lt _ e; omega
  have HRES := hide ((f2.block w.heap.size (heap_lt H1.out.res) hno).trans H1.out.res)
  have HNO : Hid (¬ V'.owns cs' rb w.heap.size) := fun e => by
    rcases f2.new _ e with e | e
    · exact hno e
    · have := heap_lt H1.out.res; omega
  clear h2 f2 H2 hno
  have HST := hide hst
  clear hst
  unfold stepV
  have hcz := box_cells HRES.out
  have hfz := frozen_of_block HRES.out
  go_wp2_with fail
  clear hcz hfz
  refine bodyPost_ret (results_cell_row2 rfl _ _ w.heap.size _ _ _ _ rfl (put3_box (.int .i64 k) (.int .u32 t) (.string s') HRES.out) undSt rfl (by kernel_rfl)) rfl ?_
  have hG := put3_grown w2 w.heap.size (.int .i64 k) (.int .u32 t) (.string s')
  exact ⟨by rw [HST.out]; rfl, V', cs', H3.out.aside hG HNO.out, HF3.out.write hG (Nat.le_refl _)⟩
end Go.Proofs.YtafoepfhepdcoaaGreat

/- The reference: what was kept and the names so far grow. -/
namespace Go.Proofs.YtafoepfhepdcoaaGreat
open Go.RowKit Go.Trawl

theorem rows_far {w : World} {e e' : TypeId} {sz sz' : Nat} {v v' : Value} {n n' : Nat} {x x' : List Value} (h : w.ownsRow 0 e sz v n x) (h' : w.ownsRow 0 e' sz' v' n' x') (hne : e ≠ e') {k : Nat} (hk : v.ownBlock = some k) (hk' : v'.ownBlock = some k) : False := by
  rcases h.2 with ⟨rfl, _⟩ | ⟨g, cap, cur, rfl, _, h5, _⟩
  · cases hk
  · cases hk
    rcases h'.2 with ⟨rfl, _⟩ | ⟨g', cap', cur', rfl, _, h5', _⟩
    · cases hk'
    · cases hk'
      rw [h5] at h5'
      injection h5' with h5'
      injection h5' with _ h5'
      exact hne h5'
theorem own_same_at {w w' : World} {e : TypeId} {sz : Nat} {v : Value} {n : Nat} {x : List Value} (h : w.ownsRow 0 e sz v n x) (hk : ∀ k, v.ownBlock = some k → w'.heap[k]? = w.heap[k]?) : w'.ownsRow 0 e sz v n x := by
  refine ⟨h.1, ?_⟩
  rcases h.2 with h2 | ⟨g, cap, cur, rfl, h4, h5, r⟩
  · exact .inl h2
  · exact .inr ⟨g, cap, cur, rfl, h4, (hk g rfl).trans h5, r⟩

/-- One more. -/
theorem RefAt.pushK {w w' : World} {rb : Nat} {st : RSt} {V : RV} {cs : List ChV} (h : RefAt w rb st V cs) {v' : Value} {n : Nat} {xs : List Value} (g : Grew 69 5 w w' V.vK v' n xs) (x : Rc) (hn : n = (st.kept ++ [x]).length) (hxs : xs = ((st.kept ++ [x]).map Rc.cells).flatten) :
    RefAt (w'.setCell ⟨rb, 19, none⟩ v') rb { st with kept := st.kept ++ [x] } { V with vK := v' } cs ∧ Fr w (w'.setCell ⟨rb, 19, none⟩ v') (V.owns cs rb) (RV.owns { V with vK := v' } cs rb) := by
  have hrb : rb < w.heap.size := heap_lt h.box
  have hg := g.grown
  have n1 : V.vK.ownBlock ≠ some rb := own_type_ne h.kept h.box (by decide)
  have hbox := (g.keeps hrb n1).1.trans h.box
  have nv : v'.ownBlock ≠ some rb := (g.keeps hrb n1).2.1
  have hz : (w'.setCell ⟨rb, 19, none⟩ v').heap.size = w'.heap.size := by simp [World.setCell]
  have hsz : w.heap.size ≤ (w'.setCell ⟨rb, 19, none⟩ v').heap.size := by rw [hz]; exact hg.size
  have keep : ∀ k, k < w.heap.size → k ≠ rb → V.vK.ownBlock ≠ some k → (w'.setCell ⟨rb, 19, none⟩ v').heap[k]? = w.heap[k]? := fun k hk n1 n2 => (Below.heap_setCell w' ⟨rb, 19, none⟩ v' k n1).trans (hg.block k hk (fun e => n2 e.symm))
  have hkeep : ∀ k, k < w.heap.size → ¬ V.writes rb k → (w'.setCell ⟨rb, 19, none⟩ v').heap[k]? = w.heap[k]? := fun k hk hn => keep k hk (fun e => hn (.inl e)) (fun e => hn (.inr (.inl e)))
  obtain ⟨h1, h2, h3⟩ := h.reads_keep hsz hkeep
  have hv : ∀ k, v'.ownBlock = some k → V.vK.ownBlock = some k ∨ w.heap.size ≤ k := fun k hk => by
    rcases g.loc with e | ⟨j, e, hj⟩
    · exact .inl (e ▸ hk)
    · rw [hk] at e
      cases e
      exact .inr hj
  have hwr : ∀ k, RV.writes { V with vK := v' } rb k → V.writes rb k ∨ w.heap.size ≤ k ∧ k < w'.heap.size := by
    rintro k (e | e | e | e)
    · exact .inl (.inl e)
    · rcases hv k e with e1 | e1
      · exact .inl (.inr (.inl e1))
      · exact .inr ⟨e1, (g.own.lt k e).2⟩
    · exact .inl (.inr (.inr (.inl e)))
    · exact .inl (.inr (.inr (.inr e)))
  have own' := g.own
  rw [hn, hxs] at own'
  have hrl : ∀ v ∈ V.reads cs, ∀ k, v.ownBlock = some k → k < w.heap.size := fun v hv k hk => h.lt k (.inr ⟨v, hv, hk⟩)
  refine ⟨⟨by rw [heap_setCell_eq hbox]; rfl, h.chs, h1, h2, own_same_at own' (fun k hk => Below.heap_setCell w' ⟨rb, 19, none⟩ v' k (show k ≠ rb from fun e => nv (by rw [← e]; exact hk))), own_same_at h.seen (fun k hk => keep k (h.lt k (.inl (.inr (.inr (.inl hk))))) (fun e => own_type_ne h.seen h.box (by decide) (by rw [← e]; exact hk)) (fun e => rows_far h.kept h.seen (by decide) e hk)), own_same_at h.row (fun k hk => keep k (h.lt k (.inl (.inr (.inr (.inr hk))))) (fun e => own_type_ne h.row h.box (by decide) (by rw [← e]; exact hk)) (fun e => rows_far h.kept h.row (by decide) e hk)), h3, fun v hv k hk hwk => ?_, fun k hk => ?_, h.caps⟩, ⟨hg.os, hg.tape, hg.output, hsz, fun k hk ho => hkeep k hk (fun e => ho (.inl e)), fun k hk => ?_⟩⟩
  · rcases hwr k hwk with e | e
    · exact h.free v hv k hk e
    · have := hrl v hv k hk; omega
  · rw [hz]
    have := hg.size
    rcases hk with hk | ⟨v, hv, hk⟩
    · rcases hwr k hk with e | e
      · have := h.lt k (.inl e); omega
      · exact e.2
    · have := hrl v hv k hk; omega
  · rcases hk with hk | ⟨v, hv, hk⟩
    · rcases hwr k hk with e | e
      · exact .inl (.inl e)
      · exact .inr e.1
    · exact .inl (.inr ⟨v, hv, hk⟩)

/-- One more. -/
theorem RefAt.pushS {w w' : World} {rb : Nat} {st : RSt} {V : RV} {cs : List ChV} (h : RefAt w rb st V cs) {v' : Value} {n : Nat} {xs : List Value} (g : Grew 9 1 w w' V.vS v' n xs) (x : ByteArray) (hn : n = (st.seen ++ [x]).length) (hxs : xs = strV (st.seen ++ [x])) :
    RefAt (w'.setCell ⟨rb, 20, none⟩ v') rb { st with seen := st.seen ++ [x] } { V with vS := v' } cs ∧ Fr w (w'.setCell ⟨rb, 20, none⟩ v') (V.owns cs rb) (RV.owns { V with vS := v' } cs rb) := by
  have hrb : rb < w.heap.size := heap_lt h.box
  have hg := g.grown
  have n1 : V.vS.ownBlock ≠ some rb := own_type_ne h.seen h.box (by decide)
  have hbox := (g.keeps hrb n1).1.trans h.box
  have nv : v'.ownBlock ≠ some rb := (g.keeps hrb n1).2.1
  have hz : (w'.setCell ⟨rb, 20, none⟩ v').heap.size = w'.heap.size := by simp [World.setCell]
  have hsz : w.heap.size ≤ (w'.setCell ⟨rb, 20, none⟩ v').heap.size := by rw [hz]; exact hg.size
  have keep : ∀ k, k < w.heap.size → k ≠ rb → V.vS.ownBlock ≠ some k → (w'.setCell ⟨rb, 20, none⟩ v').heap[k]? = w.heap[k]? := fun k hk n1 n2 => (Below.heap_setCell w' ⟨rb, 20, none⟩ v' k n1).trans (hg.block k hk (fun e => n2 e.symm))
  have hkeep : ∀ k, k < w.heap.size → ¬ V.writes rb k → (w'.setCell ⟨rb, 20, none⟩ v').heap[k]? = w.heap[k]? := fun k hk hn => keep k hk (fun e => hn (.inl e)) (fun e => hn (.inr (.inr (.inl e))))
  obtain ⟨h1, h2, h3⟩ := h.reads_keep hsz hkeep
  have hv : ∀ k, v'.ownBlock = some k → V.vS.ownBlock = some k ∨ w.heap.size ≤ k := fun k hk => by
    rcases g.loc with e | ⟨j, e, hj⟩
    · exact .inl (e ▸ hk)
    · rw [hk] at e
      cases e
      exact .inr hj
  have hwr : ∀ k, RV.writes { V with vS := v' } rb k → V.writes rb k ∨ w.heap.size ≤ k ∧ k < w'.heap.size := by
    rintro k (e | e | e | e)
    · exact .inl (.inl e)
    · exact .inl (.inr (.inl e))
    · rcases hv k e with e1 | e1
      · exact .inl (.inr (.inr (.inl e1)))
      · exact .inr ⟨e1, (g.own.lt k e).2⟩
    · exact .inl (.inr (.inr (.inr e)))
  have own' := g.own
  rw [hn, hxs] at own'
  have hrl : ∀ v ∈ V.reads cs, ∀ k, v.ownBlock = some k → k < w.heap.size := fun v hv k hk => h.lt k (.inr ⟨v, hv, hk⟩)
  refine ⟨⟨by rw [heap_setCell_eq hbox]; rfl, h.chs, h1, h2, own_same_at h.kept (fun k hk => keep k (h.lt k (.inl (.inr (.inl hk)))) (fun e => own_type_ne h.kept h.box (by decide) (by rw [← e]; exact hk)) (fun e => rows_far h.seen h.kept (by decide) e hk)), own_same_at own' (fun k hk => Below.heap_setCell w' ⟨rb, 20, none⟩ v' k (show k ≠ rb from fun e => nv (by rw [← e]; exact hk))), own_same_at h.row (fun k hk => keep k (h.lt k (.inl (.inr (.inr (.inr hk))))) (fun e => own_type_ne h.row h.box (by decide) (by rw [← e]; exact hk)) (fun e => rows_far h.seen h.row (by decide) e hk)), h3, fun v hv k hk hwk => ?_, fun k hk => ?_, h.caps⟩, ⟨hg.os, hg.tape, hg.output, hsz, fun k hk ho => hkeep k hk (fun e => ho (.inl e)), fun k hk => ?_⟩⟩
  · rcases hwr k hwk with e | e
    · exact h.free v hv k hk e
    · have := hrl v hv k hk; omega
  · rw [hz]
    have := hg.size
    rcases hk with hk | ⟨v, hv, hk⟩
    · rcases hwr k hk with e | e
      · have := h.lt k (.inl e); omega
      · exact e.2
    · have := hrl v hv k hk; omega
  · rcases hk with hk | ⟨v, hv, hk⟩
    · rcases hwr k hk with e | e
      · exact .inl (.inl e)
      · exact .inr e.1
    · exact .inl (.inr ⟨v, hv, hk⟩)
end Go.Proofs.YtafoepfhepdcoaaGreat
