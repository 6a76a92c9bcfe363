import Derived.Test.YtafoepfhepdcoaaGreatM46
/- The program: a question is sent. -/
namespace Go.Proofs.YtafoepfhepdcoaaGreat
open Go.RowKit Go.Trawl
attribute [local go_sem] mf buildX0 buildX3 buildMq

theorem q_seek (w : World) (sb : Nat) (s : QSt) (V : QV) (c : QC) (r : List QC) (h : QAt w sb s V (c :: r)) (hok : QOk s) :
    Calls Tryz.prog 124 #[.pointer (some ⟨sb, 0, none⟩)] w (QTells w sb V (c :: r) (seekQ s, noOut)) := by
  have hch : s.ch = c.ch :: r.map QC.ch := h.chs.symm
  have hC := hok.chs c.ch (by rw [hch]; simp)
  have hlen := hok.len
  rw [hch] at hlen
  simp only [List.length_cons, List.length_map] at hlen
  have hd := hok.d1
  by_cases hs : c.ch.servers = []
  · cases hn : c.ch.names with
    | nil =>
      have e : seekQ s = { s with ph := .fail } := by unfold seekQ; rw [hch]; simp [hs, hn]
      rw [e]
      exact seek_none w sb s V c r h hs hn hC.names
    | cons n ns =>
      by_cases hdp : (r.length : Int) = s.d
      · have e : seekQ s = { s with ph := .fail } := by unfold seekQ; rw [hch]; simp [hs, hn, hdp]
        rw [e]
        exact seek_deep w sb s V c r h hs (by rw [hn]; simp) hdp hC.names
      · have e : seekQ s = startQ s (newQ n 1) ({ c.ch with names := ns } :: r.map QC.ch) := by unfold seekQ; rw [hch]; simp [hs, hn, hdp]
        rw [e]
        have := hC.names
        rw [hn] at this
        exact seek_next w sb s V c r n ns h hs hn hdp this (by omega)
  · have e : seekQ s = { s with ph := .send, ch := { c.ch with names := [] } :: r.map QC.ch } := by unfold seekQ; rw [hch]; simp [hs]
    rw [e]
    exact seek_has w sb s V c r h hs hC.servers

set_option maxRecDepth 10000 in
set_option maxHeartbeats 1000000 in
theorem send_tried (w : World) (sb : Nat) (s : QSt) (V : QV) (c : QC) (r : List QC) (h : QAt w sb s V (c :: r)) (ht : (c.ch.sent : Int) = s.t) :
    Calls Tryz.prog 162 #[.pointer (some ⟨sb, 0, none⟩)] w (QTells w sb V (c :: r) ({ s with ph := .fail }, noOut)) := by
  have H := hide h
  have hb1 := (Below.refl w.heap.size w).alloc (Nat.le_refl _) (.cells #[Value.int IntKind.i64 0, Value.int IntKind.u32 0, Value.slice none 0 0] 59)
  have h1 := h.below hb1
  have hc := box_cells h1.box
  simp only [qCells, chPtr] at hc
  have hcc := box_cells h1.chain.1
  simp only [qcCells] at hcc
  have hl1 := h.slt
  have hm2 : ¬ w.heap.size = sb := by omega
  have hm4 : ¬ sb = w.heap.size := by omega
  have hz : ((c.ch.sent : Int) == s.t) = true := by simp; exact ht
  have H1 := hide h1
  clear h h1 hb1
  unfold QTells noOut
  obtain ⟨ch, blk, vs, vn⟩ := c
  dsimp only at *
  go_enter Tryz.func162, Tryz.ntmps162
  go_wp2_with (with_reducible refine stop_load _ (.tmp 10) rfl ?_)
  unfold Stopped
  generalize hW : w.alloc (.cells #[Value.int IntKind.i64 0, Value.int IntKind.u32 0, Value.slice none 0 0] 59) = W1 at hc hcc H1 ⊢
  go_wp2_with fail
  go_quiet (fail)
  have hb2 : Below W1.heap.size W1 (W1.drewN nq) := below_drewN (Below.refl _ _) _
  have H2 := hide (H1.out.below hb2)
  have HR2 : Hid (∃ V' cs', QAt ((W1.drewN nq).setCell ⟨sb, 6, none⟩ (nextV sb .fail)) sb { s with ph := .fail } V' cs' ∧ Fr (w.alloc (.cells #[Value.int IntKind.i64 0, Value.int IntKind.u32 0, Value.slice none 0 0] 59)) ((W1.drewN nq).setCell ⟨sb, 6, none⟩ (nextV sb .fail)) (V.owns (⟨ch, blk, vs, vn⟩ :: r) sb) (V'.owns cs' sb)) := by
    rw [hW]
    exact ⟨V, _, H2.out.set 6 (nextV sb .fail) rfl rfl rfl rfl rfl, (Fr.of_below hb2 _).trans (Fr.self _ 6 _)⟩
  obtain ⟨hx, hp⟩ := says_box H.out HR2.out
  have HX := hide hx
  have HP := hide hp
  clear hc hcc hx hp HR2 hb2 H1
  have hc := box_cells H2.out.box
  have hf := frozen_of_block H2.out.box
  simp only [qCells, chPtr] at hc
  unfold nextV at HX HP
  generalize W1.drewN nq = W2 at hc hf HX HP ⊢
  go_wp2_with (with_reducible refine stop_store _ (.tmp 2) _ rfl ?_)
  unfold Stopped
  clear hc hf H2
  generalize (World.setCell _ ⟨sb, 6, none⟩ _) = W3 at HX HP ⊢
  have hcz := box_cells HX.out
  have hfz := frozen_of_block HX.out
  go_wp2_with fail
  clear hcz hfz
  refine bodyPost_ret (results_cell_row rfl _ _ w.heap.size _ _ _ _ rfl (put3_box (.int .i64 0) (.int .u32 0) (.slice none 0 0) HX.out) undXs rfl (by kernel_rfl)) rfl ?_
  obtain ⟨V', cs', h3, f3⟩ := HP.out (.int .i64 0) (.int .u32 0) (.slice none 0 0)
  exact ⟨none, 0, rfl, V', cs', h3, f3, World.ownsRow_nil _ _ _ _, fun k e => by cases e⟩
set_option maxRecDepth 10000 in
set_option maxHeartbeats 1000000 in
theorem send_spent (w : World) (sb : Nat) (s : QSt) (V : QV) (c : QC) (r : List QC) (h : QAt w sb s V (c :: r)) (ht : ¬ (c.ch.sent : Int) = s.t) (hb : (s.sent : Int) = s.b) :
    Calls Tryz.prog 162 #[.pointer (some ⟨sb, 0, none⟩)] w (QTells w sb V (c :: r) ({ s with ph := .failAll }, noOut)) := by
  have H := hide h
  have hb1 := (Below.refl w.heap.size w).alloc (Nat.le_refl _) (.cells #[Value.int IntKind.i64 0, Value.int IntKind.u32 0, Value.slice none 0 0] 59)
  have h1 := h.below hb1
  have hc := box_cells h1.box
  simp only [qCells, chPtr] at hc
  have hcc := box_cells h1.chain.1
  simp only [qcCells] at hcc
  have hl1 := h.slt
  have hm2 : ¬ w.heap.size = sb := by omega
  have hm4 : ¬ sb = w.heap.size := by omega
  have hz : ((c.ch.sent : Int) == s.t) = false := by simp; exact ht
  have hz2 : ((s.sent : Int) == s.b) = true := by simp; exact hb
  have H1 := hide h1
  clear h h1 hb1
  unfold QTells noOut
  obtain ⟨ch, blk, vs, vn⟩ := c
  dsimp only at *
  go_enter Tryz.func162, Tryz.ntmps162
  go_wp2_with (with_reducible refine stop_load _ (.tmp 10) rfl ?_)
  unfold Stopped
  generalize hW : w.alloc (.cells #[Value.int IntKind.i64 0, Value.int IntKind.u32 0, Value.slice none 0 0] 59) = W1 at hc hcc H1 ⊢
  go_wp2_with fail
  go_quiet (fail)
  go_wp2_with fail
  go_quiet (fail)
  generalize hWD : World.drewN _ _ = WD
  have hb2 : Below W1.heap.size W1 WD := by rw [← hWD]; first | exact below_drewN (below_drewN (Below.refl _ _) _) _ | exact below_drewN (Below.refl _ _) _
  clear hWD
  have H2 := hide (H1.out.below hb2)
  have HR2 : Hid (∃ V' cs', QAt (WD.setCell ⟨sb, 6, none⟩ (nextV sb .failAll)) sb { s with ph := .failAll } V' cs' ∧ Fr (w.alloc (.cells #[Value.int IntKind.i64 0, Value.int IntKind.u32 0, Value.slice none 0 0] 59)) (WD.setCell ⟨sb, 6, none⟩ (nextV sb .failAll)) (V.owns (⟨ch, blk, vs, vn⟩ :: r) sb) (V'.owns cs' sb)) := by
    rw [hW]
    exact ⟨V, _, H2.out.set 6 (nextV sb .failAll) rfl rfl rfl rfl rfl, (Fr.of_below hb2 _).trans (Fr.self _ 6 _)⟩
  obtain ⟨hx, hp⟩ := says_box H.out HR2.out
  have HX := hide hx
  have HP := hide hp
  clear hc hcc hx hp HR2 hb2 H1
  have hc := box_cells H2.out.box
  have hf := frozen_of_block H2.out.box
  simp only [qCells, chPtr] at hc
  unfold nextV at HX HP
  go_wp2_with (with_reducible refine stop_store _ (.tmp 2) _ rfl ?_)
  unfold Stopped
  clear hc hf H2
  generalize (World.setCell _ ⟨sb, 6, none⟩ _) = W3 at HX HP ⊢
  have hcz := box_cells HX.out
  have hfz := frozen_of_block HX.out
  go_wp2_with fail
  clear hcz hfz
  refine bodyPost_ret (results_cell_row rfl _ _ w.heap.size _ _ _ _ rfl (put3_box (.int .i64 0) (.int .u32 0) (.slice none 0 0) HX.out) undXs rfl (by kernel_rfl)) rfl ?_
  obtain ⟨V', cs', h3, f3⟩ := HP.out (.int .i64 0) (.int .u32 0) (.slice none 0 0)
  exact ⟨none, 0, rfl, V', cs', h3, f3, World.ownsRow_nil _ _ _ _, fun k e => by cases e⟩
end Go.Proofs.YtafoepfhepdcoaaGreat

/- The program: a question is sent. -/
namespace Go.Proofs.YtafoepfhepdcoaaGreat
open Go.RowKit Go.Trawl
attribute [local go_sem] mf buildX0 buildX3 buildMq

theorem lies_box {w : World} {sz b : Nat} {cs : Array Value} {t : TypeId} (h : w.heap[b]? = some (.cells cs t)) {l : List Value} (hl : l = cs.toList) : Lies w sz (.slice (some ⟨b, 0, none⟩) 1 1) [l] := by
  refine ⟨some ⟨b, 0, none⟩, 1, rfl, (fun e => by cases e), .inr ⟨b, 0, rfl, heap_lt h, fun i e hi j u hj => ?_⟩⟩
  cases i with
  | zero =>
    cases hi
    rw [box_cells h, hl] at *
    simpa using hj
  | succ i => cases hi
def askedQ (s : QSt) (c : Ch) (r : List Ch) : QSt := { s with ch := { c with sent := c.sent + 1 } :: r, sent := s.sent + 1, id := nextId s.id }
theorem askM_wf {i : Int} (h0 : 0 ≤ i) (h1 : i ≤ 65535) {c : Ch} (hn : c.name.size ≤ 2097152) (k0 : 0 ≤ c.kind) (k1 : c.kind ≤ 65535) : WfM (askM i c) := by
  refine ⟨h0, h1, by simp [askM], by simp [askM], by simp [askM], by simp [askM], by simp [askM], by simp [askM], by simp [askM], by simp [askM], fun q hq => ?_, by simp [askM, recs]⟩
  simp only [askM, List.mem_singleton] at hq
  subst hq
  exact ⟨hn, k0, k1, by show (0 : Int) ≤ 1; decide, by show (1 : Int) ≤ 65535; decide⟩

set_option maxRecDepth 10000 in
set_option maxHeartbeats 2000000 in
theorem send_goes (w : World) (sb : Nat) (s : QSt) (V : QV) (c : QC) (r : List QC) (h : QAt w sb s V (c :: r)) (hok : QOk s) (hne : c.ch.servers ≠ []) (ht : ¬ (c.ch.sent : Int) = s.t) (hb : ¬ (s.sent : Int) = s.b) :
    Calls Tryz.prog 162 #[.pointer (some ⟨sb, 0, none⟩)] w (QTells w sb V (c :: r) (askedQ s c.ch (r.map QC.ch), (1, toOf c.ch, packL (askM (nextId s.id) c.ch)))) := by
  have H := hide h
  have HLT := hide h.lt
  have hch : s.ch = c.ch :: r.map QC.ch := h.chs.symm
  have hC := hok.chs c.ch (by rw [hch]; simp)
  have hsn := hC.sent
  have hsv := hC.servers
  have ht1 := hok.t1
  have hb1' := hok.b1
  have hse := hok.sent
  have hid0 := hok.id0
  have hid1 := hok.id1
  have HWM : Hid (WfM (askM (nextId s.id) c.ch)) := askM_wf (by unfold nextId; omega) (by unfold nextId; omega) (by have := nameB_size hC.name; omega) hC.k0 hC.k1
  have hb1 := (Below.refl w.heap.size w).alloc (Nat.le_refl _) (.cells #[Value.int IntKind.i64 0, Value.int IntKind.u32 0, Value.slice none 0 0] 59)
  have h1 := h.below hb1
  have hc := box_cells h1.box
  simp only [qCells, chPtr] at hc
  have hcc := box_cells h1.chain.1
  simp only [qcCells] at hcc
  have hl1 := h.slt
  have hl2 : c.blk < w.heap.size := heap_lt h.chain.1
  have hnb := h.chain.nsb h.box c (by simp)
  have hz : ((c.ch.sent : Int) == s.t) = false := by simp; exact ht
  have hz2 : ((s.sent : Int) == s.b) = false := by simp; exact hb
  have H1 := hide h1
  have HB1 := hide hb1
  have HX1 := hide (heap_new w (.cells #[Value.int IntKind.i64 0, Value.int IntKind.u32 0, Value.slice none 0 0] 59))
  clear h h1 hb1 hC hok hch
  obtain ⟨L, hL⟩ : ∃ L, L = packL (askM (nextId s.id) c.ch) := ⟨_, rfl⟩
  rw [← hL]
  have HL := hide hL
  clear hL
  unfold QTells
  obtain ⟨ch, blk, vs, vn⟩ := c
  obtain ⟨nm, kd, zn, sv, sn, ns⟩ := ch
  dsimp only at *
  go_enter Tryz.func162, Tryz.ntmps162
  go_wp2_with (with_reducible refine stop_load _ (.tmp 10) rfl ?_)
  unfold Stopped
  generalize w.alloc (.cells #[Value.int IntKind.i64 0, Value.int IntKind.u32 0, Value.slice none 0 0] 59) = W1 at hc hcc H1 HB1 HX1 ⊢
  go_wp2_with fail
  go_quiet (fail)
  go_wp2_with fail
  go_quiet (fail)
  generalize hWD : World.drewN _ _ = WD
  have hb2 : Below W1.heap.size W1 WD := by rw [← hWD]; first | exact below_drewN (below_drewN (Below.refl _ _) _) _ | exact below_drewN (Below.refl _ _) _
  clear hWD hc hcc
  have H2 := hide (H1.out.below hb2)
  have HX2 := hide ((hb2.block _ (heap_lt HX1.out)).trans HX1.out)
  have HB2 := hide (HB1.out.trans (hb2.mono HB1.out.size))
  clear hb2 H1 HX1 HB1
  have hcc := box_cells H2.out.chain.1
  simp only [qcCells] at hcc
  go_wp2_with fail
  refine (q_server WD ⟨⟨nm, kd, zn, sv, sn, ns⟩, blk, vs, vn⟩ r sn H2.out.chain hne (by omega) hsv).mono ?_
  rintro e w3 ⟨rfl, k3, hw3⟩
  have hb3 : Below WD.heap.size WD w3 := by rw [hw3]; exact below_drewN (Below.refl _ _) _
  have H3 := hide (H2.out.below hb3)
  have HX3 := hide ((hb3.block _ (heap_lt HX2.out)).trans HX2.out)
  have HB3 := hide (HB2.out.trans (hb3.mono HB2.out.size))
  clear hb3 H2 HX2 HB2 hw3 hcc
  have hto : sv.getD (sn % sv.length) 0 = toOf ⟨nm, kd, zn, sv, sn, ns⟩ := rfl
  dsimp only
  rw [hto]
  clear hto
  generalize hto : toOf ⟨nm, kd, zn, sv, sn, ns⟩ = to
  have HTO := hide hto
  clear hto
  have hcc := box_cells H3.out.chain.1
  have hfc := frozen_of_block H3.out.chain.1
  simp only [qcCells] at hcc
  have hc := box_cells H3.out.box
  have hf := frozen_of_block H3.out.box
  simp only [qCells, chPtr] at hc
  have n1 : ¬ blk = sb := hnb
  have n2 : ¬ sb = blk := fun e => hnb e.symm
  have H4 := H3.out.hset ⟨⟨nm, kd, zn, sv, sn + 1, ns⟩, blk, vs, vn⟩ rfl 7 (.int .i64 ((sn : Int) + 1)) (by simp [qcCells]) H3.out.chain.2.1 H3.out.chain.2.2.1 H3.out.chain.2.2.2.1 (fun k e => by
    rcases e with e | e
    · exact H3.out.vs e
    · exact H3.out.vn e)
  have H5 := H4.set (s' := { s with ch := ⟨nm, kd, zn, sv, sn + 1, ns⟩ :: r.map QC.ch, sent := s.sent + 1 }) 8 (.int .i64 ((s.sent : Int) + 1)) (by simp [qCells]) rfl rfl rfl rfl
  have H6 := hide (H5.set (s' := askedQ s ⟨nm, kd, zn, sv, sn, ns⟩ (r.map QC.ch)) 5 (.int .u16 (nextId s.id)) (by simp [qCells, askedQ, nextId]) rfl rfl rfl rfl)
  have hO6 : ∀ i, V.owns (⟨⟨nm, kd, zn, sv, sn + 1, ns⟩, blk, vs, vn⟩ :: r) sb i → V.owns (⟨⟨nm, kd, zn, sv, sn, ns⟩, blk, vs, vn⟩ :: r) sb i := fun i hi => by
    rcases owns_head (c := ⟨⟨nm, kd, zn, sv, sn, ns⟩, blk, vs, vn⟩) (c' := ⟨⟨nm, kd, zn, sv, sn + 1, ns⟩, blk, vs, vn⟩) rfl hi with e | e | e
    · exact e
    · exact own_vs (c := ⟨⟨nm, kd, zn, sv, sn, ns⟩, blk, vs, vn⟩) e
    · exact own_vn (c := ⟨⟨nm, kd, zn, sv, sn, ns⟩, blk, vs, vn⟩) e
  have HO6 := hide hO6
  have HF6 := hide ((((Fr.of_below HB3.out (V.owns (⟨⟨nm, kd, zn, sv, sn, ns⟩, blk, vs, vn⟩ :: r) sb)).turn (O' := V.owns (⟨⟨nm, kd, zn, sv, sn, ns⟩, blk, vs, vn⟩ :: r) sb) (grownBy_setCell w3 blk 7 (.int .i64 ((sn : Int) + 1))) (.inl (.inl (.inr (.inr ⟨_, List.mem_cons_self, rfl⟩)))) (fun i hi => .inl hi)).trans (Fr.self _ 8 (.int .i64 ((s.sent : Int) + 1)))).turn (O' := V.owns (⟨⟨nm, kd, zn, sv, sn + 1, ns⟩, blk, vs, vn⟩ :: r) sb) (grownBy_setCell _ sb 5 (.int .u16 (nextId s.id))) (.inl (.inl (.inl rfl))) (fun i hi => .inl (hO6 i hi)))
  have HX6 := hide (((Below.heap_setCell _ ⟨sb, 5, none⟩ (.int .u16 (nextId s.id)) w.heap.size (by show w.heap.size ≠ sb; omega)).trans ((Below.heap_setCell _ ⟨sb, 8, none⟩ (.int .i64 ((s.sent : Int) + 1)) w.heap.size (by show w.heap.size ≠ sb; omega)).trans (Below.heap_setCell w3 ⟨blk, 7, none⟩ (.int .i64 ((sn : Int) + 1)) w.heap.size (by show w.heap.size ≠ blk; omega)))).trans HX3.out)
  have hnx : IntKind.u16.wrap (s.id + 1) = nextId s.id := by rw [IntKind.wrap_u16]; rfl
  clear H4 H5 hO6
  go_wp2_with fail
  generalize (World.setCell _ ⟨sb, 5, none⟩ _) = W6 at H6 HF6 HX6 ⊢
  clear hcc hfc hc hf H3 HX3 HB3 hnx
  have hc6 := box_cells H6.out.box
  simp only [qCells, chPtr, askedQ] at hc6
  have HC6 : Hid (∀ w', Below W6.heap.size W6 w' → w'.cell? ⟨sb, 5, none⟩ = some (.int .u16 (nextId s.id))) := fun w' hb => ((box_cells (H6.out.below hb).box) 5).trans rfl
  have hzl : w.heap.size < W6.heap.size := heap_lt HX6.out
  go_region_held3 (fun w' => w'.cell? ⟨sb, 5, none⟩ = some (.int .u16 (nextId s.id))) (first | (go_keep; done) | exact hs7 | exact hs9) (first | (go_at_call 115; refine (q_question W6.drew ⟨⟨nm, kd, zn, sv, sn + 1, ns⟩, blk, vs, vn⟩ r (H6.out.below (below_drewN (Below.refl _ _) 1)).chain).mono ?_; rintro e w7 ⟨rfl, HB7⟩; have hs7 := HC6.out w7 ((below_drewN (Below.refl _ W6) 1).trans HB7.out); dsimp only) | (go_at_call 30; refine (wpack2 (askM (nextId s.id) ⟨nm, kd, zn, sv, sn, ns⟩) (.slice (some ⟨w7.heap.size, 0, none⟩) 1 1) (.slice none 0 0) (.slice none 0 0) (.slice none 0 0) _ HWM.out ⟨lies_box (heap_new w7 (.cells #[.string nm, .int .u16 kd, .int .u16 1] 41)) rfl, liesNil _ _, liesNil _ _, liesNil _ _⟩).mono ?_; rintro e w9 ⟨hb9, a9, c9, rfl, ho9⟩; have HB9 := hide (((below_drewN (Below.refl _ W6) 1).trans HB7.out).trans (((Below.refl _ w7).alloc (Nat.le_refl _) (.cells #[.string nm, .int .u16 kd, .int .u16 1] 41)).trans (hb9.mono (by rw [alloc_size]; omega)) |>.mono HB7.out.size)); have hs9 := HC6.out w9 HB9.out))
  clear hc6 hs7 hs9 HC6
  have hz7 := HB7.out.size
  have hnw : ∀ k, (Value.slice a9 (packL (askM (nextId s.id) ⟨nm, kd, zn, sv, sn, ns⟩)).length c9).ownBlock = some k → W6.heap.size ≤ k := fun k e => by have := (ho9.lt k e).1; rw [alloc_size] at this; have : W6.drew.heap.size = W6.heap.size := rfl; omega
  rw [← HL.out] at hnw ho9 ⊢
  have HO9 := hide (own_zero ho9)
  have HX9 := hide ((HB9.out.block _ hzl).trans HX6.out)
  have hcz := box_cells HX9.out
  have hfz := frozen_of_block HX9.out
  clear ho9 hb9
  go_wp2_with fail
  clear hcz hfz
  refine bodyPost_ret (results_cell_row rfl _ _ w.heap.size _ _ _ _ rfl (put3_box (.int .i64 1) (.int .u32 to) (.slice a9 L.length c9) HX9.out) undXs rfl (by kernel_rfl)) rfl ?_
  have hG := put3_grown w9 w.heap.size (.int .i64 1) (.int .u32 to) (.slice a9 L.length c9)
  have hl6 : ∀ k, V.owns (⟨⟨nm, kd, zn, sv, sn + 1, ns⟩, blk, vs, vn⟩ :: r) sb k → k < w.heap.size := fun k e => HLT.out k (HO6.out k e)
  exact ⟨a9, c9, by rw [HTO.out]; rfl, V, _, (H6.out.below HB9.out).aside hG (fun e => by have := hl6 _ e; omega), (HF6.out.trans (Fr.of_below HB9.out _)).write hG (Nat.le_refl _), own_grown HO9.out hG (fun e => by have := hnw _ e; omega), fun k e => ⟨by have := hnw k e; omega, fun e2 => by have := hl6 _ e2; have := hnw k e; omega⟩⟩

theorem q_send (w : World) (sb : Nat) (s : QSt) (V : QV) (c : QC) (r : List QC) (h : QAt w sb s V (c :: r)) (hok : QOk s) (hne : c.ch.servers ≠ []) :
    Calls Tryz.prog 162 #[.pointer (some ⟨sb, 0, none⟩)] w (QTells w sb V (c :: r) (sendQ s)) := by
  have hch : s.ch = c.ch :: r.map QC.ch := h.chs.symm
  by_cases ht : (c.ch.sent : Int) = s.t
  · have e : sendQ s = ({ s with ph := .fail }, noOut) := by unfold sendQ; rw [hch]; simp [ht]
    rw [e]
    exact send_tried w sb s V c r h ht
  · by_cases hb : (s.sent : Int) = s.b
    · have e : sendQ s = ({ s with ph := .failAll }, noOut) := by unfold sendQ; rw [hch]; simp [ht, hb]
      rw [e]
      exact send_spent w sb s V c r h ht hb
    · have e : sendQ s = (askedQ s c.ch (r.map QC.ch), (1, toOf c.ch, packL (askM (nextId s.id) c.ch))) := by unfold sendQ askedQ; rw [hch]; simp [ht, hb]
      rw [e]
      exact send_goes w sb s V c r h hok hne ht hb
end Go.Proofs.YtafoepfhepdcoaaGreat
