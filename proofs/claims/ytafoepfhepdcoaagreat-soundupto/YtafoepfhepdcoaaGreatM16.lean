import Derived.Test.YtafoepfhepdcoaaGreatM15
set_option maxRecDepth 100000
set_option maxHeartbeats 8000000
namespace Go.Proofs.YtafoepfhepdcoaaGreat
open Go.RowKit Go.Trawl
attribute [local go_sem] mf buildX0 buildCh4
theorem QAt.hset {w : World} {sb : Nat} {s : QSt} {V : QV} {c : QC} {r : List QC} (h : QAt w sb s V (c :: r)) (c' : QC) (hb : c'.blk = c.blk) (j : Nat) (u : Value) (he : (qcCells c r).setIfInBounds j u = qcCells c' r) (h1 : Lies w 1 c'.vs (wordsV c'.ch.servers)) (h2 : Lies w 1 c'.vn (textsV c'.ch.names)) (h3 : capOk c'.vn)
  (hk : ∀ k, (c'.vs.ownBlock = some k ∨ c'.vn.ownBlock = some k) → k < w.heap.size ∧ ¬ V.writes (c :: r) sb k) : QAt (w.setCell ⟨c.blk, j, none⟩ u) sb { s with ch := c'.ch :: r.map QC.ch } V (c' :: r) :=
 h.head hb (grownBy_setCell w c.blk j u) (by rw [heap_setCell_eq h.chain.1, he]) h1 h2 h3 hk
theorem owns_head {V : QV} {c c' : QC} {r : List QC} {sb k : Nat} (hb : c'.blk = c.blk) (h : V.owns (c' :: r) sb k) : V.owns (c :: r) sb k ∨ c'.vs.ownBlock = some k ∨ c'.vn.ownBlock = some k := by
 rcases h with (e | e | ⟨x, hx, e⟩) | ⟨v, hv, e⟩
 ·exact .inl (.inl (.inl e))
 ·exact .inl (.inl (.inr (.inl e)))
 ·rcases List.mem_cons.1 hx with rfl | hx
  ·exact .inl (.inl (.inr (.inr ⟨c, by simp, e.trans hb⟩)))
  ·exact .inl (.inl (.inr (.inr ⟨x, by simp [hx], e⟩)))
 ·rcases mem_reads.1 hv with rfl | rfl | ⟨x, hx, e1⟩
  ·exact .inl (.inr ⟨_, mem_reads.2 (.inl rfl), e⟩)
  ·exact .inl (.inr ⟨_, mem_reads.2 (.inr (.inl rfl)), e⟩)
  ·rcases List.mem_cons.1 hx with rfl | hx
   ·rcases e1 with rfl | rfl
    ·exact .inr (.inl e)
    ·exact .inr (.inr e)
   ·exact .inl (.inr ⟨v, mem_reads.2 (.inr (.inr ⟨x, by simp [hx], e1⟩)), e⟩)
theorem own_vs {V : QV} {c : QC} {r : List QC} {sb k : Nat} (e : c.vs.ownBlock = some k) : V.owns (c :: r) sb k := .inr ⟨_, mem_reads.2 (.inr (.inr ⟨c, by simp, .inl rfl⟩)), e⟩
theorem own_vn {V : QV} {c : QC} {r : List QC} {sb k : Nat} (e : c.vn.ownBlock = some k) : V.owns (c :: r) sb k := .inr ⟨_, mem_reads.2 (.inr (.inr ⟨c, by simp, .inr rfl⟩)), e⟩
theorem QAt.vs {w : World} {sb : Nat} {s : QSt} {V : QV} {c : QC} {r : List QC} (h : QAt w sb s V (c :: r)) {k : Nat} (e : c.vs.ownBlock = some k) : k < w.heap.size ∧ ¬ V.writes (c :: r) sb k := ⟨h.lt k (own_vs e), h.free _ (mem_reads.2 (.inr (.inr ⟨c, by simp, .inl rfl⟩))) k e⟩
theorem QAt.vn {w : World} {sb : Nat} {s : QSt} {V : QV} {c : QC} {r : List QC} (h : QAt w sb s V (c :: r)) {k : Nat} (e : c.vn.ownBlock = some k) : k < w.heap.size ∧ ¬ V.writes (c :: r) sb k := ⟨h.lt k (own_vn e), h.free _ (mem_reads.2 (.inr (.inr ⟨c, by simp, .inr rfl⟩))) k e⟩
theorem lies_rest {w : World} {b o cN : Nat} {n : ByteArray} {ns : List ByteArray} (h : Lies w 1 (.slice (some ⟨b, o, none⟩) (ns.length + 1) cN) (textsV (n :: ns))) (hcap : ns.length + 1 ≤ cN) :
  w.cell? ⟨b, o, none⟩ = some (.string n) ∧ ∃ vt : Value, vt = (if cN = 1 then .slice (some ⟨b, o, none⟩) ns.length (cN - 1) else .slice (some ⟨b, o + 1, none⟩) ns.length (cN - 1)) ∧ Lies w 1 vt (textsV ns) ∧ capOk vt ∧ vt.ownBlock = some b := by
 obtain ⟨a, c, e, _, h1⟩ := h
 injection e with e1 e2 e3
 subst e1 e3
 rcases h1 with h1 | ⟨b', o', e, hb, hN⟩
 ·cases h1
 cases e
 refine ⟨by simpa using hN 0 [.string n] rfl 0 (.string n) rfl, _, rfl, ?_, ?_, ?_⟩
 ·split
  ·have : ns = [] := List.eq_nil_of_length_eq_zero (by omega)
   subst this
   exact ⟨_, _, rfl, fun e => (by cases e), .inl rfl⟩
  ·refine ⟨some ⟨b, o + 1, none⟩, cN - 1, by simp [textsV], fun e => (by cases e), .inr ⟨b, o + 1, rfl, hb, fun i e hi j u hj => ?_⟩⟩
   have := hN (i + 1) e hi j u hj
   rw [show o + 1 + i * 1 + j = o + (i + 1) * 1 + j by omega]
   exact this
 ·intro a n c e
  split at e <;> · cases e; omega
 ·split <;> rfl
theorem seek_has (w : World) (sb : Nat) (s : QSt) (V : QV) (c : QC) (r : List QC) (h : QAt w sb s V (c :: r)) (hne : c.ch.servers ≠ []) (hsl : c.ch.servers.length ≤ 4294967295) :
  Calls Tryz.prog 124 #[.pointer (some ⟨sb, 0, none⟩)] w (QTells w sb V (c :: r) ({ s with ph := .send, ch := { c.ch with names := [] } :: r.map QC.ch }, noOut)) := by
 have H := hide h
 have hb1 := (Below.refl w.heap.size w).alloc (Nat.le_refl _) (.cells #[.int .i64 0, .int .u32 0, .slice none 0 0] 59)
 have h1 := h.below hb1
 have hc := box_cells h1.box
 have hf := frozen_of_block h1.box
 simp only [qCells, chPtr] at hc
 have hcc := box_cells h1.chain.1
 have hfc := frozen_of_block h1.chain.1
 simp only [qcCells] at hcc
 have hn1 := h1.chain.nsb h1.box c (by simp)
 have hn' : ¬ c.blk = sb := hn1
 have hn2 : ¬ sb = c.blk := fun e => hn1 e.symm
 have hl1 := h.slt
 have hl2 : c.blk < w.heap.size := heap_lt h.chain.1
 have hm1 : ¬ w.heap.size = c.blk := by omega
 have hm2 : ¬ w.heap.size = sb := by omega
 have hm3 : ¬ c.blk = w.heap.size := by omega
 have hm4 : ¬ sb = w.heap.size := by omega
 have h2 := h1.hset ⟨{ c.ch with names := [] }, c.blk, c.vs, .slice none 0 0⟩ rfl 5 (.slice none 0 0) rfl h1.chain.2.1 (liesNil _ _) nilCap (fun k e => by
  rcases e with e | e
  ·exact h1.vs e
  ·cases e)
 have h3 := h2.set (s' := { s with ph := .send, ch := { c.ch with names := [] } :: r.map QC.ch }) 6 (nextV sb .send) rfl rfl rfl rfl rfl
 have f3 : Fr (w.alloc (.cells #[.int .i64 0, .int .u32 0, .slice none 0 0] 59)) _ (V.owns (c :: r) sb) (V.owns (⟨{ c.ch with names := [] }, c.blk, c.vs, .slice none 0 0⟩ :: r) sb) := ((Fr.of_below (Below.refl _ _) (V.owns (c :: r) sb)).turn (O' := V.owns (c :: r) sb) (grownBy_setCell _ c.blk 5 (.slice none 0 0)) (.inl (.inl (.inr (.inr ⟨c, by simp, rfl⟩)))) (fun i hi => .inl hi)).turn (grownBy_setCell _ sb 6 (nextV sb .send)) (.inl (.inl (.inl rfl))) (fun i hi => by
  rcases owns_head (c := c) (c' := ⟨{ c.ch with names := [] }, c.blk, c.vs, .slice none 0 0⟩) rfl hi with e | e | e
  ·exact .inl e
  ·exact .inl (own_vs e)
  ·cases e)
 obtain ⟨hx, hp⟩ := says_box h ⟨V, _, h3, f3⟩
 have HX := hide hx
 have HP := hide hp
 obtain ⟨aS, cS, hvs, _⟩ := h1.chain.2.1
 have hlw : (wordsV c.ch.servers).length = c.ch.servers.length := by simp [wordsV]
 rw [hlw] at hvs
 have hpos : 0 < c.ch.servers.length := List.length_pos_iff.2 hne
 have hgt : ((0 : Int) < (c.ch.servers.length : Int)) := by omega
 clear h h1 h2 h3 f3 hx hp hne hlw hb1
 unfold QTells noOut
 obtain ⟨ch, blk, vs, vn⟩ := c
 dsimp only at *
 subst hvs
 unfold nextV at HX HP
 go_enter Tryz.func124, Tryz.ntmps124
 go_wp2_with (with_reducible refine stop_load _ (.tmp 8) rfl ?_)
 unfold Stopped
 generalize w.alloc (.cells #[.int .i64 0, .int .u32 0, .slice none 0 0] 59) = W1 at hc hf hcc hfc HX HP ⊢
 go_wp2_with (with_reducible refine stop_store _ (.tmp 2) _ rfl ?_)
 unfold Stopped
 clear hc hf hcc hfc
 generalize (World.setCell _ ⟨sb, 6, none⟩ _) = W2 at HX HP ⊢
 have hcz := box_cells HX.out
 have hfz := frozen_of_block HX.out
 go_wp2_with fail
 clear hcz hfz
 refine bodyPost_ret (results_cell_row rfl _ _ w.heap.size _ _ _ _ rfl (put3_box (.int .i64 0) (.int .u32 0) (.slice none 0 0) HX.out) undXs rfl (by kernel_rfl)) rfl ?_
 obtain ⟨V', cs', h3, f3⟩ := HP.out (.int .i64 0) (.int .u32 0) (.slice none 0 0)
 exact ⟨none, 0, rfl, V', cs', h3, f3, World.ownsRow_nil _ _ _ _, fun k e => by cases e⟩
theorem seek_none (w : World) (sb : Nat) (s : QSt) (V : QV) (c : QC) (r : List QC) (h : QAt w sb s V (c :: r)) (hs0 : c.ch.servers = []) (hn0 : c.ch.names = []) (hnl : c.ch.names.length ≤ 2097152) :
  Calls Tryz.prog 124 #[.pointer (some ⟨sb, 0, none⟩)] w (QTells w sb V (c :: r) ({ s with ph := .fail }, noOut)) := by
 have H := hide h
 have hb1 := (Below.refl w.heap.size w).alloc (Nat.le_refl _) (.cells #[.int .i64 0, .int .u32 0, .slice none 0 0] 59)
 have h1 := h.below hb1
 have hc := box_cells h1.box
 have hf := frozen_of_block h1.box
 simp only [qCells, chPtr] at hc
 have hcc := box_cells h1.chain.1
 simp only [qcCells] at hcc
 have hn1 := h1.chain.nsb h1.box c (by simp)
 have hn' : ¬ c.blk = sb := hn1
 have hn2 : ¬ sb = c.blk := fun e => hn1 e.symm
 have hl1 := h.slt
 have hm2 : ¬ w.heap.size = sb := by omega
 have hm4 : ¬ sb = w.heap.size := by omega
 obtain ⟨aS, cS, hvs, _⟩ := h1.chain.2.1
 obtain ⟨aN, cN, hvn, _⟩ := h1.chain.2.2.1
 have hlw : (wordsV c.ch.servers).length = 0 := by rw [hs0]; rfl
 have hln : (textsV c.ch.names).length = c.ch.names.length := by simp [textsV]
 rw [hlw] at hvs
 rw [hln] at hvn
 have hnz : c.ch.names.length = 0 := by rw [hn0]; rfl
 have hz : ((c.ch.names.length : Int) == 0) = true := by rw [hn0]; rfl
 clear hn0
 have H1 := hide h1
 clear h h1 hlw hln hb1 hs0
 unfold QTells noOut
 obtain ⟨ch, blk, vs, vn⟩ := c
 dsimp only at *
 subst hvs hvn
 go_enter Tryz.func124, Tryz.ntmps124
 go_wp2_with (with_reducible refine stop_load _ (.tmp 8) rfl ?_)
 unfold Stopped
 generalize hW : w.alloc (.cells #[.int .i64 0, .int .u32 0, .slice none 0 0] 59) = W1 at hc hf hcc H1 ⊢
 go_wp2_with fail
 go_quiet (fail)
 go_wp2_with (with_reducible refine stop_store _ (.tmp 75) _ rfl ?_)
 unfold Stopped
 have hb2 : Below W1.heap.size W1 (W1.drewN nq) := below_drewN (Below.refl _ _) _
 have H2 := hide (H1.out.below hb2)
 have HR2 : Hid (∃ V' cs', QAt ((W1.drewN nq).setCell ⟨sb, 6, none⟩ (nextV sb .fail)) sb { s with ph := .fail } V' cs' ∧ Fr (w.alloc (.cells #[.int .i64 0, .int .u32 0, .slice none 0 0] 59)) ((W1.drewN nq).setCell ⟨sb, 6, none⟩ (nextV sb .fail)) (V.owns (⟨ch, blk, .slice aS 0 cS, .slice aN ch.names.length cN⟩ :: r) sb) (V'.owns cs' sb)) := by
  rw [hW]
  exact ⟨V, _, H2.out.set 6 (nextV sb .fail) rfl rfl rfl rfl rfl, (Fr.of_below hb2 _).trans (Fr.self _ 6 _)⟩
 obtain ⟨hx, hp⟩ := says_box H.out HR2.out
 have HX := hide hx
 have HP := hide hp
 clear hc hf hcc hx hp HR2 hb2 H1
 have hc := box_cells H2.out.box
 have hf := frozen_of_block H2.out.box
 simp only [qCells, chPtr] at hc
 unfold nextV at HX HP
 generalize W1.drewN nq = W2 at hc hf HX HP ⊢
 go_wp2_with (with_reducible refine stop_store _ (.tmp 2) _ rfl ?_)
 unfold Stopped
 clear hc hf H2
 generalize (World.setCell _ ⟨sb, 6, none⟩ _) = W3 at HX HP ⊢
 have hcz := box_cells HX.out
 have hfz := frozen_of_block HX.out
 go_wp2_with fail
 clear hcz hfz
 refine bodyPost_ret (results_cell_row rfl _ _ w.heap.size _ _ _ _ rfl (put3_box (.int .i64 0) (.int .u32 0) (.slice none 0 0) HX.out) undXs rfl (by kernel_rfl)) rfl ?_
 obtain ⟨V', cs', h3, f3⟩ := HP.out (.int .i64 0) (.int .u32 0) (.slice none 0 0)
 exact ⟨none, 0, rfl, V', cs', h3, f3, World.ownsRow_nil _ _ _ _, fun k e => by cases e⟩
theorem seek_deep (w : World) (sb : Nat) (s : QSt) (V : QV) (c : QC) (r : List QC) (h : QAt w sb s V (c :: r)) (hs0 : c.ch.servers = []) (hn0 : c.ch.names ≠ []) (hd : (r.length : Int) = s.d) (hnl : c.ch.names.length ≤ 2097152) :
  Calls Tryz.prog 124 #[.pointer (some ⟨sb, 0, none⟩)] w (QTells w sb V (c :: r) ({ s with ph := .fail }, noOut)) := by
 have H := hide h
 have hb1 := (Below.refl w.heap.size w).alloc (Nat.le_refl _) (.cells #[.int .i64 0, .int .u32 0, .slice none 0 0] 59)
 have h1 := h.below hb1
 have hc := box_cells h1.box
 have hf := frozen_of_block h1.box
 simp only [qCells, chPtr] at hc
 have hcc := box_cells h1.chain.1
 simp only [qcCells] at hcc
 have hn1 := h1.chain.nsb h1.box c (by simp)
 have hn' : ¬ c.blk = sb := hn1
 have hn2 : ¬ sb = c.blk := fun e => hn1 e.symm
 have hl1 := h.slt
 have hm2 : ¬ w.heap.size = sb := by omega
 have hm4 : ¬ sb = w.heap.size := by omega
 obtain ⟨aS, cS, hvs, _⟩ := h1.chain.2.1
 obtain ⟨aN, cN, hvn, _⟩ := h1.chain.2.2.1
 have hlw : (wordsV c.ch.servers).length = 0 := by rw [hs0]; rfl
 have hln : (textsV c.ch.names).length = c.ch.names.length := by simp [textsV]
 rw [hlw] at hvs
 rw [hln] at hvn
 have hnz : 0 < c.ch.names.length := List.length_pos_iff.2 hn0
 have hz : ((c.ch.names.length : Int) == 0) = false := by simp; exact hn0
 have hz2 : ((r.length : Int) == s.d) = true := by simp; exact hd
 clear hn0
 have H1 := hide h1
 clear h h1 hlw hln hb1 hs0
 unfold QTells noOut
 obtain ⟨ch, blk, vs, vn⟩ := c
 dsimp only at *
 subst hvs hvn
 go_enter Tryz.func124, Tryz.ntmps124
 go_wp2_with (with_reducible refine stop_load _ (.tmp 8) rfl ?_)
 unfold Stopped
 generalize hW : w.alloc (.cells #[.int .i64 0, .int .u32 0, .slice none 0 0] 59) = W1 at hc hf hcc H1 ⊢
 go_wp2_with fail
 go_quiet (fail)
 go_wp2_with (with_reducible refine stop_store _ (.tmp 75) _ rfl ?_)
 unfold Stopped
 have hb2 : Below W1.heap.size W1 (W1.drewN nq) := below_drewN (Below.refl _ _) _
 have H2 := hide (H1.out.below hb2)
 have HR2 : Hid (∃ V' cs', QAt ((W1.drewN nq).setCell ⟨sb, 6, none⟩ (nextV sb .fail)) sb { s with ph := .fail } V' cs' ∧ Fr (w.alloc (.cells #[.int .i64 0, .int .u32 0, .slice none 0 0] 59)) ((W1.drewN nq).setCell ⟨sb, 6, none⟩ (nextV sb .fail)) (V.owns (⟨ch, blk, .slice aS 0 cS, .slice aN ch.names.length cN⟩ :: r) sb) (V'.owns cs' sb)) := by
  rw [hW]
  exact ⟨V, _, H2.out.set 6 (nextV sb .fail) rfl rfl rfl rfl rfl, (Fr.of_below hb2 _).trans (Fr.self _ 6 _)⟩
 obtain ⟨hx, hp⟩ := says_box H.out HR2.out
 have HX := hide hx
 have HP := hide hp
 clear hc hf hcc hx hp HR2 hb2 H1
 have hc := box_cells H2.out.box
 have hf := frozen_of_block H2.out.box
 simp only [qCells, chPtr] at hc
 unfold nextV at HX HP
 generalize W1.drewN nq = W2 at hc hf HX HP ⊢
 go_wp2_with (with_reducible refine stop_store _ (.tmp 2) _ rfl ?_)
 unfold Stopped
 clear hc hf H2
 generalize (World.setCell _ ⟨sb, 6, none⟩ _) = W3 at HX HP ⊢
 have hcz := box_cells HX.out
 have hfz := frozen_of_block HX.out
 go_wp2_with fail
 clear hcz hfz
 refine bodyPost_ret (results_cell_row rfl _ _ w.heap.size _ _ _ _ rfl (put3_box (.int .i64 0) (.int .u32 0) (.slice none 0 0) HX.out) undXs rfl (by kernel_rfl)) rfl ?_
 obtain ⟨V', cs', h3, f3⟩ := HP.out (.int .i64 0) (.int .u32 0) (.slice none 0 0)
 exact ⟨none, 0, rfl, V', cs', h3, f3, World.ownsRow_nil _ _ _ _, fun k e => by cases e⟩
theorem seek_next (w : World) (sb : Nat) (s : QSt) (V : QV) (c : QC) (r : List QC) (n : ByteArray) (ns : List ByteArray) (h : QAt w sb s V (c :: r)) (hs0 : c.ch.servers = []) (hn0 : c.ch.names = n :: ns) (hd : ¬ (r.length : Int) = s.d) (hnl : ns.length + 1 ≤ 2097152) (hrl : r.length ≤ 1000) :
    Calls Tryz.prog 124 #[.pointer (some ⟨sb, 0, none⟩)] w (QTells w sb V (c :: r) (startQ s (newQ n 1) ({ c.ch with names := ns } :: r.map QC.ch), noOut)) := by
  have H := hide h
  have hb1 := (Below.refl w.heap.size w).alloc (Nat.le_refl _) (.cells #[.int .i64 0, .int .u32 0, .slice none 0 0] 59)
  have h1 := h.below hb1
  have hc := box_cells h1.box
  simp only [qCells, chPtr] at hc
  have hcc := box_cells h1.chain.1
  simp only [qcCells] at hcc
  have hl1 := h.slt
  have hl2 : c.blk < w.heap.size := heap_lt h.chain.1
  have hm2 : ¬ w.heap.size = sb := by omega
  have hm4 : ¬ sb = w.heap.size := by omega
  obtain ⟨aS, cS, hvs, _⟩ := h1.chain.2.1
  have hlt := h1.chain.2.2.1
  rw [hn0] at hlt
  obtain ⟨aN, cN, hvn, _, hx⟩ := hlt
  have hcap : ns.length + 1 ≤ cN := h1.chain.2.2.2.1 aN _ cN (by rw [hvn]; simp [textsV])
  rcases hx with e | ⟨bN, oN, rfl, hbN, hN⟩
  · cases e
  have hlw : (wordsV c.ch.servers).length = 0 := by rw [hs0]; rfl
  have hln : (textsV (n :: ns)).length = ns.length + 1 := by simp [textsV]
  rw [hlw] at hvs
  rw [hln] at hvn
  have HL1 : Hid (Lies (w.alloc (.cells #[.int .i64 0, .int .u32 0, .slice none 0 0] 59)) 1 (.slice (some ⟨bN, oN, none⟩) (ns.length + 1) cN) (textsV (n :: ns))) := by
    have := h1.chain.2.2.1
    rw [hn0, hvn] at this
    exact this
  have hz2 : ((r.length : Int) == s.d) = false := by simp; exact hd
  have H1 := hide h1
  have HLT := hide h.lt
  clear h h1 hlw hln hb1 hs0 hd hbN hN
  unfold QTells noOut
  obtain ⟨ch, blk, vs, vn⟩ := c
  obtain ⟨nm, kd, zn, sv, sn, nss⟩ := ch
  dsimp only at *
  subst hvs hvn hn0
  go_enter Tryz.func124, Tryz.ntmps124
  go_wp2_with (with_reducible refine stop_load _ (.tmp 8) rfl ?_)
  unfold Stopped
  have HX1 := hide (heap_new w (.cells #[.int .i64 0, .int .u32 0, .slice none 0 0] 59))
  have HB1 := hide ((Below.refl w.heap.size w).alloc (Nat.le_refl _) (.cells #[.int .i64 0, .int .u32 0, .slice none 0 0] 59))
  have hz1 := alloc_size w (.cells #[.int .i64 0, .int .u32 0, .slice none 0 0] 59)
  generalize hW : w.alloc (.cells #[.int .i64 0, .int .u32 0, .slice none 0 0] 59) = W1 at hc hcc H1 HL1 HX1 HB1 hz1 ⊢
  go_wp2_with fail
  go_quiet (fail)
  have hb2 : Below W1.heap.size W1 (W1.drewN nq) := below_drewN (Below.refl _ _) _
  have H2 := hide (H1.out.below hb2)
  have HX2 := hide ((hb2.block _ (heap_lt HX1.out)).trans HX1.out)
  have HB2 := hide (HB1.out.trans (hb2.mono HB1.out.size))
  have hl2' := HL1.out.below hb2
  have hz2' : (W1.drewN nq).heap.size = W1.heap.size := rfl
  clear hc hcc H1 HL1 HX1 HB1 hb2
  generalize W1.drewN nq = W2 at H2 HX2 HB2 hl2' hz2' ⊢
  rw [hz1] at hz2'
  clear hz1 hW
  obtain ⟨hn1, vt, hvt, hvl, hvc, hvb⟩ := lies_rest hl2' hcap
  have hcc := box_cells H2.out.chain.1
  have hfc := frozen_of_block H2.out.chain.1
  simp only [qcCells] at hcc
  have H3 := hide (H2.out.hset ⟨⟨nm, kd, zn, sv, sn, ns⟩, blk, .slice aS 0 cS, vt⟩ rfl 5 vt rfl H2.out.chain.2.1 hvl hvc (fun k e => by
    rcases e with e | e
    · exact H2.out.vs e
    · exact H2.out.vn (by rw [show (Value.slice (some ⟨bN, oN, none⟩) (ns.length + 1) cN).ownBlock = some bN from rfl, ← hvb]; exact e)))
  have hO3 : ∀ i, V.owns (⟨⟨nm, kd, zn, sv, sn, ns⟩, blk, .slice aS 0 cS, vt⟩ :: r) sb i → V.owns (⟨⟨nm, kd, zn, sv, sn, n :: ns⟩, blk, .slice aS 0 cS, .slice (some ⟨bN, oN, none⟩) (ns.length + 1) cN⟩ :: r) sb i := fun i hi => by
    rcases owns_head (c := ⟨⟨nm, kd, zn, sv, sn, n :: ns⟩, blk, .slice aS 0 cS, .slice (some ⟨bN, oN, none⟩) (ns.length + 1) cN⟩) (c' := ⟨⟨nm, kd, zn, sv, sn, ns⟩, blk, .slice aS 0 cS, vt⟩) rfl hi with e | e | e
    · exact e
    · exact own_vs (c := ⟨⟨nm, kd, zn, sv, sn, n :: ns⟩, blk, .slice aS 0 cS, .slice (some ⟨bN, oN, none⟩) (ns.length + 1) cN⟩) e
    · exact own_vn (c := ⟨⟨nm, kd, zn, sv, sn, n :: ns⟩, blk, .slice aS 0 cS, .slice (some ⟨bN, oN, none⟩) (ns.length + 1) cN⟩) (by
        show some bN = some i
        rw [← hvb]; exact e)
  have HO3 := hide hO3
  have HF3 : Hid (Fr w (W2.setCell ⟨blk, 5, none⟩ vt) (V.owns (⟨⟨nm, kd, zn, sv, sn, n :: ns⟩, blk, .slice aS 0 cS, .slice (some ⟨bN, oN, none⟩) (ns.length + 1) cN⟩ :: r) sb) (V.owns (⟨⟨nm, kd, zn, sv, sn, ns⟩, blk, .slice aS 0 cS, vt⟩ :: r) sb)) := (Fr.of_below HB2.out _).turn (grownBy_setCell W2 blk 5 vt) (.inl (.inl (.inr (.inr ⟨_, List.mem_cons_self, rfl⟩)))) (fun i hi => .inl (hO3 i hi))
  clear hO3
  have HX3 := hide ((Below.heap_setCell W2 ⟨blk, 5, none⟩ vt w.heap.size (by show w.heap.size ≠ blk; omega)).trans HX2.out)
  have hz3 : (W2.setCell ⟨blk, 5, none⟩ vt).heap.size = w.heap.size + 1 := by simp [World.setCell]; exact hz2'
  have hv2 : vt = (if cN = 1 then .slice (some ⟨bN, oN, none⟩) 0 0 else .slice (some ⟨bN, oN + 1, none⟩) ns.length (cN - 1)) := by
    rw [hvt]
    by_cases e : cN = 1
    · rw [if_pos e, if_pos e, e, show ns.length = 0 by omega]
    · rw [if_neg e, if_neg e]
  have HV := hide hv2
  clear hvt hv2 hl2' hvl hvc
  rcases (show cN = 1 ∨ ¬ cN = 1 by omega) with hcN | hcN
  all_goals
    first
    | (have hvt' : vt = .slice (some ⟨bN, oN, none⟩) 0 0 := by rw [HV.out, if_pos hcN]
       have hns : ns.length = 0 := by omega
       subst hcN hvt'
       rw [hns] at hcc
       go_wp2_with fail)
    | (have hvt' : vt = .slice (some ⟨bN, oN + 1, none⟩) ns.length (cN - 1) := by rw [HV.out, if_neg hcN]
       subst hvt'
       go_wp2_with fail)
    clear hcc hfc hn1
    generalize W2.setCell ⟨blk, 5, none⟩ _ = W3 at H3 HF3 HX3 hz3 ⊢
    have hb4 := (Below.refl W3.heap.size W3).alloc (Nat.le_refl _) (.cells #[.pointer (some ⟨blk, 0, none⟩), .int .i64 ((r.length : Int) + 1), .string n, .int .u16 1, .string ⟨#[]⟩, .slice none 0 0, .slice none 0 0, .int .i64 0] 192)
    have hx4 := heap_new W3 (.cells #[.pointer (some ⟨blk, 0, none⟩), .int .i64 ((r.length : Int) + 1), .string n, .int .u16 1, .string ⟨#[]⟩, .slice none 0 0, .slice none 0 0, .int .i64 0] 192)
    rw [hz3] at hx4
    have HB4 := hide hb4
    have HX4 := hide ((hb4.block _ (heap_lt HX3.out)).trans HX3.out)
    refine (q_start _ sb _ V _ _ (w.heap.size + 1) n 1 (H3.out.below hb4) (.inr rfl) hx4 (fun e => by have := H3.out.lt _ e; omega)).mono ?_
    rintro e w5 ⟨rfl, H5⟩
    have hx5 : w5.heap[w.heap.size]? = some (.cells #[.int .i64 0, .int .u32 0, .slice none 0 0] 59) := by
      obtain ⟨cs5, h5, f5⟩ := H5.out
      refine f5.stay HX4.out (fun e => ?_)
      rcases e with e | e
      · omega
      · have := HLT.out _ (HO3.out _ e); omega
    have HX5 := hide hx5
    have hcz := box_cells hx5
    have hfz := frozen_of_block hx5
    clear hb4 hx4 hx5
    go_wp2_with fail
    clear hcz hfz
    refine bodyPost_ret (results_cell_row rfl _ _ w.heap.size _ _ _ _ rfl (put3_box (.int .i64 0) (.int .u32 0) (.slice none 0 0) HX5.out) undXs rfl (by kernel_rfl)) rfl ?_
    obtain ⟨cs5, h5, f5⟩ := H5.out
    have hG := put3_grown w5 w.heap.size (.int .i64 0) (.int .u32 0) (.slice none 0 0)
    have hF := (HF3.out.trans (Fr.of_below HB4.out _)).after f5 (fun i hi => by
      rcases hi with e | e
      · exact .inr (by omega)
      · exact .inl (HO3.out i e))
    refine ⟨none, 0, rfl, V, cs5, h5.aside hG (fun e => ?_), hF.write hG (Nat.le_refl _), World.ownsRow_nil _ _ _ _, fun k e => by cases e⟩
    rcases f5.new _ e with (e | e) | e
    · omega
    · have := HLT.out _ (HO3.out _ e); omega
    · have := HB4.out.size; omega
end Go.Proofs.YtafoepfhepdcoaaGreat
namespace Go.Proofs.YtafoepfhepdcoaaGreat
open Go.RowKit Go.Trawl
attribute [local go_sem] mf buildX0 buildX3 buildMq
theorem q_seek (w : World) (sb : Nat) (s : QSt) (V : QV) (c : QC) (r : List QC) (h : QAt w sb s V (c :: r)) (hok : QOk s) :
  Calls Tryz.prog 124 #[.pointer (some ⟨sb, 0, none⟩)] w (QTells w sb V (c :: r) (seekQ s, noOut)) := by
 have hch : s.ch = c.ch :: r.map QC.ch := h.chs.symm
 have hC := hok.chs c.ch (by rw [hch]; simp)
 have hlen := hok.len
 rw [hch] at hlen
 simp only [List.length_cons, List.length_map] at hlen
 have hd := hok.d1
 by_cases hs : c.ch.servers = []
 ·cases hn : c.ch.names with
  | nil =>
   have e : seekQ s = { s with ph := .fail } := by unfold seekQ; rw [hch]; simp [hs, hn]
   rw [e]
   exact seek_none w sb s V c r h hs hn hC.names
  | cons n ns =>
   by_cases hdp : (r.length : Int) = s.d
   ·have e : seekQ s = { s with ph := .fail } := by unfold seekQ; rw [hch]; simp [hs, hn, hdp]
    rw [e]
    exact seek_deep w sb s V c r h hs (by rw [hn]; simp) hdp hC.names
   ·have e : seekQ s = startQ s (newQ n 1) ({ c.ch with names := ns } :: r.map QC.ch) := by unfold seekQ; rw [hch]; simp [hs, hn, hdp]
    rw [e]
    have := hC.names
    rw [hn] at this
    exact seek_next w sb s V c r n ns h hs hn hdp this (by omega)
 ·have e : seekQ s = { s with ph := .send, ch := { c.ch with names := [] } :: r.map QC.ch } := by unfold seekQ; rw [hch]; simp [hs]
  rw [e]
  exact seek_has w sb s V c r h hs hC.servers
theorem send_tried (w : World) (sb : Nat) (s : QSt) (V : QV) (c : QC) (r : List QC) (h : QAt w sb s V (c :: r)) (ht : (c.ch.sent : Int) = s.t) :
  Calls Tryz.prog 162 #[.pointer (some ⟨sb, 0, none⟩)] w (QTells w sb V (c :: r) ({ s with ph := .fail }, noOut)) := by
 have H := hide h
 have hb1 := (Below.refl w.heap.size w).alloc (Nat.le_refl _) (.cells #[.int .i64 0, .int .u32 0, .slice none 0 0] 59)
 have h1 := h.below hb1
 have hc := box_cells h1.box
 simp only [qCells, chPtr] at hc
 have hcc := box_cells h1.chain.1
 simp only [qcCells] at hcc
 have hl1 := h.slt
 have hm2 : ¬ w.heap.size = sb := by omega
 have hm4 : ¬ sb = w.heap.size := by omega
 have hz : ((c.ch.sent : Int) == s.t) = true := by simp; exact ht
 have H1 := hide h1
 clear h h1 hb1
 unfold QTells noOut
 obtain ⟨ch, blk, vs, vn⟩ := c
 dsimp only at *
 go_enter Tryz.func162, Tryz.ntmps162
 go_wp2_with (with_reducible refine stop_load _ (.tmp 10) rfl ?_)
 unfold Stopped
 generalize hW : w.alloc (.cells #[.int .i64 0, .int .u32 0, .slice none 0 0] 59) = W1 at hc hcc H1 ⊢
 go_wp2_with fail
 go_quiet (fail)
 have hb2 : Below W1.heap.size W1 (W1.drewN nq) := below_drewN (Below.refl _ _) _
 have H2 := hide (H1.out.below hb2)
 have HR2 : Hid (∃ V' cs', QAt ((W1.drewN nq).setCell ⟨sb, 6, none⟩ (nextV sb .fail)) sb { s with ph := .fail } V' cs' ∧ Fr (w.alloc (.cells #[.int .i64 0, .int .u32 0, .slice none 0 0] 59)) ((W1.drewN nq).setCell ⟨sb, 6, none⟩ (nextV sb .fail)) (V.owns (⟨ch, blk, vs, vn⟩ :: r) sb) (V'.owns cs' sb)) := by
  rw [hW]
  exact ⟨V, _, H2.out.set 6 (nextV sb .fail) rfl rfl rfl rfl rfl, (Fr.of_below hb2 _).trans (Fr.self _ 6 _)⟩
 obtain ⟨hx, hp⟩ := says_box H.out HR2.out
 have HX := hide hx
 have HP := hide hp
 clear hc hcc hx hp HR2 hb2 H1
 have hc := box_cells H2.out.box
 have hf := frozen_of_block H2.out.box
 simp only [qCells, chPtr] at hc
 unfold nextV at HX HP
 generalize W1.drewN nq = W2 at hc hf HX HP ⊢
 go_wp2_with (with_reducible refine stop_store _ (.tmp 2) _ rfl ?_)
 unfold Stopped
 clear hc hf H2
 generalize (World.setCell _ ⟨sb, 6, none⟩ _) = W3 at HX HP ⊢
 have hcz := box_cells HX.out
 have hfz := frozen_of_block HX.out
 go_wp2_with fail
 clear hcz hfz
 refine bodyPost_ret (results_cell_row rfl _ _ w.heap.size _ _ _ _ rfl (put3_box (.int .i64 0) (.int .u32 0) (.slice none 0 0) HX.out) undXs rfl (by kernel_rfl)) rfl ?_
 obtain ⟨V', cs', h3, f3⟩ := HP.out (.int .i64 0) (.int .u32 0) (.slice none 0 0)
 exact ⟨none, 0, rfl, V', cs', h3, f3, World.ownsRow_nil _ _ _ _, fun k e => by cases e⟩
theorem send_spent (w : World) (sb : Nat) (s : QSt) (V : QV) (c : QC) (r : List QC) (h : QAt w sb s V (c :: r)) (ht : ¬ (c.ch.sent : Int) = s.t) (hb : (s.sent : Int) = s.b) :
  Calls Tryz.prog 162 #[.pointer (some ⟨sb, 0, none⟩)] w (QTells w sb V (c :: r) ({ s with ph := .failAll }, noOut)) := by
 have H := hide h
 have hb1 := (Below.refl w.heap.size w).alloc (Nat.le_refl _) (.cells #[.int .i64 0, .int .u32 0, .slice none 0 0] 59)
 have h1 := h.below hb1
 have hc := box_cells h1.box
 simp only [qCells, chPtr] at hc
 have hcc := box_cells h1.chain.1
 simp only [qcCells] at hcc
 have hl1 := h.slt
 have hm2 : ¬ w.heap.size = sb := by omega
 have hm4 : ¬ sb = w.heap.size := by omega
 have hz : ((c.ch.sent : Int) == s.t) = false := by simp; exact ht
 have hz2 : ((s.sent : Int) == s.b) = true := by simp; exact hb
 have H1 := hide h1
 clear h h1 hb1
 unfold QTells noOut
 obtain ⟨ch, blk, vs, vn⟩ := c
 dsimp only at *
 go_enter Tryz.func162, Tryz.ntmps162
 go_wp2_with (with_reducible refine stop_load _ (.tmp 10) rfl ?_)
 unfold Stopped
 generalize hW : w.alloc (.cells #[.int .i64 0, .int .u32 0, .slice none 0 0] 59) = W1 at hc hcc H1 ⊢
 go_wp2_with fail
 go_quiet (fail)
 go_wp2_with fail
 go_quiet (fail)
 generalize hWD : World.drewN _ _ = WD
 have hb2 : Below W1.heap.size W1 WD := by rw [← hWD]; first | exact below_drewN (below_drewN (Below.refl _ _) _) _ | exact below_drewN (Below.refl _ _) _
 clear hWD
 have H2 := hide (H1.out.below hb2)
 have HR2 : Hid (∃ V' cs', QAt (WD.setCell ⟨sb, 6, none⟩ (nextV sb .failAll)) sb { s with ph := .failAll } V' cs' ∧ Fr (w.alloc (.cells #[.int .i64 0, .int .u32 0, .slice none 0 0] 59)) (WD.setCell ⟨sb, 6, none⟩ (nextV sb .failAll)) (V.owns (⟨ch, blk, vs, vn⟩ :: r) sb) (V'.owns cs' sb)) := by
  rw [hW]
  exact ⟨V, _, H2.out.set 6 (nextV sb .failAll) rfl rfl rfl rfl rfl, (Fr.of_below hb2 _).trans (Fr.self _ 6 _)⟩
 obtain ⟨hx, hp⟩ := says_box H.out HR2.out
 have HX := hide hx
 have HP := hide hp
 clear hc hcc hx hp HR2 hb2 H1
 have hc := box_cells H2.out.box
 have hf := frozen_of_block H2.out.box
 simp only [qCells, chPtr] at hc
 unfold nextV at HX HP
 go_wp2_with (with_reducible refine stop_store _ (.tmp 2) _ rfl ?_)
 unfold Stopped
 clear hc hf H2
 generalize (World.setCell _ ⟨sb, 6, none⟩ _) = W3 at HX HP ⊢
 have hcz := box_cells HX.out
 have hfz := frozen_of_block HX.out
 go_wp2_with fail
 clear hcz hfz
 refine bodyPost_ret (results_cell_row rfl _ _ w.heap.size _ _ _ _ rfl (put3_box (.int .i64 0) (.int .u32 0) (.slice none 0 0) HX.out) undXs rfl (by kernel_rfl)) rfl ?_
 obtain ⟨V', cs', h3, f3⟩ := HP.out (.int .i64 0) (.int .u32 0) (.slice none 0 0)
 exact ⟨none, 0, rfl, V', cs', h3, f3, World.ownsRow_nil _ _ _ _, fun k e => by cases e⟩
end Go.Proofs.YtafoepfhepdcoaaGreat
