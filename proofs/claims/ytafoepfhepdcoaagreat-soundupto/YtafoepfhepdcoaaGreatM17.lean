import Derived.Test.YtafoepfhepdcoaaGreatM16
import Derived.Shelf.Abstract
import Derived.Test.YtafoepfhepdcoaaGreatM12
set_option maxRecDepth 100000
set_option maxHeartbeats 8000000
namespace Go.Proofs.YtafoepfhepdcoaaGreat
open Go.RowKit Go.Trawl
attribute [local go_sem] mf buildX0 buildX3 buildMq
theorem lies_box {w : World} {sz b : Nat} {cs : Array Value} {t : TypeId} (h : w.heap[b]? = some (.cells cs t)) {l : List Value} (hl : l = cs.toList) : Lies w sz (.slice (some ⟨b, 0, none⟩) 1 1) [l] := by
 refine ⟨some ⟨b, 0, none⟩, 1, rfl, (fun e => by cases e), .inr ⟨b, 0, rfl, heap_lt h, fun i e hi j u hj => ?_⟩⟩
 cases i with
 | zero =>
  cases hi
  rw [box_cells h, hl] at *
  simpa using hj
 | succ i => cases hi
def askedQ (s : QSt) (c : Ch) (r : List Ch) : QSt := { s with ch := { c with sent := c.sent + 1 } :: r, sent := s.sent + 1, id := nextId s.id }
theorem askM_wf {i : Int} (h0 : 0 ≤ i) (h1 : i ≤ 65535) {c : Ch} (hn : c.name.size ≤ 2097152) (k0 : 0 ≤ c.kind) (k1 : c.kind ≤ 65535) : WfM (askM i c) := by
 refine ⟨h0, h1, by simp [askM], by simp [askM], by simp [askM], by simp [askM], by simp [askM], by simp [askM], by simp [askM], by simp [askM], fun q hq => ?_, by simp [askM, recs]⟩
 simp only [askM, List.mem_singleton] at hq
 subst hq
 exact ⟨hn, k0, k1, by show (0 : Int) ≤ 1; decide, by show (1 : Int) ≤ 65535; decide⟩
theorem send_goes (w : World) (sb : Nat) (s : QSt) (V : QV) (c : QC) (r : List QC) (h : QAt w sb s V (c :: r)) (hok : QOk s) (hne : c.ch.servers ≠ []) (ht : ¬ (c.ch.sent : Int) = s.t) (hb : ¬ (s.sent : Int) = s.b) :
  Calls Tryz.prog 162 #[.pointer (some ⟨sb, 0, none⟩)] w (QTells w sb V (c :: r) (askedQ s c.ch (r.map QC.ch), (1, toOf c.ch, packL (askM (nextId s.id) c.ch)))) := by
 have H := hide h
 have HLT := hide h.lt
 have hch : s.ch = c.ch :: r.map QC.ch := h.chs.symm
 have hC := hok.chs c.ch (by rw [hch]; simp)
 have hsn := hC.sent
 have hsv := hC.servers
 have ht1 := hok.t1
 have hb1' := hok.b1
 have hse := hok.sent
 have hid0 := hok.id0
 have hid1 := hok.id1
 have HWM : Hid (WfM (askM (nextId s.id) c.ch)) := askM_wf (by unfold nextId; omega) (by unfold nextId; omega) (by have := nameB_size hC.name; omega) hC.k0 hC.k1
 have hb1 := (Below.refl w.heap.size w).alloc (Nat.le_refl _) (.cells #[.int .i64 0, .int .u32 0, .slice none 0 0] 59)
 have h1 := h.below hb1
 have hc := box_cells h1.box
 simp only [qCells, chPtr] at hc
 have hcc := box_cells h1.chain.1
 simp only [qcCells] at hcc
 have hl1 := h.slt
 have hl2 : c.blk < w.heap.size := heap_lt h.chain.1
 have hnb := h.chain.nsb h.box c (by simp)
 have hz : ((c.ch.sent : Int) == s.t) = false := by simp; exact ht
 have hz2 : ((s.sent : Int) == s.b) = false := by simp; exact hb
 have H1 := hide h1
 have HB1 := hide hb1
 have HX1 := hide (heap_new w (.cells #[.int .i64 0, .int .u32 0, .slice none 0 0] 59))
 clear h h1 hb1 hC hok hch
 obtain ⟨L, hL⟩ : ∃ L, L = packL (askM (nextId s.id) c.ch) := ⟨_, rfl⟩
 rw [← hL]
 have HL := hide hL
 clear hL
 unfold QTells
 obtain ⟨ch, blk, vs, vn⟩ := c
 obtain ⟨nm, kd, zn, sv, sn, ns⟩ := ch
 dsimp only at *
 go_enter Tryz.func162, Tryz.ntmps162
 go_wp2_with (with_reducible refine stop_load _ (.tmp 10) rfl ?_)
 unfold Stopped
 generalize w.alloc (.cells #[.int .i64 0, .int .u32 0, .slice none 0 0] 59) = W1 at hc hcc H1 HB1 HX1 ⊢
 go_wp2_with fail
 go_quiet (fail)
 go_wp2_with fail
 go_quiet (fail)
 generalize hWD : World.drewN _ _ = WD
 have hb2 : Below W1.heap.size W1 WD := by rw [← hWD]; first | exact below_drewN (below_drewN (Below.refl _ _) _) _ | exact below_drewN (Below.refl _ _) _
 clear hWD hc hcc
 have H2 := hide (H1.out.below hb2)
 have HX2 := hide ((hb2.block _ (heap_lt HX1.out)).trans HX1.out)
 have HB2 := hide (HB1.out.trans (hb2.mono HB1.out.size))
 clear hb2 H1 HX1 HB1
 have hcc := box_cells H2.out.chain.1
 simp only [qcCells] at hcc
 go_wp2_with fail
 refine (q_server WD ⟨⟨nm, kd, zn, sv, sn, ns⟩, blk, vs, vn⟩ r sn H2.out.chain hne (by omega) hsv).mono ?_
 rintro e w3 ⟨rfl, k3, hw3⟩
 have hb3 : Below WD.heap.size WD w3 := by rw [hw3]; exact below_drewN (Below.refl _ _) _
 have H3 := hide (H2.out.below hb3)
 have HX3 := hide ((hb3.block _ (heap_lt HX2.out)).trans HX2.out)
 have HB3 := hide (HB2.out.trans (hb3.mono HB2.out.size))
 clear hb3 H2 HX2 HB2 hw3 hcc
 have hto : sv.getD (sn % sv.length) 0 = toOf ⟨nm, kd, zn, sv, sn, ns⟩ := rfl
 dsimp only
 rw [hto]
 clear hto
 generalize hto : toOf ⟨nm, kd, zn, sv, sn, ns⟩ = to
 have HTO := hide hto
 clear hto
 have hcc := box_cells H3.out.chain.1
 have hfc := frozen_of_block H3.out.chain.1
 simp only [qcCells] at hcc
 have hc := box_cells H3.out.box
 have hf := frozen_of_block H3.out.box
 simp only [qCells, chPtr] at hc
 have n1 : ¬ blk = sb := hnb
 have n2 : ¬ sb = blk := fun e => hnb e.symm
 have H4 := H3.out.hset ⟨⟨nm, kd, zn, sv, sn + 1, ns⟩, blk, vs, vn⟩ rfl 7 (.int .i64 ((sn : Int) + 1)) (by simp [qcCells]) H3.out.chain.2.1 H3.out.chain.2.2.1 H3.out.chain.2.2.2.1 (fun k e => by
  rcases e with e | e
  ·exact H3.out.vs e
  ·exact H3.out.vn e)
 have H5 := H4.set (s' := { s with ch := ⟨nm, kd, zn, sv, sn + 1, ns⟩ :: r.map QC.ch, sent := s.sent + 1 }) 8 (.int .i64 ((s.sent : Int) + 1)) (by simp [qCells]) rfl rfl rfl rfl
 have H6 := hide (H5.set (s' := askedQ s ⟨nm, kd, zn, sv, sn, ns⟩ (r.map QC.ch)) 5 (.int .u16 (nextId s.id)) (by simp [qCells, askedQ, nextId]) rfl rfl rfl rfl)
 have hO6 : ∀ i, V.owns (⟨⟨nm, kd, zn, sv, sn + 1, ns⟩, blk, vs, vn⟩ :: r) sb i → V.owns (⟨⟨nm, kd, zn, sv, sn, ns⟩, blk, vs, vn⟩ :: r) sb i := fun i hi => by
  rcases owns_head (c := ⟨⟨nm, kd, zn, sv, sn, ns⟩, blk, vs, vn⟩) (c' := ⟨⟨nm, kd, zn, sv, sn + 1, ns⟩, blk, vs, vn⟩) rfl hi with e | e | e
  ·exact e
  ·exact own_vs (c := ⟨⟨nm, kd, zn, sv, sn, ns⟩, blk, vs, vn⟩) e
  ·exact own_vn (c := ⟨⟨nm, kd, zn, sv, sn, ns⟩, blk, vs, vn⟩) e
 have HO6 := hide hO6
 have HF6 := hide ((((Fr.of_below HB3.out (V.owns (⟨⟨nm, kd, zn, sv, sn, ns⟩, blk, vs, vn⟩ :: r) sb)).turn (O' := V.owns (⟨⟨nm, kd, zn, sv, sn, ns⟩, blk, vs, vn⟩ :: r) sb) (grownBy_setCell w3 blk 7 (.int .i64 ((sn : Int) + 1))) (.inl (.inl (.inr (.inr ⟨_, List.mem_cons_self, rfl⟩)))) (fun i hi => .inl hi)).trans (Fr.self _ 8 (.int .i64 ((s.sent : Int) + 1)))).turn (O' := V.owns (⟨⟨nm, kd, zn, sv, sn + 1, ns⟩, blk, vs, vn⟩ :: r) sb) (grownBy_setCell _ sb 5 (.int .u16 (nextId s.id))) (.inl (.inl (.inl rfl))) (fun i hi => .inl (hO6 i hi)))
 have HX6 := hide (((Below.heap_setCell _ ⟨sb, 5, none⟩ (.int .u16 (nextId s.id)) w.heap.size (by show w.heap.size ≠ sb; omega)).trans ((Below.heap_setCell _ ⟨sb, 8, none⟩ (.int .i64 ((s.sent : Int) + 1)) w.heap.size (by show w.heap.size ≠ sb; omega)).trans (Below.heap_setCell w3 ⟨blk, 7, none⟩ (.int .i64 ((sn : Int) + 1)) w.heap.size (by show w.heap.size ≠ blk; omega)))).trans HX3.out)
 have hnx : IntKind.u16.wrap (s.id + 1) = nextId s.id := by rw [IntKind.wrap_u16]; rfl
 clear H4 H5 hO6
 go_wp2_with fail
 generalize (World.setCell _ ⟨sb, 5, none⟩ _) = W6 at H6 HF6 HX6 ⊢
 clear hcc hfc hc hf H3 HX3 HB3 hnx
 have hc6 := box_cells H6.out.box
 simp only [qCells, chPtr, askedQ] at hc6
 have HC6 : Hid (∀ w', Below W6.heap.size W6 w' → w'.cell? ⟨sb, 5, none⟩ = some (.int .u16 (nextId s.id))) := fun w' hb => ((box_cells (H6.out.below hb).box) 5).trans rfl
 have hzl : w.heap.size < W6.heap.size := heap_lt HX6.out
 go_region_held3 (fun w' => w'.cell? ⟨sb, 5, none⟩ = some (.int .u16 (nextId s.id))) (first | (go_keep; done) | exact hs7 | exact hs9) (first | (go_at_call 115; refine (q_question W6.drew ⟨⟨nm, kd, zn, sv, sn + 1, ns⟩, blk, vs, vn⟩ r (H6.out.below (below_drewN (Below.refl _ _) 1)).chain).mono ?_; rintro e w7 ⟨rfl, HB7⟩; have hs7 := HC6.out w7 ((below_drewN (Below.refl _ W6) 1).trans HB7.out); dsimp only) | (go_at_call 30; refine (wpack2 (askM (nextId s.id) ⟨nm, kd, zn, sv, sn, ns⟩) (.slice (some ⟨w7.heap.size, 0, none⟩) 1 1) (.slice none 0 0) (.slice none 0 0) (.slice none 0 0) _ HWM.out ⟨lies_box (heap_new w7 (.cells #[.string nm, .int .u16 kd, .int .u16 1] 41)) rfl, liesNil _ _, liesNil _ _, liesNil _ _⟩).mono ?_; rintro e w9 ⟨hb9, a9, c9, rfl, ho9⟩; have HB9 := hide (((below_drewN (Below.refl _ W6) 1).trans HB7.out).trans (((Below.refl _ w7).alloc (Nat.le_refl _) (.cells #[.string nm, .int .u16 kd, .int .u16 1] 41)).trans (hb9.mono (by rw [alloc_size]; omega)) |>.mono HB7.out.size)); have hs9 := HC6.out w9 HB9.out))
 clear hc6 hs7 hs9 HC6
 have hz7 := HB7.out.size
 have hnw : ∀ k, (Value.slice a9 (packL (askM (nextId s.id) ⟨nm, kd, zn, sv, sn, ns⟩)).length c9).ownBlock = some k → W6.heap.size ≤ k := fun k e => by have := (ho9.lt k e).1; rw [alloc_size] at this; have : W6.drew.heap.size = W6.heap.size := rfl; omega
 rw [← HL.out] at hnw ho9 ⊢
 have HO9 := hide (own_zero ho9)
 have HX9 := hide ((HB9.out.block _ hzl).trans HX6.out)
 have hcz := box_cells HX9.out
 have hfz := frozen_of_block HX9.out
 clear ho9 hb9
 go_wp2_with fail
 clear hcz hfz
 refine bodyPost_ret (results_cell_row rfl _ _ w.heap.size _ _ _ _ rfl (put3_box (.int .i64 1) (.int .u32 to) (.slice a9 L.length c9) HX9.out) undXs rfl (by kernel_rfl)) rfl ?_
 have hG := put3_grown w9 w.heap.size (.int .i64 1) (.int .u32 to) (.slice a9 L.length c9)
 have hl6 : ∀ k, V.owns (⟨⟨nm, kd, zn, sv, sn + 1, ns⟩, blk, vs, vn⟩ :: r) sb k → k < w.heap.size := fun k e => HLT.out k (HO6.out k e)
 exact ⟨a9, c9, by rw [HTO.out]; rfl, V, _, (H6.out.below HB9.out).aside hG (fun e => by have := hl6 _ e; omega), (HF6.out.trans (Fr.of_below HB9.out _)).write hG (Nat.le_refl _), own_grown HO9.out hG (fun e => by have := hnw _ e; omega), fun k e => ⟨by have := hnw k e; omega, fun e2 => by have := hl6 _ e2; have := hnw k e; omega⟩⟩
theorem q_send (w : World) (sb : Nat) (s : QSt) (V : QV) (c : QC) (r : List QC) (h : QAt w sb s V (c :: r)) (hok : QOk s) (hne : c.ch.servers ≠ []) :
  Calls Tryz.prog 162 #[.pointer (some ⟨sb, 0, none⟩)] w (QTells w sb V (c :: r) (sendQ s)) := by
 have hch : s.ch = c.ch :: r.map QC.ch := h.chs.symm
 by_cases ht : (c.ch.sent : Int) = s.t
 ·have e : sendQ s = ({ s with ph := .fail }, noOut) := by unfold sendQ; rw [hch]; simp [ht]
  rw [e]
  exact send_tried w sb s V c r h ht
 ·by_cases hb : (s.sent : Int) = s.b
  ·have e : sendQ s = ({ s with ph := .failAll }, noOut) := by unfold sendQ; rw [hch]; simp [ht, hb]
   rw [e]
   exact send_spent w sb s V c r h ht hb
  ·have e : sendQ s = (askedQ s c.ch (r.map QC.ch), (1, toOf c.ch, packL (askM (nextId s.id) c.ch))) := by unfold sendQ askedQ; rw [hch]; simp [ht, hb]
   rw [e]
   exact send_goes w sb s V c r h hok hne ht hb
end Go.Proofs.YtafoepfhepdcoaaGreat
namespace Go.Proofs.YtafoepfhepdcoaaGreat
open Go.RowKit Go.Trawl
theorem ex_least {P : Nat → Prop} (h : ∃ n, P n) : ∃ n, P n ∧ ∀ m, P m → n ≤ m := by
 obtain ⟨n, hn⟩ := h
 induction n using Nat.strongRecOn with
 | _ n ih =>
  by_cases hm : ∃ m, m < n ∧ P m
  ·obtain ⟨m, h1, h2⟩ := hm
   exact ih m h1 h2
  ·exact ⟨n, hn, fun m h => Classical.byContradiction fun hc => hm ⟨m, by omega, h⟩⟩
open Classical in
noncomputable def least (P : Nat → Prop) : Nat := if h : ∃ n, P n then Classical.choose (ex_least h) else 0
theorem least_at {P : Nat → Prop} (h : ∃ n, P n) : P (least P) := by
 unfold least
 rw [dif_pos h]
 exact (Classical.choose_spec (ex_least h)).1
theorem least_le {P : Nat → Prop} {m : Nat} (h : P m) : least P ≤ m := by
 unfold least
 rw [dif_pos ⟨m, h⟩]
 exact (Classical.choose_spec (ex_least ⟨m, h⟩)).2 m h
theorem q_next (w : World) (sb : Nat) (s : QSt) (V : QV) (cs : List QC) (h : QAt w sb s V cs) (hok : QOk s) (hp : s.ph ≠ .idle) :
  ∃ k, nextV sb s.ph = .func (.func k) #[.pointer (some ⟨sb, 0, none⟩)] #[] ∧ Enters Tryz.prog k ∧ Calls Tryz.prog k #[.pointer (some ⟨sb, 0, none⟩)] w (QTells w sb V cs (stepQ s)) := by
 obtain ⟨hne, hrp, _⟩ := hok.busy hp
 obtain ⟨c, r, rfl⟩ : ∃ c r, cs = c :: r := by
  cases cs with
  | nil => exact absurd h.chs.symm hne
  | cons c r => exact ⟨c, r, rfl⟩
 have hch : s.ch = c.ch :: r.map QC.ch := h.chs.symm
 have hfew := hok.few
 unfold stepQ
 cases hph : s.ph with
 | idle => exact absurd hph hp
 | send => exact ⟨_, rfl, enters_of Tryz.func162 (by kernel_rfl) rfl, q_send w sb s V c r h hok (hok.srv hph _ _ hch)⟩
 | fail =>
  have := hok.an (by rw [hph]; simp)
  have := hok.c1
  exact ⟨_, rfl, enters_of Tryz.func163 (by kernel_rfl) rfl, q_fail w sb s V c r h (by omega)⟩
 | failAll =>
  have := hok.an (by rw [hph]; simp)
  have := hok.c1
  exact ⟨_, rfl, enters_of Tryz.func175 (by kernel_rfl) rfl, q_failAll w sb s V (c :: r) h (by omega)⟩
 | seek => exact ⟨_, rfl, enters_of Tryz.func124 (by kernel_rfl) rfl, q_seek w sb s V c r h hok⟩
 | finish => exact ⟨_, rfl, enters_of Tryz.func171 (by kernel_rfl) rfl, q_finish w sb s V (c :: r) h hok hrp⟩
def GoSt (w0 : World) (sb : Nat) (O : Nat → Prop) (p : QSt × QOut) (wr : World) (n : Nat) : Prop :=
 ∃ s V cs, goes n s = some p ∧ QAt wr sb s V cs ∧ QOk s ∧ s.ph ≠ .idle ∧ Fr w0 wr O (V.owns cs sb) ∧ wr.heap[w0.heap.size]? = some (.cells zX 59) ∧ ¬ V.owns cs sb w0.heap.size
theorem stepQ_busy {s : QSt} (hp : s.ph ≠ .idle) (h0 : (stepQ s).2.1 = 0) : (stepQ s).1.ph ≠ .idle := by
 unfold stepQ at h0 ⊢
 split at h0
 ·rename_i e; exact absurd e hp
 ·rename_i e
  unfold sendQ at h0 ⊢
  split
  ·exact hp
  ·split
   ·simp
   ·split
    ·simp
    ·rename_i c r ec h1 h2
     simp only [ec, if_neg h1, if_neg h2] at h0
     exact absurd h0 (by decide)
 ·show (endQ s 2 []).ph ≠ _
  unfold endQ
  split <;> simp [settleQ]
 ·simp [settleQ]
 ·show (seekQ s).ph ≠ _
  unfold seekQ
  split
  ·exact hp
  ·split
   ·simp
   ·split
    ·simp
    ·split <;> simp [startQ]
 ·cases (show (2 : Int) = 0 from h0)
theorem q_goOn (w : World) (sb : Nat) (s : QSt) (V : QV) (cs : List QC) (n : Nat) (p : QSt × QOut) (h : QAt w sb s V cs) (hok : QOk s) (hp : s.ph ≠ .idle) (hg : goes n s = some p) :
  Calls Tryz.prog 78 #[.pointer (some ⟨sb, 0, none⟩)] w (QTells w sb V cs p) := by
 have hb1 := (Below.refl w.heap.size w).alloc (Nat.le_refl _) (.cells zX 59)
 have HLT := hide h.lt
 have H0 : Hid (∃ n, GoSt w sb (V.owns cs sb) p (w.alloc (.cells zX 59)) n) := ⟨n, s, V, cs, hg, h.below hb1, hok, hp, Fr.of_below hb1 _, heap_new w _, fun e => by have := h.lt _ e; omega⟩
 clear h hok hp hg hb1
 unfold QTells
 unfold zX at H0
 go_enter Tryz.func78, Tryz.ntmps78
 go_wp2_with fail
 generalize w.alloc (.cells #[.int .i64 0, .int .u32 0, .slice none 0 0] 59) = W1 at H0 ⊢
 go_loopw [] (fun wr => ∃ n, GoSt w sb (V.owns cs sb) p wr n) (fun wr => least (GoSt w sb (V.owns cs sb) p wr))
 case atStart => exact H0.out
 case round =>
  have hat := least_at hrel
  have HM : Hid (∀ w', GoSt w sb (V.owns cs sb) p w' (least (GoSt w sb (V.owns cs sb) p wr) - 1) → least (GoSt w sb (V.owns cs sb) p w') < least (GoSt w sb (V.owns cs sb) p wr) ∨ least (GoSt w sb (V.owns cs sb) p wr) = 0) := fun w' h => by
   have := least_le h
   omega
  have hm := hat
  generalize least (GoSt w sb (V.owns cs sb) p wr) = m at hm HM ⊢
  clear hat hrel
  obtain ⟨s1, V1, cs1, hg1, h1, ok1, hp1, f1, hx1, hn1⟩ := hm
  obtain ⟨k, hk, hent, hcall⟩ := q_next wr sb s1 V1 cs1 h1 ok1 hp1
  have hc := box_cells h1.box
  simp only [qCells] at hc
  rw [hk] at hc
  unfold Enters at hent
  have H1 := hide h1
  have OK1 := hide ok1
  have HP1 := hide hp1
  have F1 := hide f1
  have HX1 := hide hx1
  have HN1 := hide hn1
  have HG1 := hide hg1
  clear h1 ok1 hp1 f1 hx1 hn1 hg1
  go_wp2_with fail
  refine hcall.mono ?_
  rintro e w2 ⟨a2, c2, rfl, H2⟩
  clear hc hk hcall hent
  obtain ⟨V2, cs2, h2, f2, o2, n2⟩ := H2.out
  have hx2 := f2.stay HX1.out HN1.out
  have hn2 : ¬ V2.owns cs2 sb w.heap.size := fun e => by
   rcases f2.new _ e with e | e
   ·exact HN1.out e
   ·have := heap_lt HX1.out; omega
  have HF2 := hide (F1.out.trans f2)
  have HX2 := hide hx2
  have HN2 := hide hn2
  have hz1 := heap_lt HX1.out
  cases m with
  | zero => cases HG1.out
  | succ n' =>
  have hg' := HG1.out
  unfold goes at hg'
  by_cases h0 : (stepQ s1).2.1 = 0
  ·rw [if_pos h0] at hg'
   have hb3 := (Below.refl w2.heap.size w2).alloc (Nat.le_refl _) (.cells #[.int .i64 (stepQ s1).2.1, .int .u32 (stepQ s1).2.2.1, .slice a2 (stepQ s1).2.2.2.length c2] 59)
   have HS3 : Hid (GoSt w sb (V.owns cs sb) p (w2.alloc (.cells #[.int .i64 (stepQ s1).2.1, .int .u32 (stepQ s1).2.2.1, .slice a2 (stepQ s1).2.2.2.length c2] 59)) n') := ⟨_, V2, cs2, hg', h2.below hb3, stepQ_ok OK1.out HP1.out, stepQ_busy HP1.out h0, HF2.out.trans (Fr.of_below hb3 _), (hb3.block _ (heap_lt hx2)).trans hx2, hn2⟩
   clear h2 f2 o2 n2 hx2 hn2 hg' H2 hb3
   unfold stepX
   generalize (stepQ s1).2.2.2.length = l2 at HS3 ⊢
   generalize (stepQ s1).2.2.1 = t2 at HS3 ⊢
   generalize (stepQ s1).2.1 = k2 at h0 HS3 ⊢
   subst h0
   go_wp2_with fail
   have := HM.out _ (show GoSt _ _ _ _ _ (n' + 1 - 1) from HS3.out)
   exact ⟨⟨_, HS3.out⟩, by omega⟩
  ·rw [if_neg h0] at hg'
   have hpp := Option.some.inj hg'
   have HPP := hide hpp
   have H2' : Hid (∃ V' cs', QAt w2 sb p.1 V' cs' ∧ Fr wr w2 (V1.owns cs1 sb) (V'.owns cs' sb) ∧ w2.ownsRow 0 5 1 (.slice a2 p.2.2.2.length c2) p.2.2.2.length (bytesV p.2.2.2) ∧ ∀ k, (Value.slice a2 p.2.2.2.length c2).ownBlock = some k → wr.heap.size ≤ k ∧ ¬ V'.owns cs' sb k) := by rw [← hpp]; exact H2.out
   rw [hpp]
   rw [hpp] at h0
   clear hg' hpp h2 f2 o2 n2 hx2 hn2 H2
   unfold stepX
   have hb9 : (p.2.1 != 0) = true := by simpa using h0
   have HB3 := hide ((Below.refl w2.heap.size w2).alloc (Nat.le_refl _) (.cells #[.int .i64 p.2.1, .int .u32 p.2.2.1, .slice a2 p.2.2.2.length c2] 59))
   have HX3 := hide (heap_old HX2.out (.cells #[.int .i64 p.2.1, .int .u32 p.2.2.1, .slice a2 p.2.2.2.length c2] 59))
   have hcx := box_cells HX3.out
   have hfx := frozen_of_block HX3.out
   unfold zX at hcx
   go_wp2_with (with_reducible refine stop_store _ (.tmp 2) _ rfl ?_)
   unfold Stopped
   generalize w2.alloc _ = W3 at HB3 HX3 hcx hfx ⊢
   go_wp2_with fail
   clear hcx hfx
   refine bodyPost_ret (results_cell_row rfl _ _ w.heap.size _ _ _ _ rfl (put3_box (.int .i64 p.2.1) (.int .u32 p.2.2.1) (.slice a2 p.2.2.2.length c2) HX3.out) undXs rfl (by kernel_rfl)) rfl ?_
   obtain ⟨V', cs', h3, f3, o3, n3⟩ := H2'.out
   have hG := put3_grown W3 w.heap.size (.int .i64 p.2.1) (.int .u32 p.2.2.1) (.slice a2 p.2.2.2.length c2)
   have hno : ¬ V'.owns cs' sb w.heap.size := fun e => by
    rcases f3.new _ e with e | e
    ·exact HN1.out e
    ·omega
   refine ⟨a2, c2, rfl, V', cs', (h3.below HB3.out).aside hG hno, ((F1.out.trans f3).trans (Fr.of_below HB3.out _)).write hG (Nat.le_refl _), own_grown (own_below o3 HB3.out) hG (fun e => ?_), fun k e => ⟨?_, (n3 k e).2⟩⟩
   ·have := (n3 _ e).1; omega
   ·have := (n3 _ e).1; omega
def Tests (w : World) (K : FuncId) (cap : Array Value) (P : Rc → Bool) (l : List Rc) : Prop :=
 ∀ (W : World) (r : Rc), r ∈ l → Below w.heap.size w W → Calls Tryz.prog K (#[.agg #[.string r.name, .int .u16 r.kind, .int .u16 r.cls, .int .u32 r.ttl, .string r.data]] ++ cap) W fun e w' => e = .returned (.bool (P r)) ∧ Hid (Below W.heap.size W w')
theorem only_any (w : World) (v : Value) (l : List Rc) (K : FuncId) (cap : Array Value) (P : Rc → Bool) (hent : Enters Tryz.prog K) (hcl : Tests w K cap P l) (hl : l.length ≤ 65535) (hv : Lies w 5 v (l.map Rc.cells)) :
  Calls Tryz.prog 153 #[v, .func (.func K) #[] cap] w fun e w' => ∃ (a : Option Addr) (c : Nat), e = .returned (.slice a (l.filter P).length c) ∧ Hid (OL w w' (l.filter P) (.slice a (l.filter P).length c)) := by
 obtain ⟨i0, hi, hz0, hz1, hz2⟩ := info_parts rI0
 obtain ⟨av, cv, rfl, -, hv⟩ := hv
 rw [List.length_map]
 have HV := hide hv
 have HCL := hide hcl
 unfold Enters at hent
 have H0 : Hid (OL w w [] (.slice none 0 0)) := ⟨Below.refl _ _, World.ownsRow_nil _ _ _ _, fun g hg => by cases hg⟩
 clear hv hcl
 go_enter Tryz.func153, Tryz.ntmps153
 go_wp2_with fail
 go_loopw [5, 10] (fun u i wr => ∃ (k : Nat) (xs : List Rc) (a : Option Addr) (c : Nat), u = .slice a xs.length c ∧ i = .int .i64 k ∧ k ≤ l.length ∧ xs.length ≤ k ∧ Hid (xs = (l.take k).filter P) ∧ Hid (OL w wr xs (.slice a xs.length c))) (fun _ i _ => l.length - (intOf i).toNat)
 case atStart => exact ⟨0, [], none, 0, rfl, rfl, Nat.zero_le _, by simp, rfl, H0.out⟩
 case round =>
  obtain ⟨k, xs, a, c, rfl, rfl, hk, hxl, HX, HO⟩ := hrel
  by_cases hin : k < l.length
  ·obtain ⟨r, hr⟩ : ∃ r, l[k]? = some r := ⟨_, List.getElem?_eq_getElem hin⟩
   rcases HV.out with he | ⟨b, off, rfl, hbl, hc⟩
   ·exfalso; have := congrArg List.length he; simp at this; subst this; simp at hin
   obtain ⟨c0, c1, c2, c3, c4⟩ := Lies.rat hc hr
   have HM := hide (List.mem_of_getElem? hr)
   have HTK : Hid ((l.take (k + 1)).filter P = xs ++ [r].filter P) := by
    unfold Hid
    rw [take_snoc l k r hr, List.filter_append, HX.out]
   have t1 : ∀ o u, w.cell? ⟨b, o, none⟩ = some u → wr.cell? ⟨b, o, none⟩ = some u := fun o u => cell_of_heap (HO.out.below.block b hbl)
   replace c0 := t1 _ _ c0
   replace c1 := t1 _ _ c1
   replace c2 := t1 _ _ c2
   replace c3 := t1 _ _ c3
   replace c4 := t1 _ _ c4
   have hwz := HO.out.below.size
   have HOa : Hid (OL w (wr.alloc (.cells #[.string r.name, .int .u16 r.kind, .int .u16 r.cls, .int .u32 r.ttl, .string r.data] 69)) xs (.slice a xs.length c)) := ⟨HO.out.below.alloc hwz _, HO.out.own.alloc _, HO.out.new⟩
   have HR := hide (heap_new wr (.cells #[.string r.name, .int .u16 r.kind, .int .u16 r.cls, .int .u32 r.ttl, .string r.data] 69))
   obtain ⟨nm, kd, cl, tt, dt⟩ := r
   dsimp only at c0 c1 c2 c3 c4 HOa HR
   clear hc hr t1
   go_wp2_with fail
   refine (HCL.out _ ⟨nm, kd, cl, tt, dt⟩ HM.out HOa.out.below).mono ?_
   rintro e w2 ⟨rfl, HB2⟩
   have HO2 : Hid (OL w w2 xs (.slice a xs.length c)) := ⟨HOa.out.below.trans (HB2.out.mono HOa.out.below.size), own_below HOa.out.own HB2.out, HOa.out.new⟩
   have HR2 := hide ((HB2.out.block _ (heap_lt HR.out)).trans HR.out)
   clear HB2 HOa HR c0 c1 c2 c3 c4
   have hcr := box_cells HR2.out
   by_cases hp : P ⟨nm, kd, cl, tt, dt⟩ = true
   ·rw [hp]
    have HP := hide hp
    clear hp
    go_wp2_with (at_builtin; refine wpList_append_grew _ rfl _ _ 28 rfl 69 i0 _ 5 40 uRs hi hz0 hz1 hz2 rfl (by decide) (.slice a xs.length c) xs.length ((xs.map Rc.cells).flatten) rfl ⟨w2.heap.size, 0, none⟩ 1 1 [.string nm, .int .u16 kd, .int .u16 cl, .int .u32 tt, .string dt] rfl rfl one_r5 (HO2.out.own.alloc _) (cells_new w2 #[.string nm, .int .u16 kd, .int .u16 cl, .int .u32 tt, .string dt] _) (by unfold maxLen; omega) (by omega) ?_; intro v5 w5 g5; obtain ⟨a5, c5, rfl⟩ := own_slice g5.own; have HG5 := hide g5; clear g5)
    have hlen : (xs ++ [(⟨nm, kd, cl, tt, dt⟩ : Rc)]).length = xs.length + 1 := by simp
    refine ⟨⟨k + 1, xs ++ [⟨nm, kd, cl, tt, dt⟩], a5, c5, by rw [hlen], by go_num, by omega, by rw [hlen]; omega, ?_, ?_⟩, by simp [intOf]; omega⟩
    ·unfold Hid
     rw [HTK.out, List.filter_cons_of_pos HP.out, List.filter_nil]
    ·rw [hlen]
     exact HO2.out.next HG5.out
   ·have hp2 : P ⟨nm, kd, cl, tt, dt⟩ = false := by simpa using hp
    rw [hp2]
    have HP := hide hp
    clear hp hp2
    go_wp2_with fail
    refine ⟨⟨k + 1, xs, a, c, rfl, by go_num, by omega, by omega, ?_, HO2.out⟩, by simp [intOf]; omega⟩
    unfold Hid
    rw [HTK.out, List.filter_cons_of_neg HP.out, List.filter_nil, List.append_nil]
  ·go_wp2_with fail
   go_ret
   have e : xs = l.filter P := by rw [HX.out, List.take_of_length_le (by omega)]
   subst e
   exact ⟨_, _, rfl, HO.out⟩
attribute [local go_sem] mf
def credB (zone : ByteArray) (r : Rc) : Bool := decide (r.cls = 1) && liesB r.name zone
def kindB (name : ByteArray) (kind : Int) (r : Rc) : Bool := decide (r.kind = kind) && sameB r.name name
theorem cred1_any (W : World) (r : Rc) (cb blk : Nat) (zone : ByteArray) (hcb : W.cell? ⟨cb, 0, none⟩ = some (.pointer (some ⟨blk, 0, none⟩))) (hz : W.cell? ⟨blk, 4, none⟩ = some (.string zone)) (hbl : cb < W.heap.size) (hbk : blk < W.heap.size) (hn : nameB r.name = true) (hzn : nameB zone = true) :
  Calls Tryz.prog 154 #[.agg #[.string r.name, .int .u16 r.kind, .int .u16 r.cls, .int .u32 r.ttl, .string r.data], .pointer (some ⟨cb, 0, none⟩)] W fun e w' => e = .returned (.bool (credB zone r)) ∧ Hid (Below W.heap.size W w') := by
 have hb1 := (Below.refl W.heap.size W).alloc (Nat.le_refl _) (.cells #[.string r.name, .int .u16 r.kind, .int .u16 r.cls, .int .u32 r.ttl, .string r.data] 69)
 have hcb1 := cell_of_heap (hb1.block cb hbl) hcb
 have hz1 := cell_of_heap (hb1.block blk hbk) hz
 have hcr := box_cells (heap_new W (.cells #[.string r.name, .int .u16 r.kind, .int .u16 r.cls, .int .u32 r.ttl, .string r.data] 69))
 have HB := hide hb1
 have HN := hide hn
 have HZ := hide hzn
 obtain ⟨nm, kd, cl, tt, dt⟩ := r
 dsimp only at *
 clear hb1 hcb hz hn hzn
 by_cases hcls : cl = 1
 ·subst hcls
  have HC : Hid (credB zone ⟨nm, kd, 1, tt, dt⟩ = liesB nm zone) := by simp [Hid, credB]
  go_enter Tryz.func154, Tryz.ntmps154
  go_wp2_with fail
  generalize W.alloc _ = W1 at HB hcb1 hz1 hcr ⊢
  go_region_held3 (fun w' => w'.cell? ⟨W.heap.size, 2, none⟩ = some (.int .u16 1) ∧ w'.cell? ⟨W.heap.size, 0, none⟩ = some (.string nm) ∧ w'.cell? ⟨cb, 0, none⟩ = some (.pointer (some ⟨blk, 0, none⟩)) ∧ w'.cell? ⟨blk, 4, none⟩ = some (.string zone)) (first | (go_keep; done) | exact hs5) (first | (go_at_call 155; refine (q_liesIn nm zone HN.out HZ.out W1.drew).mono ?_; rintro e w5 ⟨rfl, n5, hw5⟩; have hs5 : w5.cell? ⟨W.heap.size, 2, none⟩ = some (.int .u16 1) ∧ w5.cell? ⟨W.heap.size, 0, none⟩ = some (.string nm) ∧ w5.cell? ⟨cb, 0, none⟩ = some (.pointer (some ⟨blk, 0, none⟩)) ∧ w5.cell? ⟨blk, 4, none⟩ = some (.string zone) := by rw [hw5]; exact ⟨hcr 2, hcr 0, hcb1, hz1⟩))
  clear hcr hcb1 hz1 hs5 hw5
  have HB5 := hide (below_drewN HB.out (1 + n5))
  go_wp2_with fail
  go_ret
  exact ⟨ret_bool HC.out.symm, HB5.out⟩
 ·have HC : Hid (credB zone ⟨nm, kd, cl, tt, dt⟩ = false) := by simp [Hid, credB, hcls]
  have hb : ((cl : Int) == 1) = false := by simp; exact hcls
  go_enter Tryz.func154, Tryz.ntmps154
  go_wp2_with fail
  generalize W.alloc _ = W1 at HB hcb1 hz1 hcr ⊢
  go_quiet (fail)
  go_wp2_with fail
  go_ret
  exact ⟨ret_bool HC.out.symm, below_drewN HB.out _⟩
theorem of1_any (W : World) (r : Rc) (kb nb : Nat) (kind : Int) (name : ByteArray) (hkb : W.cell? ⟨kb, 0, none⟩ = some (.int .u16 kind)) (hnb : W.cell? ⟨nb, 0, none⟩ = some (.string name)) (hbl : kb < W.heap.size) (hbk : nb < W.heap.size) (hn : r.name.size ≤ 2097152) :
  Calls Tryz.prog 156 #[.agg #[.string r.name, .int .u16 r.kind, .int .u16 r.cls, .int .u32 r.ttl, .string r.data], .pointer (some ⟨kb, 0, none⟩), .pointer (some ⟨nb, 0, none⟩)] W fun e w' => e = .returned (.bool (kindB name kind r)) ∧ Hid (Below W.heap.size W w') := by
 have hb1 := (Below.refl W.heap.size W).alloc (Nat.le_refl _) (.cells #[.string r.name, .int .u16 r.kind, .int .u16 r.cls, .int .u32 r.ttl, .string r.data] 69)
 have hkb1 := cell_of_heap (hb1.block kb hbl) hkb
 have hnb1 := cell_of_heap (hb1.block nb hbk) hnb
 have HB := hide hb1
 obtain ⟨nm, kd, cl, tt, dt⟩ := r
 dsimp only at *
 clear hb1 hkb hnb
 by_cases hk : kd = kind
 ·subst hk
  have HC : Hid (kindB name kd ⟨nm, kd, cl, tt, dt⟩ = sameB nm name) := by simp [Hid, kindB]
  go_enter Tryz.func156, Tryz.ntmps156
  go_wp2_with fail
  refine (q_same nm name hn _).mono ?_
  rintro e w5 ⟨rfl, n5, hw5⟩
  have HB5 : Hid (Below W.heap.size W w5) := by rw [hw5]; exact below_drewN HB.out n5
  clear hw5
  go_wp2_with fail
  go_ret
  exact ⟨ret_bool HC.out.symm, HB5.out⟩
 ·have HC : Hid (kindB name kind ⟨nm, kd, cl, tt, dt⟩ = false) := by simp [Hid, kindB, hk]
  have hb : ((kd : Int) == kind) = false := by simp; exact hk
  go_enter Tryz.func156, Tryz.ntmps156
  go_wp2_with fail
  go_ret
  exact ⟨ret_bool HC.out.symm, HB.out⟩
theorem ent_cred : Enters Tryz.prog 154 := enters_of Tryz.func154 (by kernel_rfl) rfl
theorem ent_of : Enters Tryz.prog 156 := enters_of Tryz.func156 (by kernel_rfl) rfl
theorem OL.before {w w1 wr : World} {xs : List Rc} {v : Value} (hb : Below w.heap.size w w1) (h : OL w1 wr xs v) : OL w wr xs v := ⟨hb.trans (h.below.mono hb.size), h.own, fun g hg => Nat.le_trans hb.size (h.new g hg)⟩
theorem q_credible (w : World) (c : QC) (r : List QC) (v : Value) (l : List Rc) (h : Chain w (c :: r)) (hz : nameB c.ch.zone = true) (hl : l.length ≤ 65535) (hnm : ∀ x ∈ l, nameB x.name = true) (hv : Lies w 5 v (l.map Rc.cells)) :
  Calls Tryz.prog 118 #[.pointer (some ⟨c.blk, 0, none⟩), v] w fun e w' => ∃ (a : Option Addr) (k : Nat), e = .returned (.slice a (l.filter (credB c.ch.zone)).length k) ∧ Hid (OL w w' (l.filter (credB c.ch.zone)) (.slice a (l.filter (credB c.ch.zone)).length k)) := by
 have hb1 := (Below.refl w.heap.size w).alloc (Nat.le_refl _) (.cells #[.pointer (some ⟨c.blk, 0, none⟩)] 146)
 have hx1 := heap_new w (.cells #[.pointer (some ⟨c.blk, 0, none⟩)] 146)
 have hc1 := (hb1.block _ (heap_lt h.1)).trans h.1
 have HT : Hid (Tests (w.alloc (.cells #[.pointer (some ⟨c.blk, 0, none⟩)] 146)) 154 #[.pointer (some ⟨w.heap.size, 0, none⟩)] (credB c.ch.zone) l) := by
  intro W x hx hb
  have e1 := (hb.block _ (heap_lt hx1)).trans hx1
  have e2 := (hb.block _ (heap_lt hc1)).trans hc1
  exact cred1_any W x w.heap.size c.blk c.ch.zone ((box_cells e1 0).trans rfl) ((box_cells e2 4).trans rfl) (heap_lt e1) (heap_lt e2) (hnm x hx) hz
 have HB := hide hb1
 have HV := hide (hv.below hb1)
 obtain ⟨av, cv, rfl, _⟩ := hv
 clear hb1 hx1 hc1 h
 rw [List.length_map] at HV ⊢
 go_enter Tryz.func118, Tryz.ntmps118
 go_wp2_with fail
 refine (only_any _ _ l 154 #[.pointer (some ⟨w.heap.size, 0, none⟩)] (credB c.ch.zone) ent_cred HT.out hl HV.out).mono ?_
 rintro e w2 ⟨a2, c2, rfl, H2⟩
 go_wp2_with fail
 go_ret
 exact ⟨a2, c2, rfl, H2.out.before HB.out⟩
theorem q_of (w : World) (v : Value) (l : List Rc) (name : ByteArray) (kind : Int) (hl : l.length ≤ 65535) (hnm : ∀ x ∈ l, x.name.size ≤ 2097152) (hv : Lies w 5 v (l.map Rc.cells)) :
  Calls Tryz.prog 119 #[v, .string name, .int .u16 kind] w fun e w' => ∃ (a : Option Addr) (k : Nat), e = .returned (.slice a (l.filter (kindB name kind)).length k) ∧ Hid (OL w w' (l.filter (kindB name kind)) (.slice a (l.filter (kindB name kind)).length k)) := by
 have hb1 : Below w.heap.size w ((w.alloc (.cells #[.string name] 9)).alloc (.cells #[.int .u16 kind] 26)) := ((Below.refl _ _).alloc (Nat.le_refl _) _).alloc (by rw [alloc_size]; omega) _
 have hx1 := heap_old (heap_new w (.cells #[.string name] 9)) (.cells #[.int .u16 kind] 26)
 have hx2 := heap_new (w.alloc (.cells #[.string name] 9)) (.cells #[.int .u16 kind] 26)
 rw [alloc_size] at hx2
 have HT : Hid (Tests ((w.alloc (.cells #[.string name] 9)).alloc (.cells #[.int .u16 kind] 26)) 156 #[.pointer (some ⟨w.heap.size + 1, 0, none⟩), .pointer (some ⟨w.heap.size, 0, none⟩)] (kindB name kind) l) := by
  intro W x hx hb
  have e1 := (hb.block _ (heap_lt hx1)).trans hx1
  have e2 := (hb.block _ (heap_lt hx2)).trans hx2
  exact of1_any W x (w.heap.size + 1) w.heap.size kind name ((box_cells e2 0).trans rfl) ((box_cells e1 0).trans rfl) (heap_lt e2) (heap_lt e1) (hnm x hx)
 have HB := hide hb1
 have HV := hide (hv.below hb1)
 obtain ⟨av, cv, rfl, _⟩ := hv
 clear hb1 hx1 hx2
 rw [List.length_map] at HV ⊢
 go_enter Tryz.func119, Tryz.ntmps119
 go_wp2_with fail
 refine (only_any _ _ l 156 #[.pointer (some ⟨w.heap.size + 1, 0, none⟩), .pointer (some ⟨w.heap.size, 0, none⟩)] (kindB name kind) ent_of HT.out hl HV.out).mono ?_
 rintro e w2 ⟨a2, c2, rfl, H2⟩
 go_wp2_with fail
 go_ret
 exact ⟨a2, c2, rfl, H2.out.before HB.out⟩
end Go.Proofs.YtafoepfhepdcoaaGreat
