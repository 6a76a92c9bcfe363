import Derived.Test.YtafoepfhepdcoaaGreatM32
import Derived.Shelf.Abstract
set_option maxRecDepth 100000
set_option maxHeartbeats 8000000
namespace Go.Proofs.YtafoepfhepdcoaaGreat
open Go.RowKit Go.Trawl
attribute [local go_sem] mf buildX0 buildX3 buildMq
theorem lies_box {w : World} {sz b : Nat} {cs : Array Value} {t : TypeId} (h : w.heap[b]? = some (.cells cs t)) {l : List Value} (hl : l = cs.toList) : Lies w sz (.slice (some ⟨b, 0, none⟩) 1 1) [l] := by
 refine ⟨some ⟨b, 0, none⟩, 1, rfl, (fun e => by cases e), .inr ⟨b, 0, rfl, hl_ h, fun i e hi j u hj => ?_⟩⟩
 cases i with
 | zero =>
  cases hi
  rw [bc_ h, hl] at *
  simpa using hj
 | succ i => cases hi
def askedQ (s : QSt) (c : Ch) (r : List Ch) : QSt := { s with ch := { c with sent := c.sent + 1 } :: r, sent := s.sent + 1, id := nextId s.id }
theorem askM_wf {i : Int} (h0 : 0 ≤ i) (h1 : i ≤ 65535) {c : Ch} (hn : c.name.size ≤ 2097152) (k0 : 0 ≤ c.kind) (k1 : c.kind ≤ 65535) : WfM (askM i c) := by
 refine ⟨h0, h1, by simp [askM], by simp [askM], by simp [askM], by simp [askM], by simp [askM], by simp [askM], by simp [askM], by simp [askM], fun q hq => ?_, by simp [askM, recs]⟩
 simp only [askM, List.mem_singleton] at hq
 subst hq
 exact ⟨hn, k0, k1, by show (0 : Int) ≤ 1; decide, by show (1 : Int) ≤ 65535; decide⟩
theorem send_goes (w : World) (sb : Nat) (s : QSt) (V : QV) (c : QC) (r : List QC) (h : QAt w sb s V (c :: r)) (hok : QOk s) (hne : c.ch.servers ≠ []) (ht : ¬ (c.ch.sent : Int) = s.t) (hb : ¬ (s.sent : Int) = s.b) :
  Calls Tryz.prog 162 #[.pointer (some ⟨sb, 0, none⟩)] w (QTells w sb V (c :: r) (askedQ s c.ch (r.map QC.ch), (1, toOf c.ch, packL (askM (nextId s.id) c.ch)))) := by
 have H := hide h
 have HLT := hide h.lt
 have hch : s.ch = c.ch :: r.map QC.ch := h.chs.symm
 have hC := hok.chs c.ch (by rw [hch]; simp)
 have hsn := hC.sent
 have hsv := hC.servers
 have ht1 := hok.t1
 have hb1' := hok.b1
 have hse := hok.sent
 have hid0 := hok.id0
 have hid1 := hok.id1
 have HWM : Hid (WfM (askM (nextId s.id) c.ch)) := askM_wf (by unfold nextId; omega) (by unfold nextId; omega) (by have := nameB_size hC.name; omega) hC.k0 hC.k1
 have hb1 := (Below.refl w.heap.size w).alloc (Nat.le_refl _) (.cells #[.int .i64 0, .int .u32 0, .slice none 0 0] 59)
 have h1 := h.below hb1
 have hc := bc_ h1.box
 simp only [qCells, chPtr] at hc
 have hcc := bc_ h1.chain.1
 simp only [qcCells] at hcc
 have hl1 := h.slt
 have hl2 : c.blk < w.heap.size := hl_ h.chain.1
 have hnb := h.chain.nsb h.box c (by simp)
 have hz : ((c.ch.sent : Int) == s.t) = false := by simp; exact ht
 have hz2 : ((s.sent : Int) == s.b) = false := by simp; exact hb
 have H1 := hide h1
 have HB1 := hide hb1
 have HX1 := hide (hn_ w (.cells #[.int .i64 0, .int .u32 0, .slice none 0 0] 59))
 clear h h1 hb1 hC hok hch
 obtain ⟨L, hL⟩ : ∃ L, L = packL (askM (nextId s.id) c.ch) := ⟨_, rfl⟩
 rw [← hL]
 have HL := hide hL
 clear hL
 unfold QTells
 obtain ⟨ch, blk, vs, vn⟩ := c
 obtain ⟨nm, kd, zn, sv, sn, ns⟩ := ch
 dsimp only at *
 go_enter Tryz.func162, Tryz.ntmps162
 go_wp2_with (with_reducible refine stop_load _ (.tmp 10) rfl ?_)
 unfold Stopped
 generalize w.alloc (.cells #[.int .i64 0, .int .u32 0, .slice none 0 0] 59) = W1 at hc hcc H1 HB1 HX1 ⊢
 go_wp2_with fail
 go_quiet (fail)
 go_wp2_with fail
 go_quiet (fail)
 generalize hWD : World.drewN _ _ = WD
 have hb2 : Below W1.heap.size W1 WD := by rw [← hWD]; first | exact below_drewN (below_drewN (Below.refl _ _) _) _ | exact below_drewN (Below.refl _ _) _
 clear hWD hc hcc
 have H2 := hide (H1.out.below hb2)
 have HX2 := hide ((hb2.block _ (hl_ HX1.out)).trans HX1.out)
 have HB2 := hide (HB1.out.trans (hb2.mono HB1.out.size))
 clear hb2 H1 HX1 HB1
 have hcc := bc_ H2.out.chain.1
 simp only [qcCells] at hcc
 go_wp2_with fail
 refine (q_server WD ⟨⟨nm, kd, zn, sv, sn, ns⟩, blk, vs, vn⟩ r sn H2.out.chain hne (by omega) hsv).mono ?_
 rintro e w3 ⟨rfl, k3, hw3⟩
 have hb3 : Below WD.heap.size WD w3 := by rw [hw3]; exact below_drewN (Below.refl _ _) _
 have H3 := hide (H2.out.below hb3)
 have HX3 := hide ((hb3.block _ (hl_ HX2.out)).trans HX2.out)
 have HB3 := hide (HB2.out.trans (hb3.mono HB2.out.size))
 clear hb3 H2 HX2 HB2 hw3 hcc
 have hto : sv.getD (sn % sv.length) 0 = toOf ⟨nm, kd, zn, sv, sn, ns⟩ := rfl
 dsimp only
 rw [hto]
 clear hto
 generalize hto : toOf ⟨nm, kd, zn, sv, sn, ns⟩ = to
 have HTO := hide hto
 clear hto
 have hcc := bc_ H3.out.chain.1
 have hfc := fz_ H3.out.chain.1
 simp only [qcCells] at hcc
 have hc := bc_ H3.out.box
 have hf := fz_ H3.out.box
 simp only [qCells, chPtr] at hc
 have n1 : ¬ blk = sb := hnb
 have n2 : ¬ sb = blk := fun e => hnb e.symm
 have H4 := H3.out.hset ⟨⟨nm, kd, zn, sv, sn + 1, ns⟩, blk, vs, vn⟩ rfl 7 (.int .i64 ((sn : Int) + 1)) (by simp [qcCells]) H3.out.chain.2.1 H3.out.chain.2.2.1 H3.out.chain.2.2.2.1 (fun k e => by
  rcases e with e | e
  ·exact H3.out.vs e
  ·exact H3.out.vn e)
 have H5 := H4.set (s' := { s with ch := ⟨nm, kd, zn, sv, sn + 1, ns⟩ :: r.map QC.ch, sent := s.sent + 1 }) 8 (.int .i64 ((s.sent : Int) + 1)) (by simp [qCells]) rfl rfl rfl rfl
 have H6 := hide (H5.set (s' := askedQ s ⟨nm, kd, zn, sv, sn, ns⟩ (r.map QC.ch)) 5 (.int .u16 (nextId s.id)) (by simp [qCells, askedQ, nextId]) rfl rfl rfl rfl)
 have hO6 : ∀ i, V.owns (⟨⟨nm, kd, zn, sv, sn + 1, ns⟩, blk, vs, vn⟩ :: r) sb i → V.owns (⟨⟨nm, kd, zn, sv, sn, ns⟩, blk, vs, vn⟩ :: r) sb i := fun i hi => by
  rcases owns_head (c := ⟨⟨nm, kd, zn, sv, sn, ns⟩, blk, vs, vn⟩) (c' := ⟨⟨nm, kd, zn, sv, sn + 1, ns⟩, blk, vs, vn⟩) rfl hi with e | e | e
  ·exact e
  ·exact own_vs (c := ⟨⟨nm, kd, zn, sv, sn, ns⟩, blk, vs, vn⟩) e
  ·exact own_vn (c := ⟨⟨nm, kd, zn, sv, sn, ns⟩, blk, vs, vn⟩) e
 have HO6 := hide hO6
 have HF6 := hide ((((Fr.of_below HB3.out (V.owns (⟨⟨nm, kd, zn, sv, sn, ns⟩, blk, vs, vn⟩ :: r) sb)).turn (O' := V.owns (⟨⟨nm, kd, zn, sv, sn, ns⟩, blk, vs, vn⟩ :: r) sb) (gs_ w3 blk 7 (.int .i64 ((sn : Int) + 1))) (.inl (.inl (.inr (.inr ⟨_, List.mem_cons_self, rfl⟩)))) (fun i hi => .inl hi)).trans (Fr.self _ 8 (.int .i64 ((s.sent : Int) + 1)))).turn (O' := V.owns (⟨⟨nm, kd, zn, sv, sn + 1, ns⟩, blk, vs, vn⟩ :: r) sb) (gs_ _ sb 5 (.int .u16 (nextId s.id))) (.inl (.inl (.inl rfl))) (fun i hi => .inl (hO6 i hi)))
 have HX6 := hide (((Below.heap_setCell _ ⟨sb, 5, none⟩ (.int .u16 (nextId s.id)) w.heap.size (by show w.heap.size ≠ sb; omega)).trans ((Below.heap_setCell _ ⟨sb, 8, none⟩ (.int .i64 ((s.sent : Int) + 1)) w.heap.size (by show w.heap.size ≠ sb; omega)).trans (Below.heap_setCell w3 ⟨blk, 7, none⟩ (.int .i64 ((sn : Int) + 1)) w.heap.size (by show w.heap.size ≠ blk; omega)))).trans HX3.out)
 have hnx : IntKind.u16.wrap (s.id + 1) = nextId s.id := by rw [IntKind.wrap_u16]; rfl
 clear H4 H5 hO6
 go_wp2_with fail
 generalize (World.setCell _ ⟨sb, 5, none⟩ _) = W6 at H6 HF6 HX6 ⊢
 clear hcc hfc hc hf H3 HX3 HB3 hnx
 have hc6 := bc_ H6.out.box
 simp only [qCells, chPtr, askedQ] at hc6
 have HC6 : Hid (∀ w', Below W6.heap.size W6 w' → w'.cell? ⟨sb, 5, none⟩ = some (.int .u16 (nextId s.id))) := fun w' hb => ((bc_ (H6.out.below hb).box) 5).trans rfl
 have hzl : w.heap.size < W6.heap.size := hl_ HX6.out
 go_region_held3 (fun w' => w'.cell? ⟨sb, 5, none⟩ = some (.int .u16 (nextId s.id))) (first | (go_keep; done) | exact hs7 | exact hs9) (first | (go_at_call 115; refine (q_question W6.drew ⟨⟨nm, kd, zn, sv, sn + 1, ns⟩, blk, vs, vn⟩ r (H6.out.below (below_drewN (Below.refl _ _) 1)).chain).mono ?_; rintro e w7 ⟨rfl, HB7⟩; have hs7 := HC6.out w7 ((below_drewN (Below.refl _ W6) 1).trans HB7.out); dsimp only) | (go_at_call 30; refine (wpack2 (askM (nextId s.id) ⟨nm, kd, zn, sv, sn, ns⟩) (.slice (some ⟨w7.heap.size, 0, none⟩) 1 1) (.slice none 0 0) (.slice none 0 0) (.slice none 0 0) _ HWM.out ⟨lies_box (hn_ w7 (.cells #[.string nm, .int .u16 kd, .int .u16 1] 41)) rfl, liesNil _ _, liesNil _ _, liesNil _ _⟩).mono ?_; rintro e w9 ⟨hb9, a9, c9, rfl, ho9⟩; have HB9 := hide (((below_drewN (Below.refl _ W6) 1).trans HB7.out).trans (((Below.refl _ w7).alloc (Nat.le_refl _) (.cells #[.string nm, .int .u16 kd, .int .u16 1] 41)).trans (hb9.mono (by rw [as_]; omega)) |>.mono HB7.out.size)); have hs9 := HC6.out w9 HB9.out))
 clear hc6 hs7 hs9 HC6
 have hz7 := HB7.out.size
 have hnw : ∀ k, (Value.slice a9 (packL (askM (nextId s.id) ⟨nm, kd, zn, sv, sn, ns⟩)).length c9).ownBlock = some k → W6.heap.size ≤ k := fun k e => by have := (ho9.lt k e).1; rw [as_] at this; have : W6.drew.heap.size = W6.heap.size := rfl; omega
 rw [← HL.out] at hnw ho9 ⊢
 have HO9 := hide (own_zero ho9)
 have HX9 := hide ((HB9.out.block _ hzl).trans HX6.out)
 have hcz := bc_ HX9.out
 have hfz := fz_ HX9.out
 clear ho9 hb9
 go_wp2_with fail
 clear hcz hfz
 refine bodyPost_ret (results_cell_row rfl _ _ w.heap.size _ _ _ _ rfl (pb_ (.int .i64 1) (.int .u32 to) (.slice a9 L.length c9) HX9.out) undXs rfl (by kernel_rfl)) rfl ?_
 have hG := pg_ w9 w.heap.size (.int .i64 1) (.int .u32 to) (.slice a9 L.length c9)
 have hl6 : ∀ k, V.owns (⟨⟨nm, kd, zn, sv, sn + 1, ns⟩, blk, vs, vn⟩ :: r) sb k → k < w.heap.size := fun k e => HLT.out k (HO6.out k e)
 exact ⟨a9, c9, by rw [HTO.out]; rfl, V, _, (H6.out.below HB9.out).aside hG (fun e => by have := hl6 _ e; omega), (HF6.out.trans (Fr.of_below HB9.out _)).write hG (Nat.le_refl _), own_grown HO9.out hG (fun e => by have := hnw _ e; omega), fun k e => ⟨by have := hnw k e; omega, fun e2 => by have := hl6 _ e2; have := hnw k e; omega⟩⟩
theorem q_send (w : World) (sb : Nat) (s : QSt) (V : QV) (c : QC) (r : List QC) (h : QAt w sb s V (c :: r)) (hok : QOk s) (hne : c.ch.servers ≠ []) :
  Calls Tryz.prog 162 #[.pointer (some ⟨sb, 0, none⟩)] w (QTells w sb V (c :: r) (sendQ s)) := by
 have hch : s.ch = c.ch :: r.map QC.ch := h.chs.symm
 by_cases ht : (c.ch.sent : Int) = s.t
 ·have e : sendQ s = ({ s with ph := .fail }, noOut) := by unfold sendQ; rw [hch]; simp [ht]
  rw [e]
  exact send_tried w sb s V c r h ht
 ·by_cases hb : (s.sent : Int) = s.b
  ·have e : sendQ s = ({ s with ph := .failAll }, noOut) := by unfold sendQ; rw [hch]; simp [ht, hb]
   rw [e]
   exact send_spent w sb s V c r h ht hb
  ·have e : sendQ s = (askedQ s c.ch (r.map QC.ch), (1, toOf c.ch, packL (askM (nextId s.id) c.ch))) := by unfold sendQ askedQ; rw [hch]; simp [ht, hb]
   rw [e]
   exact send_goes w sb s V c r h hok hne ht hb
end Go.Proofs.YtafoepfhepdcoaaGreat
namespace Go.Proofs.YtafoepfhepdcoaaGreat
open Go.RowKit Go.Trawl
theorem ex_least {P : Nat → Prop} (h : ∃ n, P n) : ∃ n, P n ∧ ∀ m, P m → n ≤ m := by
 obtain ⟨n, hn⟩ := h
 induction n using Nat.strongRecOn with
 | _ n ih =>
  by_cases hm : ∃ m, m < n ∧ P m
  ·obtain ⟨m, h1, h2⟩ := hm
   exact ih m h1 h2
  ·exact ⟨n, hn, fun m h => Classical.byContradiction fun hc => hm ⟨m, by omega, h⟩⟩
open Classical in
noncomputable def least (P : Nat → Prop) : Nat := if h : ∃ n, P n then Classical.choose (ex_least h) else 0
theorem least_at {P : Nat → Prop} (h : ∃ n, P n) : P (least P) := by
 unfold least
 rw [dif_pos h]
 exact (Classical.choose_spec (ex_least h)).1
theorem least_le {P : Nat → Prop} {m : Nat} (h : P m) : least P ≤ m := by
 unfold least
 rw [dif_pos ⟨m, h⟩]
 exact (Classical.choose_spec (ex_least ⟨m, h⟩)).2 m h
theorem q_next (w : World) (sb : Nat) (s : QSt) (V : QV) (cs : List QC) (h : QAt w sb s V cs) (hok : QOk s) (hp : s.ph ≠ .idle) :
  ∃ k, nextV sb s.ph = .func (.func k) #[.pointer (some ⟨sb, 0, none⟩)] #[] ∧ Enters Tryz.prog k ∧ Calls Tryz.prog k #[.pointer (some ⟨sb, 0, none⟩)] w (QTells w sb V cs (stepQ s)) := by
 obtain ⟨hne, hrp, _⟩ := hok.busy hp
 obtain ⟨c, r, rfl⟩ : ∃ c r, cs = c :: r := by
  cases cs with
  | nil => exact absurd h.chs.symm hne
  | cons c r => exact ⟨c, r, rfl⟩
 have hch : s.ch = c.ch :: r.map QC.ch := h.chs.symm
 have hfew := hok.few
 unfold stepQ
 cases hph : s.ph with
 | idle => exact absurd hph hp
 | send => exact ⟨_, rfl, enters_of Tryz.func162 (by kernel_rfl) rfl, q_send w sb s V c r h hok (hok.srv hph _ _ hch)⟩
 | fail =>
  have := hok.an (by rw [hph]; simp)
  have := hok.c1
  exact ⟨_, rfl, enters_of Tryz.func163 (by kernel_rfl) rfl, q_fail w sb s V c r h (by omega)⟩
 | failAll =>
  have := hok.an (by rw [hph]; simp)
  have := hok.c1
  exact ⟨_, rfl, enters_of Tryz.func175 (by kernel_rfl) rfl, q_failAll w sb s V (c :: r) h (by omega)⟩
 | seek => exact ⟨_, rfl, enters_of Tryz.func124 (by kernel_rfl) rfl, q_seek w sb s V c r h hok⟩
 | finish => exact ⟨_, rfl, enters_of Tryz.func171 (by kernel_rfl) rfl, q_finish w sb s V (c :: r) h hok hrp⟩
def GoSt (w0 : World) (sb : Nat) (O : Nat → Prop) (p : QSt × QOut) (wr : World) (n : Nat) : Prop :=
 ∃ s V cs, goes n s = some p ∧ QAt wr sb s V cs ∧ QOk s ∧ s.ph ≠ .idle ∧ Fr w0 wr O (V.owns cs sb) ∧ wr.heap[w0.heap.size]? = some (.cells zX 59) ∧ ¬ V.owns cs sb w0.heap.size
theorem stepQ_busy {s : QSt} (hp : s.ph ≠ .idle) (h0 : (stepQ s).2.1 = 0) : (stepQ s).1.ph ≠ .idle := by
 unfold stepQ at h0 ⊢
 split at h0
 ·rename_i e; exact absurd e hp
 ·rename_i e
  unfold sendQ at h0 ⊢
  split
  ·exact hp
  ·split
   ·simp
   ·split
    ·simp
    ·rename_i c r ec h1 h2
     simp only [ec, if_neg h1, if_neg h2] at h0
     exact absurd h0 (by decide)
 ·show (endQ s 2 []).ph ≠ _
  unfold endQ
  split <;> simp [settleQ]
 ·simp [settleQ]
 ·show (seekQ s).ph ≠ _
  unfold seekQ
  split
  ·exact hp
  ·split
   ·simp
   ·split
    ·simp
    ·split <;> simp [startQ]
 ·cases (show (2 : Int) = 0 from h0)
theorem q_goOn (w : World) (sb : Nat) (s : QSt) (V : QV) (cs : List QC) (n : Nat) (p : QSt × QOut) (h : QAt w sb s V cs) (hok : QOk s) (hp : s.ph ≠ .idle) (hg : goes n s = some p) :
  Calls Tryz.prog 78 #[.pointer (some ⟨sb, 0, none⟩)] w (QTells w sb V cs p) := by
 have hb1 := (Below.refl w.heap.size w).alloc (Nat.le_refl _) (.cells zX 59)
 have HLT := hide h.lt
 have H0 : Hid (∃ n, GoSt w sb (V.owns cs sb) p (w.alloc (.cells zX 59)) n) := ⟨n, s, V, cs, hg, h.below hb1, hok, hp, Fr.of_below hb1 _, hn_ w _, fun e => by have := h.lt _ e; omega⟩
 clear h hok hp hg hb1
 unfold QTells
 unfold zX at H0
 go_enter Tryz.func78, Tryz.ntmps78
 go_wp2_with fail
 generalize w.alloc (.cells #[.int .i64 0, .int .u32 0, .slice none 0 0] 59) = W1 at H0 ⊢
 go_loopw [] (fun wr => ∃ n, GoSt w sb (V.owns cs sb) p wr n) (fun wr => least (GoSt w sb (V.owns cs sb) p wr))
 case atStart => exact H0.out
 case round =>
  have hat := least_at hrel
  have HM : Hid (∀ w', GoSt w sb (V.owns cs sb) p w' (least (GoSt w sb (V.owns cs sb) p wr) - 1) → least (GoSt w sb (V.owns cs sb) p w') < least (GoSt w sb (V.owns cs sb) p wr) ∨ least (GoSt w sb (V.owns cs sb) p wr) = 0) := fun w' h => by
   have := least_le h
   omega
  have hm := hat
  generalize least (GoSt w sb (V.owns cs sb) p wr) = m at hm HM ⊢
  clear hat hrel
  obtain ⟨s1, V1, cs1, hg1, h1, ok1, hp1, f1, hx1, hn1⟩ := hm
  obtain ⟨k, hk, hent, hcall⟩ := q_next wr sb s1 V1 cs1 h1 ok1 hp1
  have hc := bc_ h1.box
  simp only [qCells] at hc
  rw [hk] at hc
  unfold Enters at hent
  have H1 := hide h1
  have OK1 := hide ok1
  have HP1 := hide hp1
  have F1 := hide f1
  have HX1 := hide hx1
  have HN1 := hide hn1
  have HG1 := hide hg1
  clear h1 ok1 hp1 f1 hx1 hn1 hg1
  go_wp2_with fail
  refine hcall.mono ?_
  rintro e w2 ⟨a2, c2, rfl, H2⟩
  clear hc hk hcall hent
  obtain ⟨V2, cs2, h2, f2, o2, n2⟩ := H2.out
  have hx2 := f2.stay HX1.out HN1.out
  have hn2 : ¬ V2.owns cs2 sb w.heap.size := fun e => by
   rcases f2.new _ e with e | e
   ·exact HN1.out e
   ·have := hl_ HX1.out; omega
  have HF2 := hide (F1.out.trans f2)
  have HX2 := hide hx2
  have HN2 := hide hn2
  have hz1 := hl_ HX1.out
  cases m with
  | zero => cases HG1.out
  | succ n' =>
  have hg' := HG1.out
  unfold goes at hg'
  by_cases h0 : (stepQ s1).2.1 = 0
  ·rw [if_pos h0] at hg'
   have hb3 := (Below.refl w2.heap.size w2).alloc (Nat.le_refl _) (.cells #[.int .i64 (stepQ s1).2.1, .int .u32 (stepQ s1).2.2.1, .slice a2 (stepQ s1).2.2.2.length c2] 59)
   have HS3 : Hid (GoSt w sb (V.owns cs sb) p (w2.alloc (.cells #[.int .i64 (stepQ s1).2.1, .int .u32 (stepQ s1).2.2.1, .slice a2 (stepQ s1).2.2.2.length c2] 59)) n') := ⟨_, V2, cs2, hg', h2.below hb3, stepQ_ok OK1.out HP1.out, stepQ_busy HP1.out h0, HF2.out.trans (Fr.of_below hb3 _), (hb3.block _ (hl_ hx2)).trans hx2, hn2⟩
   clear h2 f2 o2 n2 hx2 hn2 hg' H2 hb3
   unfold stepX
   generalize (stepQ s1).2.2.2.length = l2 at HS3 ⊢
   generalize (stepQ s1).2.2.1 = t2 at HS3 ⊢
   generalize (stepQ s1).2.1 = k2 at h0 HS3 ⊢
   subst h0
   go_wp2_with fail
   have := HM.out _ (show GoSt _ _ _ _ _ (n' + 1 - 1) from HS3.out)
   exact ⟨⟨_, HS3.out⟩, by omega⟩
  ·rw [if_neg h0] at hg'
   have hpp := Option.some.inj hg'
   have HPP := hide hpp
   have H2' : Hid (∃ V' cs', QAt w2 sb p.1 V' cs' ∧ Fr wr w2 (V1.owns cs1 sb) (V'.owns cs' sb) ∧ w2.ownsRow 0 5 1 (.slice a2 p.2.2.2.length c2) p.2.2.2.length (bytesV p.2.2.2) ∧ ∀ k, (Value.slice a2 p.2.2.2.length c2).ownBlock = some k → wr.heap.size ≤ k ∧ ¬ V'.owns cs' sb k) := by rw [← hpp]; exact H2.out
   rw [hpp]
   rw [hpp] at h0
   clear hg' hpp h2 f2 o2 n2 hx2 hn2 H2
   unfold stepX
   have hb9 : (p.2.1 != 0) = true := by simpa using h0
   have HB3 := hide ((Below.refl w2.heap.size w2).alloc (Nat.le_refl _) (.cells #[.int .i64 p.2.1, .int .u32 p.2.2.1, .slice a2 p.2.2.2.length c2] 59))
   have HX3 := hide (heap_old HX2.out (.cells #[.int .i64 p.2.1, .int .u32 p.2.2.1, .slice a2 p.2.2.2.length c2] 59))
   have hcx := bc_ HX3.out
   have hfx := fz_ HX3.out
   unfold zX at hcx
   go_wp2_with (with_reducible refine stop_store _ (.tmp 2) _ rfl ?_)
   unfold Stopped
   generalize w2.alloc _ = W3 at HB3 HX3 hcx hfx ⊢
   go_wp2_with fail
   clear hcx hfx
   refine bodyPost_ret (results_cell_row rfl _ _ w.heap.size _ _ _ _ rfl (pb_ (.int .i64 p.2.1) (.int .u32 p.2.2.1) (.slice a2 p.2.2.2.length c2) HX3.out) undXs rfl (by kernel_rfl)) rfl ?_
   obtain ⟨V', cs', h3, f3, o3, n3⟩ := H2'.out
   have hG := pg_ W3 w.heap.size (.int .i64 p.2.1) (.int .u32 p.2.2.1) (.slice a2 p.2.2.2.length c2)
   have hno : ¬ V'.owns cs' sb w.heap.size := fun e => by
    rcases f3.new _ e with e | e
    ·exact HN1.out e
    ·omega
   refine ⟨a2, c2, rfl, V', cs', (h3.below HB3.out).aside hG hno, ((F1.out.trans f3).trans (Fr.of_below HB3.out _)).write hG (Nat.le_refl _), own_grown (own_below o3 HB3.out) hG (fun e => ?_), fun k e => ⟨?_, (n3 k e).2⟩⟩
   ·have := (n3 _ e).1; omega
   ·have := (n3 _ e).1; omega
theorem buildMb (i : Int) (wt : Bool) (a : Option Addr) (n c : Nat) (W : World) : (Instr.build 30 #[(0, .int .u16 i), (1, .bool true), (5, .bool wt), (6, .bool true), (8, .slice a n c)]).run Tryz.prog W = .ok (.agg #[.int .u16 i, .bool true, .int .i64 0, .bool false, .bool false, .bool wt, .bool true, .int .i64 0, .slice a n c, .slice none 0 0, .slice none 0 0, .slice none 0 0]) W := run_build W _ _ _ (by kernel_rfl)
attribute [local go_sem] mf buildMb fieldQ0
def replyM (m : Msg) (q : Qn) : Msg := ⟨m.id, true, 0, false, false, m.wanted, true, 0, [q], [], [], []⟩
def beginQ (s : QSt) (m : Msg) (q : Qn) : QSt := startQ { s with reply := replyM m q } (newQ q.name q.kind) []
def repL (m : Msg) (vq : Value) : List Value := [.int .u16 m.id, .bool true, .int .i64 0, .bool false, .bool false, .bool m.wanted, .bool true, .int .i64 0, vq, .slice none 0 0, .slice none 0 0, .slice none 0 0]
theorem QAt.reply {w : World} {sb : Nat} {s : QSt} {V : QV} {cs : List QC} (h : QAt w sb s V cs) (m : Msg) (q : Qn) (vq : Value) (hq : Lies w 3 vq [q.cells]) (hk : ∀ k, vq.ownBlock = some k → k < w.heap.size ∧ ¬ V.owns cs sb k) :
  QAt (putN sb w 9 (repL m vq)) sb { s with reply := replyM m q } ⟨V.vR, vq, .slice none 0 0⟩ cs ∧ ∀ i, QV.owns ⟨V.vR, vq, .slice none 0 0⟩ cs sb i → V.owns cs sb i ∨ vq.ownBlock = some i := by
 have hwr : ∀ i, QV.writes ⟨V.vR, vq, .slice none 0 0⟩ cs sb i → V.writes cs sb i := by
  rintro i (e | e | e)
  ·exact .inl e
  ·cases e
  ·exact .inr (.inr e)
 have how : ∀ i, QV.owns ⟨V.vR, vq, .slice none 0 0⟩ cs sb i → V.owns cs sb i ∨ vq.ownBlock = some i := by
  rintro i (e | ⟨v, hv, e⟩)
  ·exact .inl (.inl (hwr i e))
  ·rcases mr_.1 hv with rfl | rfl | e1
   ·exact .inl (.inr ⟨_, mr_.2 (.inl rfl), e⟩)
   ·exact .inr e
   ·exact .inl (.inr ⟨v, mr_.2 (.inr (.inr e1)), e⟩)
 have hbx := putN_box sb (repL m vq) w 9 _ h.box
 have he : setN (qCells s V sb cs) 9 (repL m vq) = qCells { s with reply := replyM m q } ⟨V.vR, vq, .slice none 0 0⟩ sb cs := by simp [setN, repL, qCells, replyM]
 rw [he] at hbx
 refine ⟨h.turn (putN_grown sb _ w 9) hbx rfl rfl hq (World.ownsRow_nil _ _ _ _) h.chs h.chain h.nod (fun v hv k e hw => ?_) (fun k e => ?_), how⟩
 ·rcases mr_.1 hv with rfl | rfl | e1
  ·exact h.free _ (mr_.2 (.inl rfl)) k e (hwr k hw)
  ·exact (hk k e).2 (.inl (hwr k hw))
  ·exact h.free v (mr_.2 (.inr (.inr e1))) k e (hwr k hw)
 ·rcases how k e with e | e
  ·exact h.lt k e
  ·exact (hk k e).1
theorem q_begin (w : World) (sb : Nat) (s : QSt) (V : QV) (cs : List QC) (m : Msg) (q : Qn) (vq va vu vx : Value) (h : QAt w sb s V cs) (hq : Lies w 3 vq [q.cells]) (hk : ∀ k, vq.ownBlock = some k → k < w.heap.size ∧ ¬ V.owns cs sb k) :
  Calls Tryz.prog 77 #[.pointer (some ⟨sb, 0, none⟩), .agg (mc_ m vq va vu vx)] w fun e w' => e = .returned (.tuple #[]) ∧ Hid (∃ V' cs', QAt w' sb (beginQ s m q) V' cs' ∧ Fr w w' (fun i => V.owns cs sb i ∨ vq.ownBlock = some i) (V'.owns cs' sb)) := by
 have hb1 := (Below.refl w.heap.size w).alloc (Nat.le_refl _) (.cells (mc_ m vq va vu vx) 30)
 have HB1 := hide hb1
 have h1 := h.below hb1
 have HR := hide (h1.reply m q vq (hq.below hb1) (fun k e => ⟨Nat.lt_of_lt_of_le (hk k e).1 hb1.size, (hk k e).2⟩))
 have hc := bc_ h1.box
 have hf := fz_ h1.box
 simp only [qCells] at hc
 have hx := hn_ w (.cells (mc_ m vq va vu vx) 30)
 have hcx := bc_ hx
 have hl1 := h.slt
 have n1 : ¬ w.heap.size = sb := by omega
 have n2 : ¬ sb = w.heap.size := by omega
 obtain ⟨aq, cq, hvq, _⟩ := hq
 subst hvq
 unfold mc_ at hcx hc hf HR HB1 ⊢
 clear h h1 hb1 hx
 go_enter Tryz.func77, Tryz.ntmps77
 go_wp2_with (with_reducible refine stop_load _ (.tmp 5) rfl ?_)
 unfold Stopped
 have hz1 := as_ w (.cells #[.int .u16 m.id, .bool m.resp, .int .i64 m.op, .bool m.own, .bool m.cut, .bool m.wanted, .bool m.able, .int .i64 m.code, .slice aq [q.cells].length cq, va, vu, vx] 30)
 generalize w.alloc _ = W1 at HB1 HR hc hf hcx hz1 ⊢
 simp only [putN, repL, Nat.reduceAdd] at HR
 have HG : Hid (W1.grownBy (putN sb W1 9 (repL m (.slice aq [q.cells].length cq))) (some sb)) := putN_grown sb _ W1 9
 simp only [putN, repL, Nat.reduceAdd] at HG
 go_wp2_with fail
 generalize (World.setCell _ ⟨sb, 20, none⟩ (Value.slice none 0 0)) = W2 at HR HG ⊢
 clear hc hf hcx
 refine (q_asked W2 sb _ _ _ q HR.out.1 rfl).mono ?_
 rintro e w3 ⟨rfl, HB3⟩
 go_wp2_with fail
 refine (q_lookUp w3 sb _ _ _ q.name q (HR.out.1.below HB3.out) rfl).mono ?_
 rintro e w4 ⟨rfl, H4⟩
 go_wp2_with fail
 go_end0
 obtain ⟨cs', h4, f4⟩ := H4.out
 refine ⟨rfl, _, cs', h4, ?_⟩
 have f2 : Fr w W2 (fun i => V.owns cs sb i ∨ (Value.slice aq [q.cells].length cq).ownBlock = some i) (QV.owns ⟨V.vR, .slice aq [q.cells].length cq, .slice none 0 0⟩ cs sb) := (Fr.of_below HB1.out _).turn HG.out (.inl (.inl (.inl (.inl rfl)))) (fun i hi => .inl (HR.out.2 i hi))
 exact (f2.trans (Fr.of_below HB3.out _)).trans f4
end Go.Proofs.YtafoepfhepdcoaaGreat
