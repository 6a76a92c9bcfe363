import Derived.Test.YtafoepfhepdcoaaGreatM22
import Derived.Test.YtafoepfhepdcoaaGreatM23
set_option maxRecDepth 100000
set_option maxHeartbeats 8000000
namespace Go.Trawl
theorem pM_lens (s : ByteArray) : Always (pM s) fun m => m.an.length ≤ 65535 ∧ m.au.length ≤ 65535 ∧ m.ex.length ≤ 65535 :=
 (num2_range s).bind fun _ _ => (num2_range s).bind fun f _ => (num2_range s).bind fun _ _ => (num2_range s).bind fun _ ha => (num2_range s).bind fun _ hu => (num2_range s).bind fun _ hx =>
  ((pQ_wf s).many _).bind fun qs _ => ((pR_wf s).many _).bind fun an han => ((pR_wf s).many _).bind fun au hau => ((pR_wf s).many _).bind fun ex hex =>
   Always.pure ⟨by simp only [flagged]; rw [han.2]; omega, by simp only [flagged]; rw [hau.2]; omega, by simp only [flagged]; rw [hex.2]; omega⟩
theorem unpack_lens {s : ByteArray} {m : Msg} (h : unpack s = some m) : m.an.length ≤ 65535 ∧ m.au.length ≤ 65535 ∧ m.ex.length ≤ 65535 := by
 unfold unpack at h
 split at h
 ·cases hp : pM s 0 with
  | none => simp [hp] at h
  | some r =>
   simp only [hp, Option.bind_some] at h
   split at h
   ·cases h
    exact pM_lens s 0 r hp
   ·cases h
 ·cases h
end Go.Trawl
namespace Go.Proofs.YtafoepfhepdcoaaGreat
open Go.RowKit Go.Trawl Go.MuLone
attribute [local go_sem] buildX0 buildX1 eqlF eqlN
theorem unpack_got {s : ByteArray} {m : Msg} (h : unpack s = some m) : Got m := ⟨unpack_wf h, unpack_named h, (unpack_lens h).1, (unpack_lens h).2.1, (unpack_lens h).2.2⟩
def fitsP (st : RSt) (c : Ch) (fr : Int) (m : Msg) : Bool :=
 m.resp && decide (m.id = st.id) && match m.qs with
  | [q] => decide (fr = st.to) && sameB q.name c.name && decide (q.kind = c.kind) && decide (q.cls = 1)
  | _ => false
def heardS (st : RSt) (fr : Int) (s : ByteArray) : RSt × Value × Int :=
 if st.busy then match unpack s with
  | none => (st, stepV 0 0 ⟨#[]⟩, 0)
  | some m => match st.l.reverse with
   | c :: r => if fitsP st c fr m then ((followsP st r.reverse c m).1, (followsP st r.reverse c m).2, 0) else (st, stepV 0 0 ⟨#[]⟩, 0)
   | [] => (st, stepV 0 0 ⟨#[]⟩, 0)
 else (st, stepV 0 0 ⟨#[]⟩, 3)
theorem sHeard_idle (w : World) (sb b cp : Nat) (q : QSt) (V : QV) (cs : List QC) (st : RSt) (fr : Int) (s : ByteArray) (h : QAt w sb q V cs) (hok : QOk q) (hsm : Sim q st) (hbz : st.busy = false) :
  Calls Tryz.prog 43 #[.pointer (some ⟨sb, 0, none⟩), .int .u32 fr, .slice (some ⟨b, 0, none⟩) s.size cp] w (Tells w sb (V.owns cs sb) (heardS st fr s)) := by
 have e : heardS st fr s = (st, stepV 0 0 ⟨#[]⟩, 3) := by unfold heardS; rw [if_neg (by rw [hbz]; simp)]
 rw [e]
 have H := hide h
 have HK := hide hok
 have HS := hide hsm
 have hc := box_cells (h.below ((Below.refl w.heap.size w).alloc (Nat.le_refl _) (.cells #[.int .i64 0, .int .u32 0, .slice none 0 0] 59))).box
 simp only [qCells, (hsm.idle hbz).1, nextV] at hc
 clear h e hok hsm
 unfold Tells
 go_enter Tryz.func43, Tryz.ntmps43
 go_wp2_with fail
 refine bodyPost_ret (results_cell_row2 rfl _ _ w.heap.size _ _ _ _ rfl (heap_new w _) undXs rfl (by kernel_rfl)) rfl ?_
 exact ⟨0, 0, none, [], 0, rfl, rfl, told_nil H.out HK.out HS.out _⟩
theorem told_same {w W : World} {sb : Nat} {s : QSt} {V : QV} {cs : List QC} {st : RSt} (h : QAt W sb s V cs) (hok : QOk s) (hs : Sim s st) (hb : Below w.heap.size w W) (hlt : ∀ k, V.owns cs sb k → k < w.heap.size) (v0 v1 v2 : Value) : Told w (put3 W w.heap.size v0 v1 v2) sb (V.owns cs sb) st (.slice none 0 0) [] := by
 have hG := put3_grown W w.heap.size v0 v1 v2
 exact ⟨⟨s, V, cs, h.aside hG (fun e => by have := hlt _ e; omega), hok, hs, (Fr.of_below hb _).write hG (Nat.le_refl _), fun k hk => by cases hk⟩, World.ownsRow_nil _ _ _ _, fun k hk => by cases hk⟩
theorem sHeard_busy (w : World) (sb b cp : Nat) (q : QSt) (V : QV) (cs : List QC) (st : RSt) (fr : Int) (s : ByteArray) (h : QAt w sb q V cs) (hok : QOk q) (hsim : Sim q st) (hbz : st.busy = true) (hsm : s.size ≤ 2097152) (hsc : s.size ≤ cp) (hbl : b < w.heap.size) (hby : Bytes w b s) :
  Calls Tryz.prog 43 #[.pointer (some ⟨sb, 0, none⟩), .int .u32 fr, .slice (some ⟨b, 0, none⟩) s.size cp] w (Tells w sb (V.owns cs sb) (heardS st fr s)) := by
 obtain ⟨hph, hcore⟩ := hsim.busy hbz
 obtain ⟨lc, lr, hl, hne, hs1, hto⟩ := hsim.last hbz
 obtain ⟨aq, haq, hseen⟩ := hsim.seen hbz
 have hkp := hsim.kept hbz
 rw [hl] at hcore
 obtain ⟨pc, ps, ech, hpc, hps⟩ := hcore.chs.snoc
 obtain ⟨c, r, rfl⟩ : ∃ c r, cs = c :: r := by
  cases cs with
  | nil => rw [← h.chs] at ech; cases ech
  | cons c r => exact ⟨c, r, rfl⟩
 have hpcc : c.ch = pc := by
  have := h.chs
  rw [ech] at this
  injection this
 obtain ⟨P, hP⟩ : ∃ P, P = heardS st fr s := ⟨_, rfl⟩
 rw [← hP]
 unfold heardS at hP
 rw [if_pos hbz, hl] at hP
 dsimp only at hP
 have hcn : c.ch.servers ≠ [] := by rw [hpcc, hpc.servers]; exact hne
 have hcs1 : 1 ≤ c.ch.sent := by rw [hpcc, hpc.sent]; exact hs1
 have HFT : Hid (∀ m, fitsQ q c.ch fr m = fitsP st lc fr m) := fun m => by
  unfold fitsQ fitsP lastTo
  rw [hpcc, hpc.servers, hpc.sent, hpc.name, hpc.kind, hcore.id, ← hto]
  cases m.qs with
  | nil => rfl
  | cons x l => cases l <;> rfl
 have hrq : q.reply.qs = [aq] := by rw [hcore.reply]; exact haq
 have HRN : Hid (∀ m, Got m → Runs (lookQ q aq m) (followsP st lr.reverse lc m)) := fun m hm => looks hcore hph hok hbz hne haq hseen hkp hm
 have HLK : Hid (∀ m, Got m → QOk (lookQ q aq m)) := fun m hm => lookQ_ok hok hph hrq hm
 have HLB : Hid (∀ m, (lookQ q aq m).ph ≠ .idle) := fun m => lookQ_busy hph aq m
 have hb1 := (Below.refl w.heap.size w).alloc (Nat.le_refl _) (.cells #[.int .i64 0, .int .u32 0, .slice none 0 0] 59)
 have HS1 := hide (h.below hb1)
 have HX1 := hide (heap_new w (.cells #[.int .i64 0, .int .u32 0, .slice none 0 0] 59))
 have HY1 := hide (hby.below hbl hb1)
 have HB1 := hide hb1
 have hc := box_cells HS1.out.box
 have hsl := h.slt
 have HLT := hide h.lt
 have HOK := hide hok
 have HSIM := hide hsim
 have HPH := hide hph
 have HRQ := hide hrq
 have HP := hide hP
 simp only [qCells, hph, nextV] at hc
 clear h hok hsim hcore hto hl hseen haq hkp hpc hps hph hb1 hby hP hrq ech hpcc hs1 hne
 unfold Tells
 go_enter Tryz.func43, Tryz.ntmps43
 go_wp2_with fail
 generalize w.alloc (.cells #[.int .i64 0, .int .u32 0, .slice none 0 0] 59) = W1 at HS1 HX1 HY1 HB1 hc ⊢
 clear hc
 have hz1 : w.heap.size < W1.heap.size := heap_lt HX1.out
 refine (wUnpack2 W1 b cp s hsm hsc (by omega) HY1.out).mono ?_
 rintro e w2 ⟨vaq, cq, aa, ca, au, cu, ax, cx, rfl, H2⟩
 have HB2 := hide (HB1.out.trans (H2.out.1.mono HB1.out.size))
 have HS2 := hide (HS1.out.below H2.out.1)
 have HX2 := hide ((H2.out.1.block _ hz1).trans HX1.out)
 have HAT2 := hide H2.out.2.1
 have hz2 := H2.out.1.size
 clear H2 HB1 HS1 HX1 HY1
 cases hu : unpack s with
 | none =>
  have e0 : unE s = 1 := unM_none hu
  have hp : P = (st, stepV 0 0 ⟨#[]⟩, 0) := by rw [HP.out, hu]
  have HPP := hide hp
  clear HP hp
  rw [e0]
  clear e0 hu
  generalize unM s = m at HAT2 ⊢
  have hb3 := (Below.refl w2.heap.size w2).alloc (Nat.le_refl _) (.cells (msgCells m (.slice vaq m.qs.length cq) (.slice aa m.an.length ca) (.slice au m.au.length cu) (.slice ax m.ex.length cx)) 30)
  have HB3 := hide (HB2.out.trans (hb3.mono HB2.out.size))
  have HS3 := hide (HS2.out.below hb3)
  have HX3 := hide ((hb3.block _ (by omega)).trans HX2.out)
  clear hb3
  unfold msgCells at HB3 HS3 HX3 ⊢
  go_wp2_with (with_reducible refine stop_store _ (.tmp 6) _ rfl ?_)
  unfold Stopped
  generalize w2.alloc _ = W3 at HB3 HS3 HX3 ⊢
  have hcz := box_cells HX3.out
  have hfz := frozen_of_block HX3.out
  go_wp2_with fail
  clear hcz hfz
  refine bodyPost_ret (results_cell_row2 rfl _ _ w.heap.size _ _ _ _ rfl (put3_box (.int .i64 0) (.int .u32 0) (.slice none 0 0) HX3.out) undXs rfl (by kernel_rfl)) rfl ?_
  exact ⟨0, 0, none, [], 0, by rw [HPP.out]; rfl, by rw [HPP.out]; rfl, by rw [HPP.out]; exact told_same HS3.out HOK.out HSIM.out HB3.out HLT.out _ _ _⟩
 | some m =>
  obtain ⟨e1, e2⟩ := unM_some hu
  have hgot := unpack_got hu
  have hp : P = if fitsP st lc fr m = true then ((followsP st lr.reverse lc m).1, (followsP st lr.reverse lc m).2, 0) else (st, stepV 0 0 ⟨#[]⟩, 0) := by rw [HP.out, hu]
  have HPP := hide hp
  have HGT := hide hgot
  rw [e1] at HAT2
  rw [e1, e2]
  clear HP hp hu e1 e2 hgot
  have hb3 := (Below.refl w2.heap.size w2).alloc (Nat.le_refl _) (.cells (msgCells m (.slice vaq m.qs.length cq) (.slice aa m.an.length ca) (.slice au m.au.length cu) (.slice ax m.ex.length cx)) 30)
  have HB3 := hide (HB2.out.trans (hb3.mono HB2.out.size))
  have HS3 := hide (HS2.out.below hb3)
  have HX3 := hide ((hb3.block _ (by omega)).trans HX2.out)
  have HAT3 := hide (HAT2.out.below hb3)
  have HM3 := hide (heap_new w2 (.cells (msgCells m (.slice vaq m.qs.length cq) (.slice aa m.an.length ca) (.slice au m.au.length cu) (.slice ax m.ex.length cx)) 30))
  clear hb3 HB2 HS2 HX2 HAT2
  unfold msgCells at HB3 HS3 HX3 HAT3 HM3 ⊢
  have hcm := box_cells HM3.out
  go_wp2_with fail
  generalize w2.alloc _ = W3 at HB3 HS3 HX3 HAT3 HM3 hcm ⊢
  refine (q_fits W3 sb q V c r fr m (.slice vaq m.qs.length cq) (.slice aa m.an.length ca) (.slice au m.au.length cu) (.slice ax m.ex.length cx) HS3.out HOK.out hcn hcs1 HAT3.out.q HGT.out.wf).mono ?_
  rintro e w4 ⟨rfl, HB4'⟩
  have HB4 := hide (HB3.out.trans (HB4'.out.mono HB3.out.size))
  have HS4 := hide (HS3.out.below HB4'.out)
  have HX4 := hide ((HB4'.out.block _ (heap_lt HX3.out)).trans HX3.out)
  have HAT4 := hide (HAT3.out.below HB4'.out)
  have HM4 := hide ((HB4'.out.block _ (heap_lt HM3.out)).trans HM3.out)
  clear hcm HB3 HS3 HX3 HAT3 HM3 HB4'
  rw [HFT.out m]
  cases hf : fitsP st lc fr m with
  | false =>
   have hp : P = (st, stepV 0 0 ⟨#[]⟩, 0) := by rw [HPP.out, hf]; rfl
   have HP2 := hide hp
   clear hp HPP hf
   have hcz := box_cells HX4.out
   have hfz := frozen_of_block HX4.out
   go_wp2_with fail
   clear hcz hfz
   refine bodyPost_ret (results_cell_row2 rfl _ _ w.heap.size _ _ _ _ rfl (put3_box (.int .i64 0) (.int .u32 0) (.slice none 0 0) HX4.out) undXs rfl (by kernel_rfl)) rfl ?_
   exact ⟨0, 0, none, [], 0, by rw [HP2.out]; rfl, by rw [HP2.out]; rfl, by rw [HP2.out]; exact told_same HS4.out HOK.out HSIM.out HB4.out HLT.out _ _ _⟩
  | true =>
   have hp : P = ((followsP st lr.reverse lc m).1, (followsP st lr.reverse lc m).2, 0) := by rw [HPP.out, hf]; rfl
   have HP2 := hide hp
   clear hp HPP hf
   have hcm := box_cells HM4.out
   go_wp2_with fail
   refine (q_look w4 sb q V c r aq m (.slice vaq m.qs.length cq) (.slice aa m.an.length ca) (.slice au m.au.length cu) (.slice ax m.ex.length cx) HS4.out HOK.out HPH.out HRQ.out HGT.out HAT4.out).mono ?_
   rintro e w5 ⟨rfl, H5⟩
   clear hcm
   go_wp2_with fail
   obtain ⟨V5, cs5, h5, f5⟩ := H5.out
   obtain ⟨n, p, hg, hboth⟩ := HRN.out m HGT.out
   have hz4 := heap_lt HX4.out
   have hno4 : ¬ V.owns (c :: r) sb w.heap.size := fun e => by have := HLT.out _ e; omega
   have hno5 : ¬ V5.owns cs5 sb w.heap.size := fun e => by
    rcases f5.new _ e with e | e
    ·exact hno4 e
    ·omega
   have HT := hide (fun w6 a6 c6 => told_go (w6 := w6) (a := a6) (c := c6) (p := p) (o := (followsP st lr.reverse lc m).2) (st := (followsP st lr.reverse lc m).1) ((Fr.of_below HB4.out (V.owns (c :: r) sb)).trans f5) (f5.stay HX4.out hno4) hno5 (goes_ok (HLK.out m HGT.out) (HLB.out m) hg) hboth)
   have HS := hide hboth.says
   refine (q_goOn w5 sb _ V5 cs5 n p h5 (HLK.out m HGT.out) (HLB.out m) hg).mono ?_
   rintro e w6 ⟨a6, c6, rfl, H6⟩
   obtain ⟨hx6, ht6⟩ := HT.out w6 a6 c6 H6.out
   have HX6 := hide hx6
   have HT6 := hide ht6
   clear HT hx6 ht6 H6 h5 f5 hg hboth hno5 H5
   have hcz := box_cells HX6.out
   have hfz := frozen_of_block HX6.out
   unfold stepX
   obtain ⟨s6, k6, t6, l6⟩ := p
   dsimp only at *
   go_wp2_with fail
   clear hcz hfz
   refine bodyPost_ret (results_cell_row2 rfl _ _ w.heap.size _ _ _ _ rfl (put3_box (.int .i64 k6) (.int .u32 t6) (.slice a6 l6.length c6) HX6.out) undXs rfl (by kernel_rfl)) rfl ?_
   exact ⟨k6, t6, a6, l6, c6, by rw [HP2.out]; rfl, by rw [HP2.out]; exact HS.out, by rw [HP2.out]; exact HT6.out _ _ _⟩
end Go.Proofs.YtafoepfhepdcoaaGreat
namespace Go.Proofs.YtafoepfhepdcoaaGreat
open Go.RowKit Go.Trawl Go.MuLone
attribute [local go_sem] buildX0 buildX1
theorem sHeard_any (w : World) (sb b c : Nat) (q : QSt) (V : QV) (cs : List QC) (st : RSt) (fr : Int) (s : ByteArray) (h : QAt w sb q V cs) (hqk : QOk q) (hsim : Sim q st) (hsm : s.size ≤ 2097152) (hsc : s.size ≤ c) (hbl : b < w.heap.size) (hby : Bytes w b s) :
  Calls Tryz.prog 43 #[.pointer (some ⟨sb, 0, none⟩), .int .u32 fr, .slice (some ⟨b, 0, none⟩) s.size c] w (Tells w sb (V.owns cs sb) (heardS st fr s)) := by
 cases hb : st.busy with
 | true => exact sHeard_busy w sb b c q V cs st fr s h hqk hsim hb hsm hsc hbl hby
 | false => exact sHeard_idle w sb b c q V cs st fr s h hqk hsim hb
theorem pHeard_any (w : World) (xb sb b c : Nat) (vr : PV) (st : RSt) (fr : Int) (s : ByteArray) (h : PAt w xb sb vr st) (hsm : s.size ≤ 2097152) (hsc : s.size ≤ c) (hbl : b < w.heap.size) (hby : Bytes w b s) (hbx : b ≠ xb) :
  Calls Tryz.prog 23 #[.pointer (some ⟨xb, 0, none⟩), .int .u32 fr, .slice (some ⟨b, 0, none⟩) s.size c] w (Speaks w xb sb vr (heardS st fr s)) := by
 obtain ⟨z, hz⟩ := h.box
 obtain ⟨q, hq, hqk, hsim⟩ := h.at_
 have hxl : xb < w.heap.size := heap_lt hz
 have hb1 := (Below.refl w.heap.size w).alloc (Nat.le_refl _) (.cells #[.int .i64 0, .int .u32 0, .slice none 0 0] 59)
 have HZ1 := hide ((hb1.block xb hxl).trans hz)
 have HS1 := hide (hq.below hb1)
 have HX1 := hide (heap_new w (.cells #[.int .i64 0, .int .u32 0, .slice none 0 0] 59))
 have HY1 := hide (hby.below hbl hb1)
 have HB1 := hide hb1
 have HNX := hide h.nx
 have HLT := hide h.lt
 have HQK := hide hqk
 have HSIM := hide hsim
 have hc := box_cells HZ1.out
 have hf := frozen_of_block HZ1.out
 clear h hb1 hby hz hq hqk hsim
 unfold Speaks
 go_enter_defers Tryz.func23, Tryz.ntmps23
 go_wp2_with fail
 refine (lock_free muLib ⟨xb, 0, none⟩ _ (hc 0) (hf 0)).mono ?_
 rintro e w1 ⟨rfl, rfl⟩
 generalize w.alloc (.cells #[.int .i64 0, .int .u32 0, .slice none 0 0] 59) = W1 at HZ1 HS1 HX1 HY1 HB1 hc hf ⊢
 have hz1 : w.heap.size < W1.heap.size := heap_lt HX1.out
 have hG2 := grownBy_setCell W1 xb 0 (.int .i32 1)
 have HF2 : Hid (Fr w (W1.setCell ⟨xb, 0, none⟩ (.int .i32 1)) (pOwns xb sb vr) (pOwns xb sb vr)) := (Fr.of_below HB1.out (pOwns xb sb vr)).turn hG2 (.inl (.inl rfl)) (fun i hi => .inl hi)
 have HZ2 : Hid ((W1.setCell ⟨xb, 0, none⟩ (.int .i32 1)).heap[xb]? = some (.cells #[.int .i32 1, z, .pointer (some ⟨sb, 0, none⟩)] 96)) := heap_setCell_eq (j := 0) HZ1.out (.int .i32 1)
 have HS2 := hide (HS1.out.aside hG2 HNX.out)
 have HX2 := hide ((hG2.block _ hz1 (by simp; omega)).trans HX1.out)
 have HY2 := hide (HY1.out.grown (by omega) hG2 hbx)
 clear hG2 hc hf HZ1 HS1 HX1 HY1
 generalize W1.setCell ⟨xb, 0, none⟩ (.int .i32 1) = W2 at HF2 HZ2 HS2 HX2 HY2 ⊢
 have hz2 : w.heap.size < W2.heap.size := heap_lt HX2.out
 have hc := box_cells HZ2.out
 go_wp2_with fail
 refine (sHeard_any W2 sb b c q vr.V vr.cs st fr s HS2.out HQK.out HSIM.out hsm hsc (by omega) HY2.out).mono ?_
 rintro e w3 ⟨k, t, a, l, c', rfl, H3⟩
 have hf3 : ∃ O', Fr W2 w3 (vr.V.owns vr.cs sb) O' := by
  obtain ⟨_, V3, cs3, _, _, _, f3, _⟩ := H3.out.2.at_
  exact ⟨_, f3⟩
 obtain ⟨O', hf3⟩ := hf3
 have HZ3 := hide (hf3.stay HZ2.out HNX.out)
 have HX3 := hide (hf3.stay HX2.out (fun e => by have := HLT.out _ (.inr e); omega))
 clear hf3 hc
 have hcz := box_cells HX3.out
 have hfz := frozen_of_block HX3.out
 unfold stepX
 go_wp2_with fail
 clear hcz hfz
 refine leaves_cons (f := 34) (args := #[.pointer (some ⟨xb, 0, none⟩)]) (by simp) (by simp [go_sem]) ?_
 have hG4 := put3_grown w3 w.heap.size (.int .i64 k) (.int .u32 t) (.slice a l.length c')
 have hx4 := put3_box (.int .i64 k) (.int .u32 t) (.slice a l.length c') HX3.out
 have hz4 := (hG4.block xb (heap_lt HZ3.out) (by simp; omega)).trans HZ3.out
 refine (unlock_deferred muLib ⟨xb, 0, none⟩ .returning _ (box_cells hz4 0) (frozen_of_block hz4 0)).mono ?_
 rintro e u' w5 ⟨rfl, rfl, rfl⟩
 have hG5 := grownBy_setCell (put3 w3 w.heap.size (.int .i64 k) (.int .u32 t) (.slice a l.length c')) xb 0 (.int .i32 0)
 have hx5 := (hG5.block w.heap.size (heap_lt hx4) (by simp; omega)).trans hx4
 have hz5 := heap_setCell_eq (j := 0) hz4 (.int .i32 0)
 exact ⟨_, results_cell_row2 rfl _ _ w.heap.size _ _ _ _ rfl hx5 undXs rfl (by kernel_rfl), k, t, a, l, c', rfl, H3.out.1, spoke_of HLT.out HNX.out hz2 HF2.out H3.out.2 hG4 hG5 hz5 hxl⟩
end Go.Proofs.YtafoepfhepdcoaaGreat
