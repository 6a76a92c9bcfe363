import Derived.Test.YtafoepfhepdcoaaGreatM43
import Derived.Test.YtafoepfhepdcoaaGreatM42
import Derived.Test.YtafoepfhepdcoaaGreatM34
set_option maxRecDepth 100000
set_option maxHeartbeats 8000000
namespace Go.Trawl
theorem pM_lens (s : ByteArray) : Always (pM s) fun m => m.an.length ≤ 65535 ∧ m.au.length ≤ 65535 ∧ m.ex.length ≤ 65535 :=
 (num2_range s).bind fun _ _ => (num2_range s).bind fun f _ => (num2_range s).bind fun _ _ => (num2_range s).bind fun _ ha => (num2_range s).bind fun _ hu => (num2_range s).bind fun _ hx =>
  ((pQ_wf s).many _).bind fun qs _ => ((pR_wf s).many _).bind fun an han => ((pR_wf s).many _).bind fun au hau => ((pR_wf s).many _).bind fun ex hex =>
   Always.pure ⟨by simp only [flagged]; rw [han.2]; omega, by simp only [flagged]; rw [hau.2]; omega, by simp only [flagged]; rw [hex.2]; omega⟩
theorem unpack_lens {s : ByteArray} {m : Msg} (h : unpack s = some m) : m.an.length ≤ 65535 ∧ m.au.length ≤ 65535 ∧ m.ex.length ≤ 65535 := by
 unfold unpack at h
 split at h
 ·cases hp : pM s 0 with
  | none => simp [hp] at h
  | some r =>
   simp only [hp, Option.bind_some] at h
   split at h
   ·cases h
    exact pM_lens s 0 r hp
   ·cases h
 ·cases h
end Go.Trawl
namespace Go.Proofs.YtafoepfhepdcoaaGreat
open Go.RowKit Go.Trawl Go.MuLone
attribute [local go_sem] buildX0 buildX1 eqlF eqlN
theorem unpack_got {s : ByteArray} {m : Msg} (h : unpack s = some m) : Got m := ⟨unpack_wf h, unpack_named h, (unpack_lens h).1, (unpack_lens h).2.1, (unpack_lens h).2.2⟩
def fitsP (st : RSt) (c : Ch) (fr : Int) (m : Msg) : Bool :=
 m.resp && decide (m.id = st.id) && match m.qs with
  | [q] => decide (fr = st.to) && sameB q.name c.name && decide (q.kind = c.kind) && decide (q.cls = 1)
  | _ => false
def heardS (st : RSt) (fr : Int) (s : ByteArray) : RSt × Value × Int :=
 if st.busy then match unpack s with
  | none => (st, stepV 0 0 ⟨#[]⟩, 0)
  | some m => match st.l.reverse with
   | c :: r => if fitsP st c fr m then ((followsP st r.reverse c m).1, (followsP st r.reverse c m).2, 0) else (st, stepV 0 0 ⟨#[]⟩, 0)
   | [] => (st, stepV 0 0 ⟨#[]⟩, 0)
 else (st, stepV 0 0 ⟨#[]⟩, 3)
theorem sHeard_idle (w : World) (sb b cp : Nat) (q : QSt) (V : QV) (cs : List QC) (st : RSt) (fr : Int) (s : ByteArray) (h : QAt w sb q V cs) (hok : QOk q) (hsm : Sim q st) (hbz : st.busy = false) :
  Calls Tryz.prog 43 #[.pointer (some ⟨sb, 0, none⟩), .int .u32 fr, .slice (some ⟨b, 0, none⟩) s.size cp] w (Tells w sb (V.owns cs sb) (heardS st fr s)) := by
 have e : heardS st fr s = (st, stepV 0 0 ⟨#[]⟩, 3) := by unfold heardS; rw [if_neg (by rw [hbz]; simp)]
 rw [e]
 have H := hide h
 have HK := hide hok
 have HS := hide hsm
 have hc := bc_ (h.below ((Below.refl w.heap.size w).alloc (Nat.le_refl _) (.cells #[.int .i64 0, .int .u32 0, .slice none 0 0] 59))).box
 simp only [qCells, (hsm.idle hbz).1, nextV] at hc
 clear h e hok hsm
 unfold Tells
 go_enter Tryz.func43, Tryz.ntmps43
 go_wp2_with fail
 refine bodyPost_ret (rr_ rfl _ _ w.heap.size _ _ _ _ rfl (hn_ w _) undXs rfl (by kernel_rfl)) rfl ?_
 exact ⟨0, 0, none, [], 0, rfl, rfl, told_nil H.out HK.out HS.out _⟩
theorem told_same {w W : World} {sb : Nat} {s : QSt} {V : QV} {cs : List QC} {st : RSt} (h : QAt W sb s V cs) (hok : QOk s) (hs : Sim s st) (hb : Below w.heap.size w W) (hlt : ∀ k, V.owns cs sb k → k < w.heap.size) (v0 v1 v2 : Value) : Told w (put3 W w.heap.size v0 v1 v2) sb (V.owns cs sb) st (.slice none 0 0) [] := by
 have hG := pg_ W w.heap.size v0 v1 v2
 exact ⟨⟨s, V, cs, h.aside hG (fun e => by have := hlt _ e; omega), hok, hs, (Fr.of_below hb _).write hG (Nat.le_refl _), fun k hk => by cases hk⟩, World.ownsRow_nil _ _ _ _, fun k hk => by cases hk⟩
theorem sHeard_busy (w : World) (sb b cp : Nat) (q : QSt) (V : QV) (cs : List QC) (st : RSt) (fr : Int) (s : ByteArray) (h : QAt w sb q V cs) (hok : QOk q) (hsim : Sim q st) (hbz : st.busy = true) (hsm : s.size ≤ 2097152) (hsc : s.size ≤ cp) (hbl : b < w.heap.size) (hby : Bytes w b s) :
  Calls Tryz.prog 43 #[.pointer (some ⟨sb, 0, none⟩), .int .u32 fr, .slice (some ⟨b, 0, none⟩) s.size cp] w (Tells w sb (V.owns cs sb) (heardS st fr s)) := by
 obtain ⟨hph, hcore⟩ := hsim.busy hbz
 obtain ⟨lc, lr, hl, hne, hs1, hto⟩ := hsim.last hbz
 obtain ⟨aq, haq, hseen⟩ := hsim.seen hbz
 have hkp := hsim.kept hbz
 rw [hl] at hcore
 obtain ⟨pc, ps, ech, hpc, hps⟩ := hcore.chs.snoc
 obtain ⟨c, r, rfl⟩ : ∃ c r, cs = c :: r := by
  cases cs with
  | nil => rw [← h.chs] at ech; cases ech
  | cons c r => exact ⟨c, r, rfl⟩
 have hpcc : c.ch = pc := by
  have := h.chs
  rw [ech] at this
  injection this
 obtain ⟨P, hP⟩ : ∃ P, P = heardS st fr s := ⟨_, rfl⟩
 rw [← hP]
 unfold heardS at hP
 rw [if_pos hbz, hl] at hP
 dsimp only at hP
 have hcn : c.ch.servers ≠ [] := by rw [hpcc, hpc.servers]; exact hne
 have hcs1 : 1 ≤ c.ch.sent := by rw [hpcc, hpc.sent]; exact hs1
 have HFT : Hid (∀ m, fitsQ q c.ch fr m = fitsP st lc fr m) := fun m => by
  unfold fitsQ fitsP lastTo
  rw [hpcc, hpc.servers, hpc.sent, hpc.name, hpc.kind, hcore.id, ← hto]
  cases m.qs with
  | nil => rfl
  | cons x l => cases l <;> rfl
 have hrq : q.reply.qs = [aq] := by rw [hcore.reply]; exact haq
 have HRN : Hid (∀ m, Got m → Runs (lookQ q aq m) (followsP st lr.reverse lc m)) := fun m hm => looks hcore hph hok hbz hne haq hseen hkp hm
 have HLK : Hid (∀ m, Got m → QOk (lookQ q aq m)) := fun m hm => lookQ_ok hok hph hrq hm
 have HLB : Hid (∀ m, (lookQ q aq m).ph ≠ .idle) := fun m => lookQ_busy hph aq m
 have hb1 := (Below.refl w.heap.size w).alloc (Nat.le_refl _) (.cells #[.int .i64 0, .int .u32 0, .slice none 0 0] 59)
 have HS1 := hide (h.below hb1)
 have HX1 := hide (hn_ w (.cells #[.int .i64 0, .int .u32 0, .slice none 0 0] 59))
 have HY1 := hide (hby.below hbl hb1)
 have HB1 := hide hb1
 have hc := bc_ HS1.out.box
 have hsl := h.slt
 have HLT := hide h.lt
 have HOK := hide hok
 have HSIM := hide hsim
 have HPH := hide hph
 have HRQ := hide hrq
 have HP := hide hP
 simp only [qCells, hph, nextV] at hc
 clear h hok hsim hcore hto hl hseen haq hkp hpc hps hph hb1 hby hP hrq ech hpcc hs1 hne
 unfold Tells
 go_enter Tryz.func43, Tryz.ntmps43
 go_wp2_with fail
 generalize w.alloc (.cells #[.int .i64 0, .int .u32 0, .slice none 0 0] 59) = W1 at HS1 HX1 HY1 HB1 hc ⊢
 clear hc
 have hz1 : w.heap.size < W1.heap.size := hl_ HX1.out
 refine (wUnpack2 W1 b cp s hsm hsc (by omega) HY1.out).mono ?_
 rintro e w2 ⟨vaq, cq, aa, ca, au, cu, ax, cx, rfl, H2⟩
 have HB2 := hide (HB1.out.trans (H2.out.1.mono HB1.out.size))
 have HS2 := hide (HS1.out.below H2.out.1)
 have HX2 := hide ((H2.out.1.block _ hz1).trans HX1.out)
 have HAT2 := hide H2.out.2.1
 have hz2 := H2.out.1.size
 clear H2 HB1 HS1 HX1 HY1
 cases hu : unpack s with
 | none =>
  have e0 : unE s = 1 := unM_none hu
  have hp : P = (st, stepV 0 0 ⟨#[]⟩, 0) := by rw [HP.out, hu]
  have HPP := hide hp
  clear HP hp
  rw [e0]
  clear e0 hu
  generalize unM s = m at HAT2 ⊢
  have hb3 := (Below.refl w2.heap.size w2).alloc (Nat.le_refl _) (.cells (mc_ m (.slice vaq m.qs.length cq) (.slice aa m.an.length ca) (.slice au m.au.length cu) (.slice ax m.ex.length cx)) 30)
  have HB3 := hide (HB2.out.trans (hb3.mono HB2.out.size))
  have HS3 := hide (HS2.out.below hb3)
  have HX3 := hide ((hb3.block _ (by omega)).trans HX2.out)
  clear hb3
  unfold mc_ at HB3 HS3 HX3 ⊢
  go_wp2_with (with_reducible refine stop_store _ (.tmp 6) _ rfl ?_)
  unfold Stopped
  generalize w2.alloc _ = W3 at HB3 HS3 HX3 ⊢
  have hcz := bc_ HX3.out
  have hfz := fz_ HX3.out
  go_wp2_with fail
  clear hcz hfz
  refine bodyPost_ret (rr_ rfl _ _ w.heap.size _ _ _ _ rfl (pb_ (.int .i64 0) (.int .u32 0) (.slice none 0 0) HX3.out) undXs rfl (by kernel_rfl)) rfl ?_
  exact ⟨0, 0, none, [], 0, by rw [HPP.out]; rfl, by rw [HPP.out]; rfl, by rw [HPP.out]; exact told_same HS3.out HOK.out HSIM.out HB3.out HLT.out _ _ _⟩
 | some m =>
  obtain ⟨e1, e2⟩ := unM_some hu
  have hgot := unpack_got hu
  have hp : P = if fitsP st lc fr m = true then ((followsP st lr.reverse lc m).1, (followsP st lr.reverse lc m).2, 0) else (st, stepV 0 0 ⟨#[]⟩, 0) := by rw [HP.out, hu]
  have HPP := hide hp
  have HGT := hide hgot
  rw [e1] at HAT2
  rw [e1, e2]
  clear HP hp hu e1 e2 hgot
  have hb3 := (Below.refl w2.heap.size w2).alloc (Nat.le_refl _) (.cells (mc_ m (.slice vaq m.qs.length cq) (.slice aa m.an.length ca) (.slice au m.au.length cu) (.slice ax m.ex.length cx)) 30)
  have HB3 := hide (HB2.out.trans (hb3.mono HB2.out.size))
  have HS3 := hide (HS2.out.below hb3)
  have HX3 := hide ((hb3.block _ (by omega)).trans HX2.out)
  have HAT3 := hide (HAT2.out.below hb3)
  have HM3 := hide (hn_ w2 (.cells (mc_ m (.slice vaq m.qs.length cq) (.slice aa m.an.length ca) (.slice au m.au.length cu) (.slice ax m.ex.length cx)) 30))
  clear hb3 HB2 HS2 HX2 HAT2
  unfold mc_ at HB3 HS3 HX3 HAT3 HM3 ⊢
  have hcm := bc_ HM3.out
  go_wp2_with fail
  generalize w2.alloc _ = W3 at HB3 HS3 HX3 HAT3 HM3 hcm ⊢
  refine (q_fits W3 sb q V c r fr m (.slice vaq m.qs.length cq) (.slice aa m.an.length ca) (.slice au m.au.length cu) (.slice ax m.ex.length cx) HS3.out HOK.out hcn hcs1 HAT3.out.q HGT.out.wf).mono ?_
  rintro e w4 ⟨rfl, HB4'⟩
  have HB4 := hide (HB3.out.trans (HB4'.out.mono HB3.out.size))
  have HS4 := hide (HS3.out.below HB4'.out)
  have HX4 := hide ((HB4'.out.block _ (hl_ HX3.out)).trans HX3.out)
  have HAT4 := hide (HAT3.out.below HB4'.out)
  have HM4 := hide ((HB4'.out.block _ (hl_ HM3.out)).trans HM3.out)
  clear hcm HB3 HS3 HX3 HAT3 HM3 HB4'
  rw [HFT.out m]
  cases hf : fitsP st lc fr m with
  | false =>
   have hp : P = (st, stepV 0 0 ⟨#[]⟩, 0) := by rw [HPP.out, hf]; rfl
   have HP2 := hide hp
   clear hp HPP hf
   have hcz := bc_ HX4.out
   have hfz := fz_ HX4.out
   go_wp2_with fail
   clear hcz hfz
   refine bodyPost_ret (rr_ rfl _ _ w.heap.size _ _ _ _ rfl (pb_ (.int .i64 0) (.int .u32 0) (.slice none 0 0) HX4.out) undXs rfl (by kernel_rfl)) rfl ?_
   exact ⟨0, 0, none, [], 0, by rw [HP2.out]; rfl, by rw [HP2.out]; rfl, by rw [HP2.out]; exact told_same HS4.out HOK.out HSIM.out HB4.out HLT.out _ _ _⟩
  | true =>
   have hp : P = ((followsP st lr.reverse lc m).1, (followsP st lr.reverse lc m).2, 0) := by rw [HPP.out, hf]; rfl
   have HP2 := hide hp
   clear hp HPP hf
   have hcm := bc_ HM4.out
   go_wp2_with fail
   refine (q_look w4 sb q V c r aq m (.slice vaq m.qs.length cq) (.slice aa m.an.length ca) (.slice au m.au.length cu) (.slice ax m.ex.length cx) HS4.out HOK.out HPH.out HRQ.out HGT.out HAT4.out).mono ?_
   rintro e w5 ⟨rfl, H5⟩
   clear hcm
   go_wp2_with fail
   obtain ⟨V5, cs5, h5, f5⟩ := H5.out
   obtain ⟨n, p, hg, hboth⟩ := HRN.out m HGT.out
   have hz4 := hl_ HX4.out
   have hno4 : ¬ V.owns (c :: r) sb w.heap.size := fun e => by have := HLT.out _ e; omega
   have hno5 : ¬ V5.owns cs5 sb w.heap.size := fun e => by
    rcases f5.new _ e with e | e
    ·exact hno4 e
    ·omega
   have HT := hide (fun w6 a6 c6 => told_go (w6 := w6) (a := a6) (c := c6) (p := p) (o := (followsP st lr.reverse lc m).2) (st := (followsP st lr.reverse lc m).1) ((Fr.of_below HB4.out (V.owns (c :: r) sb)).trans f5) (f5.stay HX4.out hno4) hno5 (goes_ok (HLK.out m HGT.out) (HLB.out m) hg) hboth)
   have HS := hide hboth.says
   refine (q_goOn w5 sb _ V5 cs5 n p h5 (HLK.out m HGT.out) (HLB.out m) hg).mono ?_
   rintro e w6 ⟨a6, c6, rfl, H6⟩
   obtain ⟨hx6, ht6⟩ := HT.out w6 a6 c6 H6.out
   have HX6 := hide hx6
   have HT6 := hide ht6
   clear HT hx6 ht6 H6 h5 f5 hg hboth hno5 H5
   have hcz := bc_ HX6.out
   have hfz := fz_ HX6.out
   unfold stepX
   obtain ⟨s6, k6, t6, l6⟩ := p
   dsimp only at *
   go_wp2_with fail
   clear hcz hfz
   refine bodyPost_ret (rr_ rfl _ _ w.heap.size _ _ _ _ rfl (pb_ (.int .i64 k6) (.int .u32 t6) (.slice a6 l6.length c6) HX6.out) undXs rfl (by kernel_rfl)) rfl ?_
   exact ⟨k6, t6, a6, l6, c6, by rw [HP2.out]; rfl, by rw [HP2.out]; exact HS.out, by rw [HP2.out]; exact HT6.out _ _ _⟩
end Go.Proofs.YtafoepfhepdcoaaGreat
namespace Go.Proofs.YtafoepfhepdcoaaGreat
open Go.RowKit Go.Trawl
structure Ck (t : Int) (c : Ch) : Prop where
 q : QcOk t c
 few : c.names.length ≤ 1000000
structure Base (st : RSt) : Prop where
 b0 : 1 ≤ st.b
 b1 : st.b ≤ 200
 d0 : 0 ≤ st.d
 d1 : st.d ≤ 6
 c0 : 0 ≤ st.c
 c1 : st.c ≤ 10
 t0 : 1 ≤ st.t
 t1 : st.t ≤ 8
 r0 : 1 ≤ st.roots.length
 r1 : st.roots.length ≤ 8
 id0 : 0 ≤ st.id
 id1 : st.id ≤ 65535
 asked : WfM st.asked
 kept : (st.kept.length : Int) ≤ st.c
 recs : ∀ r ∈ st.kept, WfR r ∧ nameB r.data = true
 one : ∃ q, st.asked.qs = [q] ∧ NamedQ q ∧ q.cls = 1 ∧ st.seen = q.name :: st.kept.map Rc.data
 spent : (st.spent : Int) ≤ st.b
structure Live (st : RSt) : Prop where
 base : Base st
 len : (st.l.length : Int) ≤ st.d + 1
 chs : ∀ c ∈ st.l, Ck st.t c
 last : ∃ r c, st.l = r ++ [c] ∧ c.servers ≠ []
structure Inv (st : RSt) : Prop where
 ok : StOk st
 live : st.busy = true → Live st
def conf (st : RSt) : Int × Int × Int × Int × List Int := (st.b, st.d, st.c, st.t, st.roots)
def ansM (st : RSt) (code : Int) (an : List Rc) : Msg := ⟨st.asked.id, false, 0, false, false, st.asked.wanted, true, code, st.asked.qs, an, [], []⟩
structure Sent (st : RSt) (p : RSt × Value) : Prop where
 busy : p.1.busy = true
 live : Live p.1
 spent : p.1.spent = st.spent + 1
 asked : p.1.asked = st.asked
 conf : conf p.1 = conf st
 says : ∃ r c, p.1.l = r ++ [c] ∧ p.2 = stepV 1 p.1.to (str (packL (askM p.1.id c)))
structure Over (st : RSt) (p : RSt × Value) : Prop where
 busy : p.1.busy = false
 ok : StOk p.1
 spent : p.1.spent = st.spent
 asked : p.1.asked = st.asked
 conf : conf p.1 = conf st
 says : ∃ code an, (code = 0 ∨ (an.length : Int) ≤ st.c) ∧ 0 ≤ code ∧ code ≤ 3 ∧ (∀ r ∈ an, WfR r) ∧ an.length ≤ 100000 ∧ p.2 = stepV 2 0 (str (replyL (ansM st code an)))
def Comes (st : RSt) (p : RSt × Value) : Prop := Sent st p ∨ Over st p
theorem Comes.inv {st : RSt} {p : RSt × Value} (h : Comes st p) (hok : ∀ st', Live st' → StOk st') : Inv p.1 := by
 rcases h with h | h
 ·exact ⟨hok _ h.live, fun _ => h.live⟩
 ·exact ⟨h.ok, fun e => by rw [h.busy] at e; cases e⟩
theorem Comes.of {st st' : RSt} {p : RSt × Value} (h : Comes st p) (e1 : st'.spent = st.spent) (e2 : st'.asked = st.asked) (e3 : Go.Proofs.YtafoepfhepdcoaaGreat.conf st' = Go.Proofs.YtafoepfhepdcoaaGreat.conf st) : Comes st' p := by
 rcases h with h | h
 ·exact .inl ⟨h.busy, h.live, by rw [h.spent, e1], by rw [h.asked, e2], by rw [h.conf, e3], h.says⟩
 ·have ec : st'.c = st.c := by unfold Go.Proofs.YtafoepfhepdcoaaGreat.conf at e3; injection e3 with _ e; injection e with _ e; injection e
  obtain ⟨code, an, h1, h2, h3, h4, h5, h6⟩ := h.says
  exact .inr ⟨h.busy, h.ok, by rw [h.spent, e1], by rw [h.asked, e2], by rw [h.conf, e3], code, an, by rw [ec]; exact h1, h2, h3, h4, h5, by rw [h6]; unfold ansM; rw [e2]⟩
theorem Ck.ch {t : Int} {c : Ch} (h : Ck t c) (ht : t ≤ 8) : ChOk c := by
 have h1 := (nameB_size h.q.name).2
 have h2 := (nameB_size h.q.zone).2
 have h3 := h.q.sent
 exact ⟨by omega, h.q.k0, h.q.k1, by omega, h.q.servers, by omega, h.few, fun x hx => by have := (nameB_size (h.q.texts x hx)).2; omega⟩
theorem Base.ok' {st : RSt} (h : Base st) (K : List Rc) (hK : K.length ≤ 11) (hr : ∀ r ∈ K, WfR r) (hl : (st.l.length : Int) ≤ st.d + 1) (hc : ∀ c ∈ st.l, Ck st.t c) : StOk { st with kept := K } := by
 have hd1 := h.d1
 have ht := h.t1
 have hc1 := h.c1
 have hk := h.kept
 have hs := h.spent
 have hb := h.b1
 obtain ⟨q, hq1, hq2, hq3, hq4⟩ := h.one
 have hqn := (nameB_size hq2.1).2
 exact ⟨h.b0, h.b1, h.d0, h.d1, h.c0, h.c1, h.t0, h.t1, h.r0, h.r1, h.id0, h.id1, h.asked, by show K.length ≤ _; omega, hr, by show st.seen.length ≤ _; rw [hq4]; simp; omega, fun x hx => by
  have hx : x ∈ st.seen := hx
  rw [hq4] at hx
  rcases List.mem_cons.1 hx with rfl | hx
  ·omega
  ·obtain ⟨r, hr, rfl⟩ := List.mem_map.1 hx
   have := (nameB_size (h.recs r hr).2).2
   omega, by show st.l.length ≤ _; omega, fun c hc' => (hc c hc').ch ht, by show st.spent ≤ _; omega⟩
theorem Base.ok {st : RSt} (h : Base st) (hl : (st.l.length : Int) ≤ st.d + 1) (hc : ∀ c ∈ st.l, Ck st.t c) : StOk st := by
 have hk := h.kept
 have hc1 := h.c1
 exact h.ok' st.kept (by omega) (fun r hr => (h.recs r hr).1) hl hc
theorem Live.ok {st : RSt} (h : Live st) : StOk st := h.base.ok h.len h.chs
theorem Comes.keeps {st : RSt} {p : RSt × Value} (h : Comes st p) : Inv p.1 := h.inv fun _ h => h.ok
theorem StOk.idle {st : RSt} (h : StOk st) : StOk { st with busy := false } := ⟨h.b0, h.b1, h.d0, h.d1, h.c0, h.c1, h.t0, h.t1, h.r0, h.r1, h.id0, h.id1, h.asked, h.kept, h.recs, h.seen, h.texts, h.len, h.chs, h.spent⟩
theorem over_fail {st : RSt} (h : StOk st) : Over st (failP st) :=
 ⟨rfl, h.idle, rfl, rfl, rfl, 2, [], .inr (by have := h.c0; simpa using this), by decide, by decide, by simp, by simp, rfl⟩
theorem Base.with_l {st : RSt} (h : Base st) (L : List Ch) : Base { st with l := L } :=
 ⟨h.b0, h.b1, h.d0, h.d1, h.c0, h.c1, h.t0, h.t1, h.r0, h.r1, h.id0, h.id1, h.asked, h.kept, h.recs, h.one, h.spent⟩
theorem comes_fail {st : RSt} (h : Base st) (L : List Ch) (hl : (L.length : Int) ≤ st.d + 1) (hc : ∀ c ∈ L, Ck st.t c) : Comes st (failP { st with l := L }) :=
 Comes.of (st := { st with l := L }) (.inr (over_fail ((h.with_l L).ok hl hc))) rfl rfl rfl
theorem comes_ask {st : RSt} {r : List Ch} {c : Ch} (h : Base st) (hb : st.busy = true) (hl : (r.length : Int) + 1 ≤ st.d + 1) (hc : ∀ x ∈ r ++ [c], Ck st.t x) (hs : c.servers ≠ []) (ht : (c.sent : Int) < st.t) : Comes st (askP st r c) := by
 unfold askP
 split
 ·exact comes_fail h _ (by simp; omega) hc
 ·rename_i hsp
  have hid : 0 ≤ nextId st.id ∧ nextId st.id ≤ 65535 := by unfold nextId; omega
  have hB : Base (askSt st r c) := ⟨h.b0, h.b1, h.d0, h.d1, h.c0, h.c1, h.t0, h.t1, h.r0, h.r1, hid.1, hid.2, h.asked, h.kept, h.recs, h.one, by show ((st.spent + 1 : Nat) : Int) ≤ st.b; omega⟩
  refine .inl ⟨hb, ⟨hB, by simp [askSt]; omega, fun x hx => ?_, r, _, rfl, hs⟩, rfl, rfl, rfl, r, _, rfl, rfl⟩
  rcases List.mem_append.1 hx with hx | hx
  ·exact hc x (List.mem_append_left _ hx)
  ·have hcc := hc c (by simp)
   have : x = { c with sent := c.sent + 1 } := by simpa using hx
   subst this
   exact ⟨{ hcc.q with sent := by show ((c.sent + 1 : Nat) : Int) ≤ st.t; omega }, hcc.few⟩
theorem fresh_ck {st : RSt} (h : Base st) {n : ByteArray} (hn : nameB n = true) {k : Int} (h0 : 0 ≤ k) (h1 : k ≤ 65535) : Ck st.t (freshCh st n k) := by
 have := h.r1
 have := h.t0
 exact ⟨⟨hn, h0, h1, (show nameB rootN = true by decide), by show st.roots.length ≤ _; omega, by show ((0 : Nat) : Int) ≤ _; omega, by simp [freshCh], (fun x hx => by simp [freshCh] at hx)⟩, by simp [freshCh]⟩
theorem fresh_srv {st : RSt} (h : Base st) (n : ByteArray) (k : Int) : (freshCh st n k).servers ≠ [] := fun e => by
 have := h.r0
 rw [show st.roots = [] from e] at this
 simp at this
theorem comes_look {st : RSt} (h : Base st) (hb : st.busy = true) : ∀ L : List Ch, (L.length : Int) ≤ st.d + 1 → (∀ c ∈ L, Ck st.t c) → (L = [] → StOk st) → Comes st (lookP st L)
 | [], _, _, h0 => .inr (over_fail (h0 rfl))
 | c :: r, hl, hc, _ => by
  have hl2 : (r.length : Int) + 1 ≤ st.d + 1 := by simp at hl; omega
  have hone : Comes st (failP { st with l := [c] }) := comes_fail h [c] (by have := h.d0; simp; omega) (fun x hx => by rw [List.mem_singleton.1 hx]; exact hc c (by simp))
  have hrec : r ≠ [] → Comes st (lookP st r) := fun hr => comes_look h hb r (by omega) (fun x hx => hc x (by simp [hx])) (fun e => absurd e hr)
  unfold lookP
  split
  ·split
   ·exact hone
   ·rename_i hr; exact hrec hr
  ·rename_i n ns hns
   have hcc := hc c (by simp)
   split
   ·split
    ·exact hone
    ·rename_i hr; exact hrec hr
   ·refine comes_ask h hb (by simp; omega) (fun x hx => ?_) (fresh_srv h _ _) (by have := h.t0; show ((0 : Nat) : Int) < _; omega)
    simp only [List.append_assoc, List.mem_append, List.mem_reverse, List.mem_singleton] at hx
    have ht := hcc.q.texts
    rw [hns] at ht
    have h1 := hcc.q.names
    have h2 := hcc.few
    rw [hns] at h1 h2
    rcases hx with hx | rfl | rfl
    ·exact hc x (by simp [hx])
    ·exact ⟨{ hcc.q with names := by show ns.length ≤ _; simp at h1; omega, texts := fun y hy => ht y (by simp [hy]) }, by show ns.length ≤ _; simp at h2; omega⟩
    ·exact fresh_ck h (ht n (by simp)) (by decide) (by decide)
theorem comes_send {st : RSt} {r : List Ch} {c : Ch} (h : Base st) (hb : st.busy = true) (hl : (r.length : Int) + 1 ≤ st.d + 1) (hc : ∀ x ∈ r ++ [c], Ck st.t x) (hs : c.servers ≠ []) : Comes st (sendP st r c) := by
 unfold sendP
 split
 ·rename_i ht
  exact comes_ask h hb hl hc hs ht
 ·unfold withoutP
  split
  ·exact comes_fail h [c] (by have := h.d0; simp; omega) (fun x hx => by rw [List.mem_singleton.1 hx]; exact hc c (by simp))
  ·rename_i hr
   exact comes_look h hb _ (by simp; omega) (fun x hx => hc x (by simp at hx; simp [hx])) (fun e => absurd e hr)
theorem comes_next {st : RSt} {r : List Ch} (h : Base st) (hb : st.busy = true) (hl : (r.length : Int) + 1 ≤ st.d + 1) (hc : ∀ x ∈ r, Ck st.t x) (hr : r ≠ []) : Comes st (nextP st r) :=
 comes_look h hb _ (by simp; omega) (fun x hx => hc x (by simpa using hx)) (fun e => absurd (List.reverse_eq_nil_iff.1 e) hr)
theorem comes_found {st : RSt} (h : Live st) {l : List Rc} (hl : l.length ≤ 65535) (hw : ∀ r ∈ l, WfR r) {code : Int} (hcd : code = 0 ∨ code = 3 ∧ l = []) : Comes st (foundP st l code) := by
 have hk := h.base.kept
 have hc1 := h.base.c1
 refine .inr ⟨rfl, h.ok.idle, rfl, rfl, rfl, code, st.kept ++ l, ?_, by omega, by omega, fun r hr => ?_, by rw [List.length_append]; omega, ?_⟩
 ·rcases hcd with e | ⟨_, e⟩
  ·exact .inl e
  ·exact .inr (by rw [e]; simpa using hk)
 ·rcases List.mem_append.1 hr with hr | hr
  ·exact (h.base.recs r hr).1
  ·exact hw r hr
 ·have : doneM st code l = ansM st code (st.kept ++ l) := by unfold doneM ansM; rw [if_neg (by omega)]
  unfold foundP
  rw [this]
theorem comes_stands {st : RSt} (h : Live st) (hb : st.busy = true) {x : Rc} (hx : WfR x) (hn : nameB x.data = true) {k : Int} (h0 : 0 ≤ k) (h1 : k ≤ 65535) : Comes st (standsP st x k) := by
 have hk := h.base.kept
 have hc1 := h.base.c1
 have hd0 := h.base.d0
 unfold standsP
 split
 ·refine Comes.of (st := { st with kept := st.kept ++ [x] }) (.inr (over_fail (h.base.ok' _ (by simp; omega) (fun r hr => ?_) h.len h.chs))) rfl rfl rfl
  rcases List.mem_append.1 hr with hr | hr
  ·exact (h.base.recs r hr).1
  ·rw [List.mem_singleton.1 hr]; exact hx
 ·rename_i hno
  have hB := h.base
  obtain ⟨q, q1, q2, q3, q4⟩ := hB.one
  have hB2 : Base { st with kept := st.kept ++ [x], seen := st.seen ++ [x.data], l := [freshCh st x.data k] } := by
   refine ⟨hB.b0, hB.b1, hB.d0, hB.d1, hB.c0, hB.c1, hB.t0, hB.t1, hB.r0, hB.r1, hB.id0, hB.id1, hB.asked, ?_, fun r hr => ?_, ⟨q, q1, q2, q3, ?_⟩, hB.spent⟩
   ·show ((st.kept ++ [x]).length : Int) ≤ st.c
    have : ¬ st.c < (st.kept.length : Int) + 1 := fun e => hno (.inl e)
    simp
    omega
   ·rcases List.mem_append.1 hr with hr | hr
    ·exact hB.recs r hr
    ·rw [List.mem_singleton.1 hr]; exact ⟨hx, hn⟩
   ·show st.seen ++ [x.data] = q.name :: (st.kept ++ [x]).map Rc.data
    rw [q4]; simp
  refine Comes.of (st := { st with kept := st.kept ++ [x], seen := st.seen ++ [x.data], l := [freshCh st x.data k] }) (comes_send hB2 hb (by show ((0 : Nat) : Int) + 1 ≤ st.d + 1; omega) (fun y hy => ?_) (fresh_srv h.base _ _)) rfl rfl rfl
  have : y = freshCh st x.data k := by simpa using hy
  rw [this]
  exact fresh_ck h.base hn h0 h1
theorem down_ck {t : Int} {c : Ch} (ht : 1 ≤ t) (h : Ck t c) {m : Msg} (hm : Got m) {zone : ByteArray} (hz : nameB zone = true) : Ck t (downC m c zone) := by
 have he := enterC_ok ht h.q hm hz
 have e : enterC c zone (m.au.filter (credB c.zone)) (m.ex.filter (credB c.zone)) = downC m c zone := by
  unfold enterC downC
  rw [filter_of, enter_down]
 obtain ⟨h1, _, _⟩ := enterL_names (m.ex.filter (credB c.zone)) ((m.au.filter (credB c.zone)).filter (kindB zone 2)) ([], [])
 have l1 : ((m.au.filter (credB c.zone)).filter (kindB zone 2)).length ≤ 65535 := Nat.le_trans (List.length_filter_le _ _) (Nat.le_trans (List.length_filter_le _ _) hm.au)
 refine ⟨by rw [← e]; exact he, ?_⟩
 rw [← e]
 show (List.foldl (enterStep (m.ex.filter (credB c.zone))) ([], []) ((m.au.filter (credB c.zone)).filter (kindB zone 2))).1.length ≤ _
 simp only [List.length_nil] at h1
 omega
theorem comes_down {st : RSt} {r : List Ch} {c : Ch} (h : Base st) (hb : st.busy = true) (hl : (r.length : Int) + 1 ≤ st.d + 1) (hc : ∀ x ∈ r ++ [c], Ck st.t x) {m : Msg} (hm : Got m) {zone : ByteArray} (hz : nameB zone = true) : Comes st (downP st r c zone m) := by
 have hd := down_ck h.t0 (hc c (by simp)) hm hz
 have hc2 : ∀ x ∈ r ++ [downC m c zone], Ck st.t x := fun x hx => by
  rcases List.mem_append.1 hx with hx | hx
  ·exact hc x (List.mem_append_left _ hx)
  ·rw [List.mem_singleton.1 hx]; exact hd
 unfold downP
 split
 ·exact Comes.of (comes_look (h.with_l (r ++ [downC m c zone])) hb (downC m c zone :: r.reverse) (by show ((downC m c zone :: r.reverse).length : Int) ≤ st.d + 1; simp; omega) (fun x hx => hc2 x (by simp at hx; simp; exact hx.symm)) (fun e => by cases e)) rfl rfl rfl
 ·rename_i hs
  exact Comes.of (comes_send (h.with_l (r ++ [downC m c zone])) hb hl hc2 hs) rfl rfl rfl
theorem comes_follows {st : RSt} {r : List Ch} {c : Ch} (h : Live st) (hb : st.busy = true) (hl : st.l = r ++ [c]) (hs : c.servers ≠ []) {m : Msg} (hm : Got m) : Comes st (followsP st r c m) := by
 have hc : ∀ x ∈ r ++ [c], Ck st.t x := fun x hx => h.chs x (by rw [hl]; exact hx)
 have hcr : ∀ x ∈ r, Ck st.t x := fun x hx => hc x (List.mem_append_left _ hx)
 have hln : (r.length : Int) + 1 ≤ st.d + 1 := by have := h.len; rw [hl] at this; simp at this; omega
 have hsend := comes_send h.base hb hln hc hs
 have hnext : r ≠ [] → Comes st (nextP st r) := comes_next h.base hb hln hcr
 obtain ⟨q, q1, q2, q3, q4⟩ := h.base.one
 rw [followsP_eq]
 split
 ·exact hsend
 split
 ·have hfl : ∀ x ∈ m.an.filter (ofB c.zone c.name c.kind), WfR x := fun x hx => wf_an hm (List.mem_filter.1 hx).1
  have hfn : (m.an.filter (ofB c.zone c.name c.kind)).length ≤ 65535 := Nat.le_trans (List.length_filter_le _ _) hm.an
  generalize m.an.filter (ofB c.zone c.name c.kind) = Fd at hfl hfn
  unfold gotP
  split
  ·exact comes_found h hfn hfl (.inl rfl)
  ·rename_i p ps hr
   have hr2 : r = ps.reverse ++ [p] := by have := congrArg List.reverse hr; simpa using this
   split
   ·exact hnext (by rw [hr2]; simp)
   ·rename_i hne
    have hp := hcr p (by rw [hr2]; simp)
    have hlen : r.length = ps.length + 1 := by rw [hr2]; simp
    have hal := addrs_len Fd
    refine Comes.of (comes_send (h.base.with_l _) hb (by show (ps.reverse.length : Int) + 1 ≤ st.d + 1; simp; omega) (fun x hx => ?_) hne) rfl rfl rfl
    rcases List.mem_append.1 hx with hx | hx
    ·exact hcr x (by rw [hr2]; exact List.mem_append_left _ hx)
    ·rw [List.mem_singleton.1 hx]
     exact ⟨{ hp.q with servers := by show (addrs Fd).length ≤ _; omega }, hp.few⟩
 ·unfold restP
  split
  ·rename_i x l hx
   split
   ·have hmem : x ∈ m.an.filter (ofB c.zone c.name 5) := by rw [hx]; simp
    obtain ⟨hm1, hm2⟩ := List.mem_filter.1 hmem
    have hk : x.kind = 5 := by
     unfold ofB at hm2
     simp only [Bool.and_eq_true, decide_eq_true_eq] at hm2
     exact hm2.1.2
    have hnm := (hm.named.a x hm1).2 (by rw [hk]; rfl)
    refine comes_stands h hb (wf_an hm hm1) hnm ?_ ?_
    ·rw [q1]; exact q2.2.1
    ·rw [q1]; exact q2.2.2.1
   ·rename_i hr; exact hnext hr
  ·split
   ·split
    ·exact comes_found h (by simp) (by simp) (.inr ⟨rfl, rfl⟩)
    ·rename_i hr; exact hnext hr
   ·split
    ·rename_i x hx
     exact comes_down h.base hb hln hc hm (hm.named.u x (List.mem_of_find?_eq_some hx)).1
    ·split
     ·split
      ·exact comes_found h (by simp) (by simp) (.inl rfl)
      ·rename_i hr; exact hnext hr
     ·exact hsend
theorem comes_late {st : RSt} (h : Inv st) (hb : st.busy = true) : Comes st ((lateS st).1, (lateS st).2.1) ∧ (lateS st).2.2 = 0 := by
 have hl := h.live hb
 obtain ⟨r, c, e, hs⟩ := hl.last
 have e2 : lateS st = ((sendP st r c).1, (sendP st r c).2, 0) := by
  unfold lateS
  rw [if_pos hb, e]
  simp
 rw [e2]
 exact ⟨comes_send hl.base hb (by have := hl.len; rw [e] at this; simp at this; omega) (fun x hx => hl.chs x (by rw [e]; exact hx)) hs, rfl⟩
theorem comes_heard {st : RSt} (h : Inv st) (hb : st.busy = true) (fr : Int) (s : ByteArray) : heardS st fr s = (st, stepV 0 0 ⟨#[]⟩, 0) ∨ (Comes st ((heardS st fr s).1, (heardS st fr s).2.1) ∧ (heardS st fr s).2.2 = 0) := by
 have hl := h.live hb
 obtain ⟨r, c, e, hs⟩ := hl.last
 unfold heardS
 rw [if_pos hb]
 cases hu : unpack s with
 | none => exact .inl rfl
 | some m =>
  dsimp only
  have e2 : st.l.reverse = c :: r.reverse := by rw [e]; simp
  rw [e2]
  dsimp only
  rw [List.reverse_reverse]
  split
  ·exact .inr ⟨comes_follows hl hb e hs (unpack_got hu), rfl⟩
  ·exact .inl rfl
theorem idle_late {st : RSt} (hb : st.busy = false) : lateS st = (st, stepV 0 0 ⟨#[]⟩, 3) := by
 unfold lateS
 rw [if_neg (by rw [hb]; simp)]
theorem idle_heard {st : RSt} (hb : st.busy = false) (fr : Int) (s : ByteArray) : heardS st fr s = (st, stepV 0 0 ⟨#[]⟩, 3) := by
 unfold heardS
 rw [if_neg (by rw [hb]; simp)]
theorem late_inv {st : RSt} (h : Inv st) : Inv (lateS st).1 := by
 cases hb : st.busy with
 | false => rw [idle_late hb]; exact h
 | true => exact (comes_late h hb).1.keeps
theorem heard_inv {st : RSt} (h : Inv st) (fr : Int) (s : ByteArray) : Inv (heardS st fr s).1 := by
 cases hb : st.busy with
 | false => rw [idle_heard hb]; exact h
 | true =>
  rcases comes_heard h hb fr s with e | e
  ·rw [e]; exact h
  ·exact e.1.keeps
theorem comes_begin {st : RSt} (h : StOk st) {m : Msg} {q : Qn} (hm : WfM m) (hq : m.qs = [q]) (hn : NamedQ q) (hc : q.cls = 1) : Comes (beginSt st m q) (askP (beginSt st m q) [] (freshCh st q.name q.kind)) := by
 have hB : Base (beginSt st m q) := ⟨h.b0, h.b1, h.d0, h.d1, h.c0, h.c1, h.t0, h.t1, h.r0, h.r1, h.id0, h.id1, hm, h.c0, (fun r hr => by cases hr), ⟨q, hq, hn, hc, rfl⟩, by have := h.b0; show ((0 : Nat) : Int) ≤ st.b; omega⟩
 refine comes_ask hB rfl (by have := h.d0; show ((0 : Nat) : Int) + 1 ≤ st.d + 1; omega) (fun x hx => ?_) (fresh_srv hB _ _) (by have := h.t0; show ((0 : Nat) : Int) < st.t; omega)
 have : x = freshCh st q.name q.kind := by simpa using hx
 rw [this]
 exact fresh_ck hB hn.1 hn.2.1 hn.2.2.1
theorem ask_inv {st : RSt} (h : Inv st) (s : ByteArray) : Inv (askS st s).1 := by
 unfold askS
 split
 ·exact h
 split
 ·exact h
 split
 ·exact h
 rename_i m hu
 split
 ·exact h
 split
 ·rename_i q hq
  split
  ·exact h
  ·rename_i hn
   have h1 : q.cls = 1 := Classical.byContradiction fun e => hn (.inr e)
   exact (comes_begin h.ok (unpack_wf hu) hq ((unpack_named hu).q q (by rw [hq]; simp)) h1).keeps
 ·exact h
theorem new_inv {b d c t : Int} {rs : List Int} (h : confOk b d c t rs) : Inv (newSt b d c t rs) := ⟨newSt_ok h, fun e => by cases e⟩
end Go.Proofs.YtafoepfhepdcoaaGreat
