import Derived.Test.YtafoepfhepdcoaaGreatM47
import Derived.Test.YtafoepfhepdcoaaGreatM34
import Derived.Test.YtafoepfhepdcoaaGreatM44
set_option maxRecDepth 100000
set_option maxHeartbeats 8000000
namespace Go.Proofs.YtafoepfhepdcoaaGreat
open Go.RowKit Go.Trawl
attribute [local go_sem] Stg.upon buildSt0
structure HM (w W : World) (rb : Nat) (st : RSt) (V : RV) (cs : List ChV) (M : Nat) (m : Msg) (vq va vu vx : Value) : Prop where
 bg : Begun w W rb st V cs
 msg : W.heap[M]? = some (.cells (mc_ m vq va vu vx) 30)
 at_ : MsgAt W m vq va vu vx
theorem HM.next {w W W' : World} {rb : Nat} {st : RSt} {V : RV} {cs : List ChV} {M : Nat} {m : Msg} {vq va vu vx : Value} (h : HM w W rb st V cs M m vq va vu vx) (hb : Below W.heap.size W W') : HM w W' rb st V cs M m vq va vu vx :=
 ⟨h.bg.below hb, (hb.block _ (hl_ h.msg)).trans h.msg, h.at_.below hb⟩
theorem bg_chase {w W : World} {rb : Nat} {st : RSt} {V : RV} {cs : List ChV} {c : ChV} (h : Begun w W rb st V (cs ++ [c])) {g n cap : Nat} (hv : V.vL = .slice (some ⟨g, 0, none⟩) n cap) (j : Nat) (hj : j < 6) : W.cell? ⟨g, cs.length * 6 + j, none⟩ = c.cells[j]? := by
 obtain ⟨g', cap', cur, e, hg, _, _, _, k4⟩ := row_at h.ref
 rw [hv] at e
 cases e
 exact ch_cells hg k4 j hj
theorem bg_tail {w W w5 : World} {rb : Nat} {st : RSt} {V : RV} {cs : List ChV} (h : Begun w W rb st V cs) {p : RSt} (H : ∃ V' cs', RefAt w5 rb p V' cs' ∧ Fr W w5 (V.owns cs rb) (V'.owns cs' rb)) :
  w5.heap[w.heap.size]? = some (.cells #[.int .i64 0, .int .u32 0, .string ⟨#[]⟩] 111) ∧ ∀ v0 v1 v2, ∃ V' cs', RefAt (put3 w5 w.heap.size v0 v1 v2) rb p V' cs' ∧ Fr w (put3 w5 w.heap.size v0 v1 v2) (V.owns cs rb) (V'.owns cs' rb) := by
 obtain ⟨V', cs', h5, f5⟩ := H
 have hz := hl_ h.res
 have hno : ¬ V.owns cs rb w.heap.size := fun e => by have := h.lt _ e; omega
 refine ⟨(f5.block _ hz hno).trans h.res, fun v0 v1 v2 => ?_⟩
 have hG := pg_ w5 w.heap.size v0 v1 v2
 refine ⟨V', cs', h5.aside hG (fun e => ?_), (h.fr.trans f5).write hG (Nat.le_refl _)⟩
 rcases f5.new _ e with e | e
 ·exact hno e
 ·omega
theorem followsP_step (st : RSt) (r : List Ch) (c : Ch) (m : Msg) : ∃ k t s, (followsP st r c m).2 = stepV k t s := by
 unfold followsP
 dsimp only
 repeat (first | exact sendP_step _ _ _ | exact foundP_step _ _ _ | exact standsP_step _ _ _ | exact lookP_step _ _ | exact downP_step _ _ _ _ _ | split)
def heardB (st : RSt) (r : List Ch) (c : Ch) (fr : Int) (s : ByteArray) : RSt × Value × Int :=
 match unpack s with
 | none => (st, stepV 0 0 ⟨#[]⟩, 0)
 | some m => if fitsP st c fr m then ((followsP st r c m).1, (followsP st r c m).2, 0) else (st, stepV 0 0 ⟨#[]⟩, 0)
theorem heardS_busy {st : RSt} {r : List Ch} {c : Ch} {fr : Int} {s : ByteArray} (hb : st.busy = true) (hl : st.l = r ++ [c]) : heardS st fr s = heardB st r c fr s := by
 unfold heardS heardB
 rw [if_pos hb]
 cases unpack s with
 | none => rfl
 | some m =>
  have e : st.l.reverse = c :: r.reverse := by rw [hl]; simp
  rw [e]
  simp
theorem heardB_no {st : RSt} {r : List Ch} {c : Ch} {fr : Int} {s : ByteArray} (h : ∀ m, unpack s = some m → fitsP st c fr m = false) : heardB st r c fr s = (st, stepV 0 0 ⟨#[]⟩, 0) := by
 unfold heardB
 cases hu : unpack s with
 | none => rfl
 | some m =>
  dsimp only
  rw [if_neg (by rw [h m hu]; exact Bool.false_ne_true)]
theorem heardB_yes {st : RSt} {r : List Ch} {c : Ch} {fr : Int} {s : ByteArray} {m : Msg} (hu : unpack s = some m) (h : fitsP st c fr m = true) : heardB st r c fr s = ((followsP st r c m).1, (followsP st r c m).2, 0) := by
 unfold heardB
 rw [hu]
 dsimp only
 rw [if_pos h]
theorem rHeard_idle (w : World) (rb : Nat) (st : RSt) (V : RV) (cs : List ChV) (fr : Int) (s : ByteArray) (h : RefAt w rb st V cs) (hbz : st.busy = false) :
  Calls Tryz.prog 55 #[.pointer (some ⟨rb, 0, none⟩), .int .u32 fr, .string s] w (Answers w rb V cs (st, stepV 0 0 ⟨#[]⟩, 3)) := by
 have H1 := hide (Begun.start h)
 have H := hide h
 clear h
 unfold Answers
 have hc := bc_ H1.out.ref.box
 simp only [refCells, hbz] at hc
 go_enter Tryz.func55, Tryz.ntmps55
 go_wp2_with fail
 refine bodyPost_ret (rr_ rfl _ _ w.heap.size _ _ _ _ rfl (hn_ w _) undSt rfl (by kernel_rfl)) rfl ?_
 have hB := (Below.refl w.heap.size w).alloc (Nat.le_refl _) (.cells #[.int .i64 0, .int .u32 0, .string ⟨#[]⟩] 111)
 exact ⟨rfl, V, cs, H.out.keep hB, Fr.of_below hB _⟩
theorem rHeard_busy (w : World) (rb : Nat) (st : RSt) (V : RV) (cs : List ChV) (c : ChV) (fr : Int) (s : ByteArray) (q : Qn) (h : RefAt w rb st V (cs ++ [c])) (hbz : st.busy = true) (hok : StOk st) (hne : c.ch.servers ≠ []) (hcn : nameB c.ch.name = true) (hq : st.asked.qs = [q]) (hqk : 0 ≤ q.kind ∧ q.kind ≤ 65535) (hsn : st.seen.length ≤ 999) (hsm : s.size ≤ 2097152) :
  Calls Tryz.prog 55 #[.pointer (some ⟨rb, 0, none⟩), .int .u32 fr, .string s] w (Answers w rb V (cs ++ [c]) (heardS st fr s)) := by
 obtain ⟨P, hP⟩ : ∃ P, P = heardS st fr s := ⟨_, rfl⟩
 rw [← hP]
 have hp : P = heardB st (cs.map ChV.ch) c.ch fr s := by rw [hP, heardS_busy hbz (r := cs.map ChV.ch) (c := c.ch) (by rw [← h.chs]; simp)]
 have HP := hide hp
 clear hp hP
 have H1 := hide (Begun.start h)
 have HOK := hide hok
 have HCN := hide hcn
 have HQ := hide hq
 have hcl : cs.length ≤ 1000 := by
  have := hok.len
  rw [← h.chs] at this
  simp at this
  omega
 obtain ⟨g, cap, cur, hvL, hg, -, -, -, -⟩ := row_at h
 have HVL := hide hvL
 clear h hok hcn hq hg hvL
 unfold Answers
 have hc := bc_ H1.out.ref.box
 simp only [refCells, hbz] at hc
 rw [HVL.out] at hc
 go_enter Tryz.func55, Tryz.ntmps55
 go_wp2_with fail
 generalize w.alloc _ = W1 at H1 hc ⊢
 go_quiet (fail)
 have hb2 : Below W1.heap.size W1 (W1.drewN nq) := below_drewN (Below.refl _ _) _
 have H2 := hide (H1.out.below hb2)
 clear hb2 H1 hc
 generalize W1.drewN nq = W2 at H2 ⊢
 clear nq
 go_wp2_with fail
 refine (rUnpack2 W2 s hsm).mono ?_
 rintro e w3 ⟨aq, cq, aa, ca, au, cu, ax, cx, rfl, H3⟩
 have HBG3 := hide (H2.out.below H3.out.1)
 have HAT3 := hide H3.out.2.1
 clear H3 H2
 have HM4 : Hid (HM w (w3.alloc (.cells (mc_ (unM s) (.slice aq (unM s).qs.length cq) (.slice aa (unM s).an.length ca) (.slice au (unM s).au.length cu) (.slice ax (unM s).ex.length cx)) 30)) rb st V (cs ++ [c]) w3.heap.size (unM s) (.slice aq (unM s).qs.length cq) (.slice aa (unM s).an.length ca) (.slice au (unM s).au.length cu) (.slice ax (unM s).ex.length cx)) := by
  have hb := (Below.refl w3.heap.size w3).alloc (Nat.le_refl _) (.cells (mc_ (unM s) (.slice aq (unM s).qs.length cq) (.slice aa (unM s).an.length ca) (.slice au (unM s).au.length cu) (.slice ax (unM s).ex.length cx)) 30)
  exact ⟨HBG3.out.below hb, hn_ _ _, HAT3.out.below hb⟩
 clear HBG3 HAT3
 have HE : Hid ((unpack s = none ∧ unE s = 1) ∨ (unpack s = some (unM s) ∧ unE s = 0)) := by
  unfold Hid
  cases hu : unpack s with
  | none => exact .inl ⟨rfl, unM_none hu⟩
  | some m => exact .inr ⟨by rw [(unM_some hu).1], (unM_some hu).2⟩
 have HGT : Hid (unpack s = some (unM s) → Got (unM s)) := fun e => unpack_got e
 generalize unM s = m at HM4 HE HGT ⊢
 generalize unE s = er at HE ⊢
 obtain ⟨M, hM⟩ : ∃ M, M = w3.heap.size := ⟨_, rfl⟩
 simp only [mc_] at HM4 ⊢
 go_wp2_with fail
 rw [← hM] at HM4 ⊢
 generalize w3.alloc _ = W4 at HM4 ⊢
 clear hM
 have hc0 := bc_ HM4.out.bg.ref.box
 simp only [refCells] at hc0
 have hcm := bc_ HM4.out.msg
 by_cases hfr : fr = st.to
 rotate_left
 ·have hfr' : ((fr : Int) != st.to) = true := by simp; exact hfr
  have HPP : Hid (P = (st, stepV 0 0 ⟨#[]⟩, 0)) := by
   unfold Hid
   rw [HP.out]
   refine heardB_no (fun m' _ => ?_)
   unfold fitsP
   split <;> simp [hfr]
  go_quiet (fail)
  have HM5 := hide (HM4.out.next (below_drewN (Below.refl _ _) nq))
  clear HM4 hc0 hcm
  generalize W4.drewN nq = W5 at HM5 ⊢
  have hcz := bc_ (HM5).out.bg.res
  have hfz := fz_ (HM5).out.bg.res
  go_wp2_with fail
  clear hcz hfz
  refine bodyPost_ret (rr_ rfl _ _ (w).heap.size _ _ _ _ rfl (pb_ (.int .i64 0) (.int .u32 0) (.string ⟨#[]⟩) (HM5).out.bg.res) undSt rfl (by kernel_rfl)) rfl ?_
  exact ⟨by rw [(HPP).out]; rfl, by rw [(HPP).out]; exact ⟨_, _, (HM5).out.bg.put _ _ _⟩⟩
 subst hfr
 have hto : ((st.to : Int) != st.to) = false := by simp
 rcases HE.out with ⟨hu, rfl⟩ | ⟨hu, rfl⟩
 ·have HPP : Hid (P = (st, stepV 0 0 ⟨#[]⟩, 0)) := by
   unfold Hid
   rw [HP.out]
   exact heardB_no (fun m' h => by rw [hu] at h; cases h)
  clear HE hu
  go_quiet (fail)
  have HM5 := hide (HM4.out.next (below_drewN (Below.refl _ _) nq))
  clear HM4 hc0 hcm
  generalize W4.drewN nq = W5 at HM5 ⊢
  have hcz := bc_ (HM5).out.bg.res
  have hfz := fz_ (HM5).out.bg.res
  go_wp2_with fail
  clear hcz hfz
  refine bodyPost_ret (rr_ rfl _ _ (w).heap.size _ _ _ _ rfl (pb_ (.int .i64 0) (.int .u32 0) (.string ⟨#[]⟩) (HM5).out.bg.res) undSt rfl (by kernel_rfl)) rfl ?_
  exact ⟨by rw [(HPP).out]; rfl, by rw [(HPP).out]; exact ⟨_, _, (HM5).out.bg.put _ _ _⟩⟩
 have HG := hide (HGT.out hu)
 have HU := hide hu
 have HNO : Hid (fitsP st c.ch st.to m = false → P = (st, stepV 0 0 ⟨#[]⟩, 0)) := fun hf => by
  rw [HP.out]
  exact heardB_no (fun m' h => by rw [HU.out] at h; cases h; exact hf)
 have HYES : Hid (fitsP st c.ch st.to m = true → P = ((followsP st (cs.map ChV.ch) c.ch m).1, (followsP st (cs.map ChV.ch) c.ch m).2, 0)) := fun hf => by
  rw [HP.out]
  exact heardB_yes HU.out hf
 clear HE HGT hu HU HP
 cases hrp : m.resp
 ·have HPP : Hid (P = (st, stepV 0 0 ⟨#[]⟩, 0)) := HNO.out (by unfold fitsP; rw [hrp]; rfl)
  simp only [mc_, hrp] at hcm
  clear hrp
  go_quiet (fail)
  have HM5 := hide (HM4.out.next (below_drewN (Below.refl _ _) nq))
  clear HM4 hc0 hcm
  generalize W4.drewN nq = W5 at HM5 ⊢
  have hcz := bc_ (HM5).out.bg.res
  have hfz := fz_ (HM5).out.bg.res
  go_wp2_with fail
  clear hcz hfz
  refine bodyPost_ret (rr_ rfl _ _ (w).heap.size _ _ _ _ rfl (pb_ (.int .i64 0) (.int .u32 0) (.string ⟨#[]⟩) (HM5).out.bg.res) undSt rfl (by kernel_rfl)) rfl ?_
  exact ⟨by rw [(HPP).out]; rfl, by rw [(HPP).out]; exact ⟨_, _, (HM5).out.bg.put _ _ _⟩⟩
 simp only [mc_, hrp] at hcm
 have HRP := hide hrp
 clear hrp
 by_cases hid : m.id = st.id
 rotate_left
 ·have hid' : ((m.id : Int) != st.id) = true := by simp; exact hid
  have HPP : Hid (P = (st, stepV 0 0 ⟨#[]⟩, 0)) := HNO.out (by unfold fitsP; rw [decide_eq_false hid]; simp)
  go_quiet (fail)
  have HM5 := hide (HM4.out.next (below_drewN (Below.refl _ _) nq))
  clear HM4 hc0 hcm
  generalize W4.drewN nq = W5 at HM5 ⊢
  have hcz := bc_ (HM5).out.bg.res
  have hfz := fz_ (HM5).out.bg.res
  go_wp2_with fail
  clear hcz hfz
  refine bodyPost_ret (rr_ rfl _ _ (w).heap.size _ _ _ _ rfl (pb_ (.int .i64 0) (.int .u32 0) (.string ⟨#[]⟩) (HM5).out.bg.res) undSt rfl (by kernel_rfl)) rfl ?_
  exact ⟨by rw [(HPP).out]; rfl, by rw [(HPP).out]; exact ⟨_, _, (HM5).out.bg.put _ _ _⟩⟩
 have hid' : ((m.id : Int) != st.id) = false := by simp; exact hid
 have HID := hide hid
 clear hid
 by_cases hql : m.qs.length = 1
 rotate_left
 ·have hql' : ((m.qs.length : Int) != 1) = true := by simp; omega
  have HPP : Hid (P = (st, stepV 0 0 ⟨#[]⟩, 0)) := HNO.out (by
   unfold fitsP
   match hm : m.qs with
   | [] => simp
   | [q] => rw [hm] at hql; simp at hql
   | a :: b :: l => simp)
  go_quiet (fail)
  have HM5 := hide (HM4.out.next (below_drewN (Below.refl _ _) nq))
  clear HM4 hc0 hcm
  generalize W4.drewN nq = W5 at HM5 ⊢
  have hcz := bc_ (HM5).out.bg.res
  have hfz := fz_ (HM5).out.bg.res
  go_wp2_with fail
  clear hcz hfz
  refine bodyPost_ret (rr_ rfl _ _ (w).heap.size _ _ _ _ rfl (pb_ (.int .i64 0) (.int .u32 0) (.string ⟨#[]⟩) (HM5).out.bg.res) undSt rfl (by kernel_rfl)) rfl ?_
  exact ⟨by rw [(HPP).out]; rfl, by rw [(HPP).out]; exact ⟨_, _, (HM5).out.bg.put _ _ _⟩⟩
 have hql' : ((m.qs.length : Int) != 1) = false := by simp; omega
 obtain ⟨q', hq'⟩ : ∃ q', m.qs = [q'] := List.length_eq_one_iff.1 hql
 have HQ' := hide hq'
 clear hq'
 go_quiet (fail)
 have HM5 := hide (HM4.out.next (below_drewN (Below.refl _ _) nq))
 clear HM4 hc0 hcm hid' hql' hto
 generalize W4.drewN nq = W5 at HM5 ⊢
 clear nq
 have hatq := HM5.out.at_.q
 rw [HQ'.out] at hatq
 obtain ⟨b, off, rfl, c0, c1, c2⟩ := q_one hatq
 clear hatq
 have hcm := bc_ HM5.out.msg
 simp only [mc_] at hcm
 rw [hql] at hcm
 have hg0 : W5.cell? ⟨g, cs.length * 6, none⟩ = some (.string c.ch.name) := (bg_chase HM5.out.bg HVL.out 0 (by decide)).trans rfl
 have hg1 : W5.cell? ⟨g, cs.length * 6 + 1, none⟩ = some (.int .u16 c.ch.kind) := (bg_chase HM5.out.bg HVL.out 1 (by decide)).trans rfl
 have HNQ : Hid (q'.name.size ≤ 2097152) := by
  have h1 := (nameB_size (HG.out.named.q q' (by rw [HQ'.out]; simp)).1).2
  unfold Hid
  omega
 have HFT : Hid (fitsP st c.ch st.to m = (sameB q'.name c.ch.name && decide (q'.kind = c.ch.kind) && decide (q'.cls = 1))) := by
  unfold Hid fitsP
  rw [HRP.out, HID.out, HQ'.out]
  simp
 go_wp2_with fail
 have hb6 : Below W5.heap.size W5 (W5.alloc (.cells #[.string q'.name, .int .u16 q'.kind, .int .u16 q'.cls] 41)) := (Below.refl _ _).alloc (Nat.le_refl _) _
 have hx6 := hn_ W5 (.cells #[.string q'.name, .int .u16 q'.kind, .int .u16 q'.cls] 41)
 have HM6 := hide (HM5.out.next hb6)
 clear hb6 HM5 hcm hg0 hg1 c0 c1 c2
 generalize W5.alloc _ = W6 at hx6 HM6 ⊢
 have hc6 := bc_ hx6
 have hg0 : W6.cell? ⟨g, cs.length * 6, none⟩ = some (.string c.ch.name) := (bg_chase HM6.out.bg HVL.out 0 (by decide)).trans rfl
 go_quiet ((go_at_call 90; exact quiet_drew (refSame_any q'.name c.ch.name HNQ.out _)))
 have hb7 : Below W6.heap.size W6 (W6.drewN nq) := below_drewN (Below.refl _ _) _
 have HM7 := hide (HM6.out.next hb7)
 have hx7 := (hb7.block _ (hl_ hx6)).trans hx6
 clear hb7 HM6 hx6 hc6 hg0
 generalize W6.drewN nq = W7 at HM7 hx7 ⊢
 clear nq
 have hc7 := bc_ hx7
 have hg1 : W7.cell? ⟨g, cs.length * 6 + 1, none⟩ = some (.int .u16 c.ch.kind) := (bg_chase HM7.out.bg HVL.out 1 (by decide)).trans rfl
 generalize sameB q'.name c.ch.name = b1 at HFT ⊢
 cases b1
 ·have HPP : Hid (P = (st, stepV 0 0 ⟨#[]⟩, 0)) := HNO.out (by rw [HFT.out]; simp)
  go_wp2_with fail
  go_quiet (fail)
  have HM8 := hide (HM7.out.next (below_drewN (Below.refl _ _) nq))
  clear HM7 hx7 hc7 hg1
  generalize W7.drewN nq = W8 at HM8 ⊢
  have hcz := bc_ (HM8).out.bg.res
  have hfz := fz_ (HM8).out.bg.res
  go_wp2_with fail
  clear hcz hfz
  refine bodyPost_ret (rr_ rfl _ _ (w).heap.size _ _ _ _ rfl (pb_ (.int .i64 0) (.int .u32 0) (.string ⟨#[]⟩) (HM8).out.bg.res) undSt rfl (by kernel_rfl)) rfl ?_
  exact ⟨by rw [(HPP).out]; rfl, by rw [(HPP).out]; exact ⟨_, _, (HM8).out.bg.put _ _ _⟩⟩
 by_cases hkd : q'.kind = c.ch.kind
 rotate_left
 ·have HPP : Hid (P = (st, stepV 0 0 ⟨#[]⟩, 0)) := HNO.out (by rw [HFT.out, decide_eq_false hkd]; simp)
  have hkd' : ((q'.kind : Int) != c.ch.kind) = true := by simp; exact hkd
  go_wp2_with fail
  go_quiet (fail)
  have HM8 := hide (HM7.out.next (below_drewN (Below.refl _ _) nq))
  clear HM7 hx7 hc7 hg1
  generalize W7.drewN nq = W8 at HM8 ⊢
  have hcz := bc_ (HM8).out.bg.res
  have hfz := fz_ (HM8).out.bg.res
  go_wp2_with fail
  clear hcz hfz
  refine bodyPost_ret (rr_ rfl _ _ (w).heap.size _ _ _ _ rfl (pb_ (.int .i64 0) (.int .u32 0) (.string ⟨#[]⟩) (HM8).out.bg.res) undSt rfl (by kernel_rfl)) rfl ?_
  exact ⟨by rw [(HPP).out]; rfl, by rw [(HPP).out]; exact ⟨_, _, (HM8).out.bg.put _ _ _⟩⟩
 have hkd' : ((q'.kind : Int) != c.ch.kind) = false := by simp; exact hkd
 by_cases hcl : q'.cls = 1
 rotate_left
 ·have HPP : Hid (P = (st, stepV 0 0 ⟨#[]⟩, 0)) := HNO.out (by rw [HFT.out, decide_eq_false hcl]; simp)
  have hcl' : ((q'.cls : Int) != 1) = true := by simp; exact hcl
  have HKD := hide hkd
  clear hkd
  go_wp2_with fail
  go_quiet (fail)
  have HM8 := hide (HM7.out.next (below_drewN (Below.refl _ _) nq))
  clear HM7 hx7 hc7 hg1
  generalize W7.drewN nq = W8 at HM8 ⊢
  have hcz := bc_ (HM8).out.bg.res
  have hfz := fz_ (HM8).out.bg.res
  go_wp2_with fail
  clear hcz hfz
  refine bodyPost_ret (rr_ rfl _ _ (w).heap.size _ _ _ _ rfl (pb_ (.int .i64 0) (.int .u32 0) (.string ⟨#[]⟩) (HM8).out.bg.res) undSt rfl (by kernel_rfl)) rfl ?_
  exact ⟨by rw [(HPP).out]; rfl, by rw [(HPP).out]; exact ⟨_, _, (HM8).out.bg.put _ _ _⟩⟩
 have hcl' : ((q'.cls : Int) != 1) = false := by simp; exact hcl
 have HPP : Hid (P = ((followsP st (cs.map ChV.ch) c.ch m).1, (followsP st (cs.map ChV.ch) c.ch m).2, 0)) := HYES.out (by rw [HFT.out, decide_eq_true hkd, decide_eq_true hcl]; rfl)
 clear hkd hcl HYES HNO HFT
 go_wp2_with fail
 go_quiet (fail)
 have HM8 := hide (HM7.out.next (below_drewN (Below.refl _ _) nq))
 clear HM7 hx7 hc7 hg1 hkd' hcl'
 generalize W7.drewN nq = W8 at HM8 ⊢
 clear nq
 have hcm := bc_ HM8.out.msg
 simp only [mc_] at hcm
 go_wp2_with fail
 have hfo := follows_any W8 rb st V cs c m (.slice (some ⟨b, off, none⟩) m.qs.length cq) (.slice aa m.an.length ca) (.slice au m.au.length cu) (.slice ax m.ex.length cx) q HM8.out.bg.ref HOK.out hne HCN.out HG.out HM8.out.at_ HQ.out hqk hsn
 unfold mc_ at hfo
 rw [hql] at hfo
 refine hfo.mono ?_
 clear hfo hcm
 rintro e w9 ⟨he, H9⟩
 obtain ⟨k9, t9, s9, hst⟩ := followsP_step st (cs.map ChV.ch) c.ch m
 have hT := bg_tail HM8.out.bg H9.out
 have HX9 := hide hT.1
 have HT9 := hide hT.2
 rw [hst] at he
 subst he
 have HST := hide hst
 clear hT hst H9 HM8
 have hcz := bc_ HX9.out
 have hfz := fz_ HX9.out
 unfold stepV
 go_wp2_with fail
 clear hcz hfz
 refine bodyPost_ret (rr_ rfl _ _ w.heap.size _ _ _ _ rfl (pb_ (.int .i64 k9) (.int .u32 t9) (.string s9) HX9.out) undSt rfl (by kernel_rfl)) rfl ?_
 exact ⟨by rw [HPP.out, HST.out]; rfl, by rw [HPP.out]; exact HT9.out _ _ _⟩
theorem rHeard_any (w : World) (rb : Nat) (st : RSt) (V : RV) (cs : List ChV) (fr : Int) (s : ByteArray) (h : RefAt w rb st V cs) (hi : Inv st) (hsm : s.size ≤ 2097152) :
  Calls Tryz.prog 55 #[.pointer (some ⟨rb, 0, none⟩), .int .u32 fr, .string s] w (Answers w rb V cs (heardS st fr s)) := by
 cases hb : st.busy with
 | false => rw [idle_heard hb]; exact rHeard_idle w rb st V cs fr s h hb
 | true =>
  have hl := hi.live hb
  obtain ⟨r, c, e, hs⟩ := hl.last
  obtain ⟨q, q1, q2, q3, q4⟩ := hl.base.one
  rcases nil_or_snoc cs with rfl | ⟨cs', c', rfl⟩
  ·have := h.chs; rw [e] at this; simp at this
  ·have hc : c'.ch = c := by have := h.chs; rw [e] at this; simp at this; exact this.2
   have hmem : c ∈ st.l := by rw [e]; simp
   have hk := hl.base.kept
   have hc1 := hl.base.c1
   exact rHeard_busy w rb st V cs' c' fr s q h hb hi.ok (by rw [hc]; exact hs) (by rw [hc]; exact (hl.chs c hmem).q.name) q1 ⟨q2.2.1, q2.2.2.1⟩ (by rw [q4]; simp; omega) hsm
theorem rLate_any (w : World) (rb : Nat) (st : RSt) (V : RV) (cs : List ChV) (h : RefAt w rb st V cs) (hi : Inv st) :
  Calls Tryz.prog 56 #[.pointer (some ⟨rb, 0, none⟩)] w (Answers w rb V cs (lateS st)) := by
 cases hb : st.busy with
 | false => rw [idle_late hb]; exact rLate_idle w rb st V cs h hb
 | true =>
  have hl := hi.live hb
  obtain ⟨r, c, e, hs⟩ := hl.last
  rcases nil_or_snoc cs with rfl | ⟨cs', c', rfl⟩
  ·have := h.chs; rw [e] at this; simp at this
  ·have hc : c'.ch = c := by have := h.chs; rw [e] at this; simp at this; exact this.2
   have e2 : lateS st = ((sendP st (cs'.map ChV.ch) c'.ch).1, (sendP st (cs'.map ChV.ch) c'.ch).2, 0) := by
    unfold lateS
    rw [if_pos hb, ← h.chs]
    simp
   rw [e2]
   exact rLate_busy w rb st V cs' c' h hb hi.ok (by rw [hc]; exact hs)
end Go.Proofs.YtafoepfhepdcoaaGreat
namespace Go.Proofs.YtafoepfhepdcoaaGreat
open Go.RowKit Go.Trawl Go.MuLone
attribute [local go_sem] buildX0 buildX1
theorem sHeard_any (w : World) (sb b c : Nat) (q : QSt) (V : QV) (cs : List QC) (st : RSt) (fr : Int) (s : ByteArray) (h : QAt w sb q V cs) (hqk : QOk q) (hsim : Sim q st) (hsm : s.size ≤ 2097152) (hsc : s.size ≤ c) (hbl : b < w.heap.size) (hby : Bytes w b s) :
  Calls Tryz.prog 43 #[.pointer (some ⟨sb, 0, none⟩), .int .u32 fr, .slice (some ⟨b, 0, none⟩) s.size c] w (Tells w sb (V.owns cs sb) (heardS st fr s)) := by
 cases hb : st.busy with
 | true => exact sHeard_busy w sb b c q V cs st fr s h hqk hsim hb hsm hsc hbl hby
 | false => exact sHeard_idle w sb b c q V cs st fr s h hqk hsim hb
theorem pHeard_any (w : World) (xb sb b c : Nat) (vr : PV) (st : RSt) (fr : Int) (s : ByteArray) (h : PAt w xb sb vr st) (hsm : s.size ≤ 2097152) (hsc : s.size ≤ c) (hbl : b < w.heap.size) (hby : Bytes w b s) (hbx : b ≠ xb) :
  Calls Tryz.prog 23 #[.pointer (some ⟨xb, 0, none⟩), .int .u32 fr, .slice (some ⟨b, 0, none⟩) s.size c] w (Speaks w xb sb vr (heardS st fr s)) := by
 obtain ⟨z, hz⟩ := h.box
 obtain ⟨q, hq, hqk, hsim⟩ := h.at_
 have hxl : xb < w.heap.size := hl_ hz
 have hb1 := (Below.refl w.heap.size w).alloc (Nat.le_refl _) (.cells #[.int .i64 0, .int .u32 0, .slice none 0 0] 59)
 have HZ1 := hide ((hb1.block xb hxl).trans hz)
 have HS1 := hide (hq.below hb1)
 have HX1 := hide (hn_ w (.cells #[.int .i64 0, .int .u32 0, .slice none 0 0] 59))
 have HY1 := hide (hby.below hbl hb1)
 have HB1 := hide hb1
 have HNX := hide h.nx
 have HLT := hide h.lt
 have HQK := hide hqk
 have HSIM := hide hsim
 have hc := bc_ HZ1.out
 have hf := fz_ HZ1.out
 clear h hb1 hby hz hq hqk hsim
 unfold Speaks
 go_enter_defers Tryz.func23, Tryz.ntmps23
 go_wp2_with fail
 refine (lock_free muLib ⟨xb, 0, none⟩ _ (hc 0) (hf 0)).mono ?_
 rintro e w1 ⟨rfl, rfl⟩
 generalize w.alloc (.cells #[.int .i64 0, .int .u32 0, .slice none 0 0] 59) = W1 at HZ1 HS1 HX1 HY1 HB1 hc hf ⊢
 have hz1 : w.heap.size < W1.heap.size := hl_ HX1.out
 have hG2 := gs_ W1 xb 0 (.int .i32 1)
 have HF2 : Hid (Fr w (W1.setCell ⟨xb, 0, none⟩ (.int .i32 1)) (pOwns xb sb vr) (pOwns xb sb vr)) := (Fr.of_below HB1.out (pOwns xb sb vr)).turn hG2 (.inl (.inl rfl)) (fun i hi => .inl hi)
 have HZ2 : Hid ((W1.setCell ⟨xb, 0, none⟩ (.int .i32 1)).heap[xb]? = some (.cells #[.int .i32 1, z, .pointer (some ⟨sb, 0, none⟩)] 96)) := hs_ (j := 0) HZ1.out (.int .i32 1)
 have HS2 := hide (HS1.out.aside hG2 HNX.out)
 have HX2 := hide ((hG2.block _ hz1 (by simp; omega)).trans HX1.out)
 have HY2 := hide (HY1.out.grown (by omega) hG2 hbx)
 clear hG2 hc hf HZ1 HS1 HX1 HY1
 generalize W1.setCell ⟨xb, 0, none⟩ (.int .i32 1) = W2 at HF2 HZ2 HS2 HX2 HY2 ⊢
 have hz2 : w.heap.size < W2.heap.size := hl_ HX2.out
 have hc := bc_ HZ2.out
 go_wp2_with fail
 refine (sHeard_any W2 sb b c q vr.V vr.cs st fr s HS2.out HQK.out HSIM.out hsm hsc (by omega) HY2.out).mono ?_
 rintro e w3 ⟨k, t, a, l, c', rfl, H3⟩
 have hf3 : ∃ O', Fr W2 w3 (vr.V.owns vr.cs sb) O' := by
  obtain ⟨_, V3, cs3, _, _, _, f3, _⟩ := H3.out.2.at_
  exact ⟨_, f3⟩
 obtain ⟨O', hf3⟩ := hf3
 have HZ3 := hide (hf3.stay HZ2.out HNX.out)
 have HX3 := hide (hf3.stay HX2.out (fun e => by have := HLT.out _ (.inr e); omega))
 clear hf3 hc
 have hcz := bc_ HX3.out
 have hfz := fz_ HX3.out
 unfold stepX
 go_wp2_with fail
 clear hcz hfz
 refine leaves_cons (f := 34) (args := #[.pointer (some ⟨xb, 0, none⟩)]) (by simp) (by simp [go_sem]) ?_
 have hG4 := pg_ w3 w.heap.size (.int .i64 k) (.int .u32 t) (.slice a l.length c')
 have hx4 := pb_ (.int .i64 k) (.int .u32 t) (.slice a l.length c') HX3.out
 have hz4 := (hG4.block xb (hl_ HZ3.out) (by simp; omega)).trans HZ3.out
 refine (unlock_deferred muLib ⟨xb, 0, none⟩ .returning _ (bc_ hz4 0) (fz_ hz4 0)).mono ?_
 rintro e u' w5 ⟨rfl, rfl, rfl⟩
 have hG5 := gs_ (put3 w3 w.heap.size (.int .i64 k) (.int .u32 t) (.slice a l.length c')) xb 0 (.int .i32 0)
 have hx5 := (hG5.block w.heap.size (hl_ hx4) (by simp; omega)).trans hx4
 have hz5 := hs_ (j := 0) hz4 (.int .i32 0)
 exact ⟨_, rr_ rfl _ _ w.heap.size _ _ _ _ rfl hx5 undXs rfl (by kernel_rfl), k, t, a, l, c', rfl, H3.out.1, spoke_of HLT.out HNX.out hz2 HF2.out H3.out.2 hG4 hG5 hz5 hxl⟩
end Go.Proofs.YtafoepfhepdcoaaGreat
