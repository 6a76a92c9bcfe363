import Derived.Test.YtpahhgalhhbhjaaGreatM36
import Derived.Test.YtpahhgalhhbhjaaGreatM25
import Derived.Test.YtpahhgalhhbhjaaGreatM3
/- The reference: Ask. -/
namespace Go.Proofs.YtpahhgalhhbhjaaGreat
open Go.RowKit Go.Trawl

/-- What a call answers with an error, and what the resolver is then. -/
def Answers (w : World) (rb : Nat) (V : RV) (cs : List ChV) (p : RSt × Value × Int) (e : Ending) (w' : World) : Prop :=
  e = .returned (.tuple #[p.2.1, .int .i64 p.2.2]) ∧ Hid (∃ V' cs', RefAt w' rb p.1 V' cs' ∧ Fr w w' (V.owns cs rb) (V'.owns cs' rb))
theorem buildSt0 (W : World) : (Instr.build 69 #[]).run Tryz.prog W = .ok (.agg #[.int .i64 0, .int .u32 0, .string ⟨#[]⟩]) W := run_build W _ _ _ (by kernel_rfl)
theorem buildSt2 (k : Int) (W : World) : (Instr.build 69 #[(0, .int .i64 k)]).run Tryz.prog W = .ok (.agg #[.int .i64 k, .int .u32 0, .string ⟨#[]⟩]) W := run_build W _ _ _ (by kernel_rfl)
theorem buildMr (i k : Int) (W : World) : (Instr.build 32 #[(0, .int .u16 i), (7, .int .i64 k)]).run Tryz.prog W = .ok (.agg (msgCells (refM i k []) (.slice none 0 0) (.slice none 0 0) (.slice none 0 0) (.slice none 0 0))) W := run_build W _ _ _ (by kernel_rfl)
attribute [local go_sem] buildSt0 buildSt2 buildMr

/-- The cell of the result has been made. -/
structure Begun (w W : World) (rb : Nat) (st : RSt) (V : RV) (cs : List ChV) : Prop where
  ref : RefAt W rb st V cs
  fr : Fr w W (V.owns cs rb) (V.owns cs rb)
  res : W.heap[w.heap.size]? = some (.cells #[Value.int IntKind.i64 0, Value.int IntKind.u32 0, Value.string { data := #[] }] 69)
  lt : ∀ k, V.owns cs rb k → k < w.heap.size
theorem Begun.start {w : World} {rb : Nat} {st : RSt} {V : RV} {cs : List ChV} (h : RefAt w rb st V cs) : Begun w (w.alloc (.cells #[Value.int IntKind.i64 0, Value.int IntKind.u32 0, Value.string { data := #[] }] 69)) rb st V cs := by
  have hB := (Below.refl w.heap.size w).alloc (Nat.le_refl _) (.cells #[Value.int IntKind.i64 0, Value.int IntKind.u32 0, Value.string { data := #[] }] 69)
  exact ⟨h.keep hB, Fr.of_below hB _, heap_new _ _, h.lt⟩
theorem Begun.below {w W W' : World} {rb : Nat} {st : RSt} {V : RV} {cs : List ChV} (h : Begun w W rb st V cs) (hb : Below W.heap.size W W') : Begun w W' rb st V cs :=
  ⟨h.ref.keep hb, h.fr.trans (Fr.of_below hb _), (hb.block _ (heap_lt h.res)).trans h.res, h.lt⟩
theorem Begun.put {w W : World} {rb : Nat} {st : RSt} {V : RV} {cs : List ChV} (h : Begun w W rb st V cs) (v0 v1 v2 : Value) : RefAt (put3 W w.heap.size v0 v1 v2) rb st V cs ∧ Fr w (put3 W w.heap.size v0 v1 v2) (V.owns cs rb) (V.owns cs rb) := by
  have hG := put3_grown W w.heap.size v0 v1 v2
  exact ⟨h.ref.aside hG (fun e => by have := h.lt _ e; omega), h.fr.write hG (Nat.le_refl _)⟩

set_option maxRecDepth 10000 in
set_option maxHeartbeats 2000000 in
theorem rAsk_busy (w : World) (rb : Nat) (st : RSt) (V : RV) (cs : List ChV) (s : ByteArray) (h : RefAt w rb st V cs) (hbz : st.busy = true) :
    Calls Tryz.prog 20 #[.pointer (some ⟨rb, 0, none⟩), .string s] w (Answers w rb V cs (st, stepV 0 0 ⟨#[]⟩, 3)) := by
  have H1 := hide (Begun.start h)
  have H := hide h
  clear h
  unfold Answers
  have hc := box_cells H1.out.ref.box
  simp only [refCells, hbz] at hc
  go_enter Tryz.func20, Tryz.ntmps20
  go_wp2_with fail
  refine bodyPost_ret (results_cell_row2 rfl _ _ w.heap.size _ _ _ _ rfl (heap_new w _) undSt rfl (by kernel_rfl)) rfl ?_
  have hB := (Below.refl w.heap.size w).alloc (Nat.le_refl _) (.cells #[Value.int IntKind.i64 0, Value.int IntKind.u32 0, Value.string { data := #[] }] 69)
  exact ⟨rfl, V, cs, H.out.keep hB, Fr.of_below hB _⟩

set_option maxRecDepth 10000 in
set_option maxHeartbeats 2000000 in
theorem rAsk_short (w : World) (rb : Nat) (st : RSt) (V : RV) (cs : List ChV) (s : ByteArray) (h : RefAt w rb st V cs) (hbz : st.busy = false) (hs : s.size < 12) :
    Calls Tryz.prog 20 #[.pointer (some ⟨rb, 0, none⟩), .string s] w (Answers w rb V cs (st, stepV 2 0 ⟨#[]⟩, 0)) := by
  have H1 := hide (Begun.start h)
  have H := hide h
  clear h
  unfold Answers
  have hc := box_cells H1.out.ref.box
  simp only [refCells, hbz] at hc
  go_enter Tryz.func20, Tryz.ntmps20
  go_wp2_with fail
  refine bodyPost_ret (results_cell_row2 rfl _ _ w.heap.size _ _ _ _ rfl (heap_new w _) undSt rfl (by kernel_rfl)) rfl ?_
  have hB := (Below.refl w.heap.size w).alloc (Nat.le_refl _) (.cells #[Value.int IntKind.i64 2, Value.int IntKind.u32 0, Value.string { data := #[] }] 69)
  exact ⟨rfl, V, cs, H.out.keep hB, Fr.of_below hB _⟩

theorem ref_wf {i k : Int} {qs : List Qn} (h0 : 0 ≤ i) (h1 : i ≤ 65535) (k0 : 0 ≤ k) (k1 : k ≤ 15) (hq : qs.length ≤ 2097152) (hw : ∀ q ∈ qs, WfQ q) : WfM (refM i k qs) :=
  ⟨h0, h1, by simp [refM], by simp [refM], by simp [refM]; omega, by simp [refM]; omega, hq, by simp [refM], by simp [refM], by simp [refM], hw, by simp [refM, recs]⟩
theorem nil_at (w : World) (i k : Int) : MsgAt w (refM i k []) (.slice none 0 0) (.slice none 0 0) (.slice none 0 0) (.slice none 0 0) := ⟨liesNil _ _, liesNil _ _, liesNil _ _, liesNil _ _⟩

set_option maxRecDepth 10000 in
set_option maxHeartbeats 4000000 in
theorem rAsk_bad (w : World) (rb : Nat) (st : RSt) (V : RV) (cs : List ChV) (s : ByteArray) (h : RefAt w rb st V cs) (hbz : st.busy = false) (hs : ¬ s.size < 12) (hsm : s.size ≤ 2097152) (hbad : unE s = 1 ∨ unE s = 0 ∧ (unM s).resp = true) :
    Calls Tryz.prog 20 #[.pointer (some ⟨rb, 0, none⟩), .string s] w (Answers w rb V cs (st, stepV 2 0 (str (replyL (refM (n2 s 0) 1 []))), 0)) := by
  have H1 := hide (Begun.start h)
  clear h
  unfold Answers
  have hc := box_cells H1.out.ref.box
  simp only [refCells, hbz] at hc
  have hi0 : ∀ W, (Instr.index 9 (.string s) (.int .i64 0)).run Tryz.prog W = .ok (.int .u8 (at8 s 0)) W := fun W => idx s 0 (by omega) W
  have hi1 : ∀ W, (Instr.index 9 (.string s) (.int .i64 1)).run Tryz.prog W = .ok (.int .u8 (at8 s 1)) W := fun W => idx s 1 (by omega) W
  have b0 := at8_lt s 0
  have b1 := at8_lt s 1
  have HID : Hid (IntKind.u16.wrap (IntKind.u16.wrap (IntKind.u16.wrap ((at8 s 0 : Nat) : Int) * 256) + IntKind.u16.wrap ((at8 s 1 : Nat) : Int)) = (n2 s 0 : Int)) := by
    have e : n2 s 0 = at8 s 0 * 256 + at8 s 1 := rfl
    rw [e]
    show _ = _
    simp only [IntKind.wrap_u16]
    omega
  have HWF : Hid (WfM (refM (n2 s 0) 1 [])) := ref_wf (by omega) (by have := n2_lt s 0; omega) (by omega) (by omega) (by simp) (by simp)
  go_enter Tryz.func20, Tryz.ntmps20
  go_wp2_with fail
  generalize w.alloc _ = W1 at H1 hc ⊢
  clear hc
  refine (rUnpack2 W1 s hsm).mono ?_
  rintro e w2 ⟨aq, cq, aa, ca, au, cu, ax, cx, rfl, H2⟩
  have HB2 := hide H2.out.1
  clear H2
  have HBG2 := hide (H1.out.below HB2.out)
  clear HB2 H1
  have er0 : unE s = 1 ∨ unE s = 0 := by rcases hbad with h | h; exact .inl h; exact .inr h.1
  generalize unM s = m at hbad ⊢
  generalize unE s = er at hbad er0 ⊢
  have HBG3 := hide (HBG2.out.below ((Below.refl _ _).alloc (Nat.le_refl _) (.cells (msgCells m (.slice aq m.qs.length cq) (.slice aa m.an.length ca) (.slice au m.au.length cu) (.slice ax m.ex.length cx)) 32)))
  have hcm := box_cells (heap_new w2 (.cells (msgCells m (.slice aq m.qs.length cq) (.slice aa m.an.length ca) (.slice au m.au.length cu) (.slice ax m.ex.length cx)) 32))
  obtain ⟨M, hM⟩ : ∃ M, M = w2.heap.size := ⟨_, rfl⟩
  simp only [msgCells] at hcm HBG3 ⊢
  rcases hbad with rfl | ⟨rfl, hrp⟩
  · go_wp2_with fail
    generalize w2.alloc _ = W3 at HBG3 hcm ⊢
    clear hcm
    have HBG4 := hide (HBG3.out.below (below_drewN (Below.refl _ W3) 1))
    go_region_held3 (fun _ => True) (trivial) (first | (go_at_call 38; rw [HID.out]; refine (reply_any W3.drew (refM (n2 s 0) 1 []) (.slice none 0 0) (.slice none 0 0) (.slice none 0 0) (.slice none 0 0) HWF.out (nil_at _ _ _)).mono ?_; rintro e w4 ⟨rfl, H4⟩; have HBG5 := hide (HBG4.out.below H4.out); clear H4; unfold stepV; have hcz := box_cells HBG5.out.res; have hfz := frozen_of_block HBG5.out.res))
    all_goals
      go_wp2_with fail
      generalize str (replyL (refM (n2 s 0) 1 [])) = bs
      clear hcz hfz
      refine bodyPost_ret (results_cell_row2 rfl _ _ w.heap.size _ _ _ _ rfl (put3_box (.int .i64 2) (.int .u32 0) (.string bs) HBG5.out.res) undSt rfl (by kernel_rfl)) rfl ?_
      exact ⟨rfl, V, cs, HBG5.out.put _ _ _⟩
  · rw [hrp] at hcm HBG3
    go_wp2_with fail
    generalize w2.alloc _ = W3 at HBG3 hcm ⊢
    clear hcm
    have HBG4 := hide (HBG3.out.below (below_drewN (Below.refl _ W3) 1))
    go_region_held3 (fun _ => True) (trivial) (first | (go_at_call 38; rw [HID.out]; refine (reply_any W3.drew (refM (n2 s 0) 1 []) (.slice none 0 0) (.slice none 0 0) (.slice none 0 0) (.slice none 0 0) HWF.out (nil_at _ _ _)).mono ?_; rintro e w4 ⟨rfl, H4⟩; have HBG5 := hide (HBG4.out.below H4.out); clear H4; unfold stepV; have hcz := box_cells HBG5.out.res; have hfz := frozen_of_block HBG5.out.res))
    all_goals
      go_wp2_with fail
      generalize str (replyL (refM (n2 s 0) 1 [])) = bs
      clear hcz hfz
      refine bodyPost_ret (results_cell_row2 rfl _ _ w.heap.size _ _ _ _ rfl (put3_box (.int .i64 2) (.int .u32 0) (.string bs) HBG5.out.res) undSt rfl (by kernel_rfl)) rfl ?_
      exact ⟨rfl, V, cs, HBG5.out.put _ _ _⟩
end Go.Proofs.YtpahhgalhhbhjaaGreat

/- The reference: Ask, of what it does not do. -/
namespace Go.Proofs.YtpahhgalhhbhjaaGreat
open Go.RowKit Go.Trawl
attribute [local go_sem] buildMr

theorem unM_some {s : ByteArray} {m : Msg} (h : unpack s = some m) : unM s = m ∧ unE s = 0 := by
  unfold unM unE
  rw [h]
  exact ⟨rfl, rfl⟩
theorem named_wf {q : Qn} (h : NamedQ q) : WfQ q := by
  have := nameB_size h.1
  exact ⟨by omega, h.2.1, h.2.2.1, h.2.2.2.1, h.2.2.2.2⟩
theorem q_one {w : World} {a : Option Addr} {n c : Nat} {q : Qn} (h : Lies w 3 (.slice a n c) ([q].map Qn.cells)) : ∃ b off, a = some ⟨b, off, none⟩ ∧ w.cell? ⟨b, off, none⟩ = some (.string q.name) ∧ w.cell? ⟨b, off + 1, none⟩ = some (.int .u16 q.kind) ∧ w.cell? ⟨b, off + 2, none⟩ = some (.int .u16 q.cls) := by
  obtain ⟨_, _, hv, _, hc⟩ := h
  rcases hc with he | ⟨b, off, he, _, hc⟩
  · cases he
  · subst he
    injection hv with hv
    have h2 := hc 0 q.cells rfl
    exact ⟨b, off, hv, h2 0 _ rfl, h2 1 _ rfl, h2 2 _ rfl⟩

set_option maxRecDepth 10000 in
set_option maxHeartbeats 4000000 in
theorem rAsk_not1 (w : World) (rb : Nat) (st : RSt) (V : RV) (cs : List ChV) (s : ByteArray) (m : Msg) (q : Qn) (h : RefAt w rb st V cs) (hbz : st.busy = false) (hs : ¬ s.size < 12) (hsm : s.size ≤ 2097152) (hu : unpack s = some m) (hr : m.resp = false) (hq : m.qs = [q]) (hn : m.op ≠ 0 ∨ m.op = 0 ∧ q.cls ≠ 1) :
    Calls Tryz.prog 20 #[.pointer (some ⟨rb, 0, none⟩), .string s] w (Answers w rb V cs (st, stepV 2 0 (str (replyL (refM m.id 4 [q]))), 0)) := by
  have H1 := hide (Begun.start h)
  clear h
  unfold Answers
  have hc := box_cells H1.out.ref.box
  simp only [refCells, hbz] at hc
  have hid := unpack_id hu
  have HWF : Hid (WfM (refM m.id 4 [q])) := by
    have := n2_lt s 0
    refine ref_wf (by omega) (by omega) (by omega) (by omega) (by simp) (fun x hx => ?_)
    have := (unpack_named hu).q q (by rw [hq]; simp)
    simp at hx
    subst hx
    exact named_wf this
  have HU := hide hu
  clear hu hid
  go_enter Tryz.func20, Tryz.ntmps20
  go_wp2_with fail
  generalize w.alloc _ = W1 at H1 hc ⊢
  clear hc
  refine (rUnpack2 W1 s hsm).mono ?_
  rw [(unM_some HU.out).1, (unM_some HU.out).2]
  rintro e w2 ⟨aq, cq, aa, ca, au, cu, ax, cx, rfl, H2⟩
  have HB2 := hide H2.out.1
  have hat := H2.out.2.1.q
  clear H2
  obtain ⟨id, rp, op, ow, ct, wa, ab, cd, qs, an, au', ex⟩ := m
  dsimp only at hr hq hn hat HWF ⊢
  subst hr hq
  have HBG2 := hide (H1.out.below HB2.out)
  clear HB2 H1 HU
  obtain ⟨b, off, rfl, c0, c1, c2⟩ := q_one hat
  have hB := (Below.refl w2.heap.size w2).alloc (Nat.le_refl _) (.cells #[.int .u16 id, .bool false, .int .i64 op, .bool ow, .bool ct, .bool wa, .bool ab, .int .i64 cd, .slice (some ⟨b, off, none⟩) 1 cq, .slice aa an.length ca, .slice au au'.length cu, .slice ax ex.length cx] 32)
  have HBG3 := hide (HBG2.out.below hB)
  have HQ3 := hide (hat.below hB)
  have hcm := box_cells (heap_new w2 (.cells #[.int .u16 id, .bool false, .int .i64 op, .bool ow, .bool ct, .bool wa, .bool ab, .int .i64 cd, .slice (some ⟨b, off, none⟩) 1 cq, .slice aa an.length ca, .slice au au'.length cu, .slice ax ex.length cx] 32))
  have HM3 := hide (heap_new w2 (.cells #[.int .u16 id, .bool false, .int .i64 op, .bool ow, .bool ct, .bool wa, .bool ab, .int .i64 cd, .slice (some ⟨b, off, none⟩) 1 cq, .slice aa an.length ca, .slice au au'.length cu, .slice ax ex.length cx] 32))
  obtain ⟨b2, off2, he, _, _, d2⟩ := q_one HQ3.out
  cases he
  simp only [msgCells, List.length_singleton]
  rcases hn with hop | ⟨rfl, hcl⟩
  · go_wp2_with fail
    generalize w2.alloc _ = W3 at HBG3 HQ3 hcm HM3 d2 ⊢
    have HBG4 := hide (HBG3.out.below ((Below.refl _ W3).alloc (Nat.le_refl _) (.cells (msgCells (refM id 4 [q]) (.slice (some ⟨b, off, none⟩) 1 cq) (.slice none 0 0) (.slice none 0 0) (.slice none 0 0)) 32)))
    have HQ4 := hide (HQ3.out.below ((Below.refl _ W3).alloc (Nat.le_refl _) (.cells (msgCells (refM id 4 [q]) (.slice (some ⟨b, off, none⟩) 1 cq) (.slice none 0 0) (.slice none 0 0) (.slice none 0 0)) 32)))
    clear hcm d2 HM3
    refine (reply_any _ (refM id 4 [q]) (.slice (some ⟨b, off, none⟩) 1 cq) (.slice none 0 0) (.slice none 0 0) (.slice none 0 0) HWF.out ⟨HQ4.out, liesNil _ _, liesNil _ _, liesNil _ _⟩).mono ?_
    rintro e w5 ⟨rfl, H5⟩
    have HBG5 := hide (HBG4.out.below H5.out)
    clear H5 HBG3 HBG4 HQ3 HQ4
    unfold stepV
    generalize hbs : str (replyL (refM id 4 [q])) = bs
    have hcz := box_cells HBG5.out.res
    have hfz := frozen_of_block HBG5.out.res
    go_wp2_with fail
    clear hcz hfz
    refine bodyPost_ret (results_cell_row2 rfl _ _ w.heap.size _ _ _ _ rfl (put3_box (.int .i64 2) (.int .u32 0) (.string bs) HBG5.out.res) undSt rfl (by kernel_rfl)) rfl ?_
    exact ⟨by subst hbs; rfl, V, cs, HBG5.out.put _ _ _⟩
  · go_wp2_with fail
    generalize w2.alloc _ = W3 at HBG3 HQ3 hcm HM3 d2 ⊢
    have HBG4 := hide (HBG3.out.below ((Below.refl _ W3).alloc (Nat.le_refl _) (.cells (msgCells (refM id 4 [q]) (.slice (some ⟨b, off, none⟩) 1 cq) (.slice none 0 0) (.slice none 0 0) (.slice none 0 0)) 32)))
    have HQ4 := hide (HQ3.out.below ((Below.refl _ W3).alloc (Nat.le_refl _) (.cells (msgCells (refM id 4 [q]) (.slice (some ⟨b, off, none⟩) 1 cq) (.slice none 0 0) (.slice none 0 0) (.slice none 0 0)) 32)))
    clear hcm d2 HM3
    refine (reply_any _ (refM id 4 [q]) (.slice (some ⟨b, off, none⟩) 1 cq) (.slice none 0 0) (.slice none 0 0) (.slice none 0 0) HWF.out ⟨HQ4.out, liesNil _ _, liesNil _ _, liesNil _ _⟩).mono ?_
    rintro e w5 ⟨rfl, H5⟩
    have HBG5 := hide (HBG4.out.below H5.out)
    clear H5 HBG3 HBG4 HQ3 HQ4
    unfold stepV
    generalize hbs : str (replyL (refM id 4 [q])) = bs
    have hcz := box_cells HBG5.out.res
    have hfz := frozen_of_block HBG5.out.res
    go_wp2_with fail
    clear hcz hfz
    refine bodyPost_ret (results_cell_row2 rfl _ _ w.heap.size _ _ _ _ rfl (put3_box (.int .i64 2) (.int .u32 0) (.string bs) HBG5.out.res) undSt rfl (by kernel_rfl)) rfl ?_
    exact ⟨by subst hbs; rfl, V, cs, HBG5.out.put _ _ _⟩

set_option maxRecDepth 10000 in
set_option maxHeartbeats 4000000 in
theorem rAsk_not0 (w : World) (rb : Nat) (st : RSt) (V : RV) (cs : List ChV) (s : ByteArray) (m : Msg) (h : RefAt w rb st V cs) (hbz : st.busy = false) (hs : ¬ s.size < 12) (hsm : s.size ≤ 2097152) (hu : unpack s = some m) (hr : m.resp = false) (hq : ¬ (m.qs.length : Int) = 1) :
    Calls Tryz.prog 20 #[.pointer (some ⟨rb, 0, none⟩), .string s] w (Answers w rb V cs (st, stepV 2 0 (str (replyL (refM m.id 4 []))), 0)) := by
  have H1 := hide (Begun.start h)
  clear h
  unfold Answers
  have hc := box_cells H1.out.ref.box
  simp only [refCells, hbz] at hc
  have hid := unpack_id hu
  have HWF : Hid (WfM (refM m.id 4 [])) := by
    have := n2_lt s 0
    exact ref_wf (by omega) (by omega) (by omega) (by omega) (by simp) (by simp)
  have HU := hide hu
  clear hu hid
  go_enter Tryz.func20, Tryz.ntmps20
  go_wp2_with fail
  generalize w.alloc _ = W1 at H1 hc ⊢
  clear hc
  refine (rUnpack2 W1 s hsm).mono ?_
  rw [(unM_some HU.out).1, (unM_some HU.out).2]
  rintro e w2 ⟨aq, cq, aa, ca, au, cu, ax, cx, rfl, H2⟩
  have HB2 := hide H2.out.1
  clear H2
  obtain ⟨id, rp, op, ow, ct, wa, ab, cd, qs, an, au', ex⟩ := m
  dsimp only at hr hq HWF ⊢
  subst hr
  have HBG2 := hide (H1.out.below HB2.out)
  clear HB2 H1 HU
  have hB := (Below.refl w2.heap.size w2).alloc (Nat.le_refl _) (.cells #[.int .u16 id, .bool false, .int .i64 op, .bool ow, .bool ct, .bool wa, .bool ab, .int .i64 cd, .slice aq qs.length cq, .slice aa an.length ca, .slice au au'.length cu, .slice ax ex.length cx] 32)
  have HBG3 := hide (HBG2.out.below hB)
  have hcm := box_cells (heap_new w2 (.cells #[.int .u16 id, .bool false, .int .i64 op, .bool ow, .bool ct, .bool wa, .bool ab, .int .i64 cd, .slice aq qs.length cq, .slice aa an.length ca, .slice au au'.length cu, .slice ax ex.length cx] 32))
  simp only [msgCells]
  by_cases hop : op = 0
  · subst hop
    go_wp2_with fail
    generalize w2.alloc _ = W3 at HBG3 hcm ⊢
    have HBG4 := hide (HBG3.out.below ((Below.refl _ W3).alloc (Nat.le_refl _) (.cells (msgCells (refM id 4 []) (.slice none 0 0) (.slice none 0 0) (.slice none 0 0) (.slice none 0 0)) 32)))
    clear hcm
    refine (reply_any _ (refM id 4 []) (.slice none 0 0) (.slice none 0 0) (.slice none 0 0) (.slice none 0 0) HWF.out (nil_at _ _ _)).mono ?_
    rintro e w5 ⟨rfl, H5⟩
    have HBG5 := hide (HBG4.out.below H5.out)
    clear H5 HBG3 HBG4
    unfold stepV
    generalize hbs : str (replyL (refM id 4 [])) = bs
    have hcz := box_cells HBG5.out.res
    have hfz := frozen_of_block HBG5.out.res
    go_wp2_with fail
    clear hcz hfz
    refine bodyPost_ret (results_cell_row2 rfl _ _ w.heap.size _ _ _ _ rfl (put3_box (.int .i64 2) (.int .u32 0) (.string bs) HBG5.out.res) undSt rfl (by kernel_rfl)) rfl ?_
    exact ⟨by subst hbs; rfl, V, cs, HBG5.out.put _ _ _⟩
  · go_wp2_with fail
    generalize w2.alloc _ = W3 at HBG3 hcm ⊢
    have HBG4 := hide (HBG3.out.below ((Below.refl _ W3).alloc (Nat.le_refl _) (.cells (msgCells (refM id 4 []) (.slice none 0 0) (.slice none 0 0) (.slice none 0 0) (.slice none 0 0)) 32)))
    clear hcm
    refine (reply_any _ (refM id 4 []) (.slice none 0 0) (.slice none 0 0) (.slice none 0 0) (.slice none 0 0) HWF.out (nil_at _ _ _)).mono ?_
    rintro e w5 ⟨rfl, H5⟩
    have HBG5 := hide (HBG4.out.below H5.out)
    clear H5 HBG3 HBG4
    unfold stepV
    generalize hbs : str (replyL (refM id 4 [])) = bs
    have hcz := box_cells HBG5.out.res
    have hfz := frozen_of_block HBG5.out.res
    go_wp2_with fail
    clear hcz hfz
    refine bodyPost_ret (results_cell_row2 rfl _ _ w.heap.size _ _ _ _ rfl (put3_box (.int .i64 2) (.int .u32 0) (.string bs) HBG5.out.res) undSt rfl (by kernel_rfl)) rfl ?_
    exact ⟨by subst hbs; rfl, V, cs, HBG5.out.put _ _ _⟩
end Go.Proofs.YtpahhgalhhbhjaaGreat

/- A message that was read has its bounds. -/
namespace Go.Trawl

theorem num4_range (s : ByteArray) : Always (num4 s) fun x => 0 ≤ x ∧ x ≤ 4294967295 := by
  intro a r hr
  unfold num4 at hr
  split at hr
  · cases hr
    have := n4_lt s a
    exact ⟨by omega, by omega⟩
  · cases hr
theorem pName_short (s : ByteArray) : Always (pName s) fun n => n.size ≤ 255 := fun _ _ h => (pName_ends h).2.2
theorem pText_short (s : ByteArray) (n : Nat) (hn : n ≤ 65535) : Always (pText s n) fun d => d.size ≤ 65535 := by
  intro a r hr
  unfold pText at hr
  split at hr
  · rename_i h
    cases hr
    show (cut s a (a + n)).toArray.size ≤ 65535
    rw [List.size_toArray, cut_length h]
    omega
  · cases hr
theorem pData_short (s : ByteArray) (k : Int) (n : Nat) (hn : n ≤ 65535) : Always (pData s k n) fun d => d.size ≤ 65535 := by
  intro a r hr
  unfold pData at hr
  split at hr
  · cases hp : pName s a with
    | none => rw [hp] at hr; cases hr
    | some q =>
      rw [hp] at hr
      simp only [Option.bind_some] at hr
      split at hr
      · cases hr
        have := pName_short s a _ hp
        dsimp only at this ⊢
        omega
      · cases hr
  · exact pText_short s n hn a r hr
theorem pQ_wf (s : ByteArray) : Always (pQ s) WfQ := (pName_short s).bind fun _ hn => (num2_range s).bind fun _ ht => (num2_range s).bind fun _ hc => Always.pure ⟨by dsimp only; omega, ht.1, ht.2, hc.1, hc.2⟩
theorem pR_wf (s : ByteArray) : Always (pR s) WfR :=
  (pName_short s).bind fun _ hn => (num2_range s).bind fun t ht => (num2_range s).bind fun _ hc => (num4_range s).bind fun _ hl => (num2_range s).bind fun k hk =>
    (pData_short s t k.toNat (by omega)).bind fun _ hd => Always.pure ⟨by dsimp only; omega, by dsimp only; omega, ht.1, ht.2, hc.1, hc.2, hl.1, hl.2⟩
theorem pM_wf (s : ByteArray) : Always (pM s) WfM :=
  (num2_range s).bind fun _ hi => (num2_range s).bind fun f hf => (num2_range s).bind fun _ hq => (num2_range s).bind fun _ ha => (num2_range s).bind fun _ hu => (num2_range s).bind fun _ hx =>
    ((pQ_wf s).many _).bind fun qs hqs => ((pR_wf s).many _).bind fun an han => ((pR_wf s).many _).bind fun au hau => ((pR_wf s).many _).bind fun ex hex =>
      Always.pure ⟨hi.1, hi.2, by simp only [flagged]; omega, by simp only [flagged]; omega, by simp only [flagged]; omega, by simp only [flagged]; omega, by simp only [flagged]; rw [hqs.2]; omega, by simp only [flagged]; rw [han.2]; omega, by simp only [flagged]; rw [hau.2]; omega, by simp only [flagged]; rw [hex.2]; omega, hqs.1, fun r hr => by
        simp only [recs, flagged, List.mem_append] at hr
        rcases hr with (hr | hr) | hr
        · exact han.1 r hr
        · exact hau.1 r hr
        · exact hex.1 r hr⟩
theorem unpack_wf {s : ByteArray} {m : Msg} (h : unpack s = some m) : WfM m := by
  unfold unpack at h
  split at h
  · cases hp : pM s 0 with
    | none => simp [hp] at h
    | some r =>
      simp only [hp, Option.bind_some] at h
      split at h
      · cases h; exact pM_wf s 0 r hp
      · cases h
  · cases h
end Go.Trawl
