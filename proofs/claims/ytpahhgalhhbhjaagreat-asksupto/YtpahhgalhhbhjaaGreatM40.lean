import Derived.Test.YtpahhgalhhbhjaaGreatM39
import Derived.Test.YtpahhgalhhbhjaaGreatM36
/- The reference: Ask, of any bytes. -/
namespace Go.Proofs.YtpahhgalhhbhjaaGreat
open Go.RowKit Go.Trawl

theorem unM_none {s : ByteArray} (h : unpack s = none) : unE s = 1 := by
  unfold unE
  rw [h]
  rfl
theorem rAsk_any (w : World) (rb : Nat) (st : RSt) (V : RV) (cs : List ChV) (s : ByteArray) (h : RefAt w rb st V cs) (hok : StOk st) (hsm : s.size ≤ 2097152) :
    Calls Tryz.prog 20 #[.pointer (some ⟨rb, 0, none⟩), .string s] w (Answers w rb V cs (askS st s)) := by
  unfold askS
  cases hb : st.busy with
  | true => rw [if_pos rfl]; exact rAsk_busy w rb st V cs s h hb
  | false =>
    rw [if_neg (by simp)]
    by_cases hs : s.size < 12
    · rw [if_pos hs]; exact rAsk_short w rb st V cs s h hb hs
    rw [if_neg hs]
    cases hu : unpack s with
    | none => exact rAsk_bad w rb st V cs s h hb hs hsm (.inl (unM_none hu))
    | some m =>
      dsimp only
      cases hr : m.resp with
      | true =>
        rw [if_pos rfl]
        exact rAsk_bad w rb st V cs s h hb hs hsm (.inr ⟨(unM_some hu).2, by rw [(unM_some hu).1]; exact hr⟩)
      | false =>
        rw [if_neg (by simp)]
        match hq : m.qs with
        | [] => exact rAsk_not0 w rb st V cs s m h hb hs hsm hu hr (by rw [hq]; simp)
        | [q] =>
          dsimp only
          by_cases hn : m.op ≠ 0 ∨ q.cls ≠ 1
          · rw [if_pos hn]
            refine rAsk_not1 w rb st V cs s m q h hb hs hsm hu hr hq ?_
            by_cases h0 : m.op = 0
            · rcases hn with h1 | h1
              · exact absurd h0 h1
              · exact .inr ⟨h0, h1⟩
            · exact .inl h0
          · rw [if_neg hn]
            have h0 : m.op = 0 := Classical.byContradiction fun e => hn (.inl e)
            have h1 : q.cls = 1 := Classical.byContradiction fun e => hn (.inr e)
            exact rAsk_go w rb st V cs s m q h hok hb hs hsm hu hr hq h0 h1
        | x :: y :: l => exact rAsk_not0 w rb st V cs s m h hb hs hsm hu hr (by rw [hq]; simp; omega)

/-- What comes out is a step. -/
theorem askS_step (st : RSt) (s : ByteArray) : ∃ k t x, (askS st s).2.1 = stepV k t x := by
  unfold askS
  repeat' split
  all_goals first | exact ⟨_, _, _, rfl⟩ | exact askP_step _ _ _
theorem begin_ok {st : RSt} {s : ByteArray} {m : Msg} {q : Qn} (h : StOk st) (hu : unpack s = some m) (hq : m.qs = [q]) : StOk (beginSt st m q) := by
  have hn := named_wf ((unpack_named hu).q q (by rw [hq]; simp))
  exact ⟨h.b0, h.b1, h.d0, h.d1, h.c0, h.c1, h.t0, h.t1, h.r0, h.r1, h.id0, h.id1, unpack_wf hu, Nat.zero_le _, (fun r hr => by cases hr), by simp [beginSt], (fun x hx => by simp [beginSt] at hx; subst hx; exact hn.name), by simp [beginSt], (fun c hc => by
    simp [beginSt] at hc
    subst hc
    exact fresh_ok h q.name hn.name q.kind hn.k0 hn.k1), Nat.zero_le _⟩
theorem first_sends {st : RSt} (h : StOk st) (m : Msg) (q : Qn) : askP (beginSt st m q) [] (freshCh st q.name q.kind) = (askSt (beginSt st m q) [] (freshCh st q.name q.kind), askStep (beginSt st m q) (freshCh st q.name q.kind)) := by
  have := h.b0
  unfold askP
  exact if_neg (show ¬ st.b ≤ ((0 : Nat) : Int) by omega)
theorem first_ok {st : RSt} {s : ByteArray} {m : Msg} {q : Qn} (h : StOk st) (hu : unpack s = some m) (hq : m.qs = [q]) : StOk (askSt (beginSt st m q) [] (freshCh st q.name q.kind)) := by
  have hb := begin_ok h hu hq
  have hn := named_wf ((unpack_named hu).q q (by rw [hq]; simp))
  have hf := fresh_ok h q.name hn.name q.kind hn.k0 hn.k1
  have hid : 0 ≤ nextId st.id ∧ nextId st.id ≤ 65535 := by unfold nextId; omega
  have hcs : ∀ c ∈ (askSt (beginSt st m q) [] (freshCh st q.name q.kind)).l, ChOk c := by
    intro c hc
    simp only [askSt, List.nil_append, List.mem_singleton] at hc
    rw [hc]
    exact { hf with sent := by simp [freshCh] }
  exact { hb with id0 := hid.1, id1 := hid.2, spent := (by simp [askSt, beginSt]), len := (by simp [askSt]), chs := hcs }
theorem askS_ok {st : RSt} (h : StOk st) (s : ByteArray) : StOk (askS st s).1 := by
  unfold askS
  split
  · exact h
  split
  · exact h
  split
  · exact h
  rename_i m hu
  split
  · exact h
  split
  · rename_i q hq
    split
    · exact h
    · rw [first_sends h]
      exact first_ok h hu hq
  · exact h
end Go.Proofs.YtpahhgalhhbhjaaGreat

/- The program: Ask. -/
namespace Go.Proofs.YtpahhgalhhbhjaaGreat
open Go.RowKit Go.Trawl
attribute [local go_sem] buildX0 buildX1

theorem ref_packs {id code : Int} {qs : List Qn} (h0 : 0 ≤ code) (h1 : code ≤ 15) (hq : ∀ q ∈ qs, nameB q.name = true) (hl : qs.length ≤ 1) : replyL (refM id code qs) = packL (asReply (refM id code qs)) := by
  have : packOk (asReply (refM id code qs)) = true := by
    unfold packOk
    have e1 : inRange (asReply (refM id code qs)) = true := decide_eq_true ⟨(by decide : (0 : Int) ≤ 0), (by decide : (0 : Int) ≤ 15), h0, h1⟩
    have e2 : (asReply (refM id code qs)).qs.all okQ = true := List.all_eq_true.2 fun q h => hq q h
    have e3 : (recs (asReply (refM id code qs))).all okR = true := rfl
    have e4 : 12 + (body (asReply (refM id code qs))).length ≤ 512 := by
      match qs, hl, hq with
      | [], _, _ =>
        show 12 + ([] : List UInt8).length ≤ 512
        decide
      | [q], _, hq =>
        have := nameB_size (hq q (by simp))
        show 12 + ([q].flatMap qbytes ++ [].flatMap rbytes).length ≤ 512
        simp [length_qbytes]
        omega
    rw [e1, e2, e3, decide_eq_true e4]
    rfl
  unfold replyL
  rw [this, if_pos rfl]
/-- The ways of an Ask that reads a message. -/
theorem ask_cases (st : RSt) (s : ByteArray) (hok : StOk st) (hb : st.busy = false) (hs : ¬ s.size < 12) :
    ((unE s = 1 ∨ unE s = 0 ∧ (unM s).resp = true) ∧ askS st s = (st, stepV 2 0 (str (packL (asReply (refM (n2 s 0) 1 [])))), 0)) ∨
    (unE s = 0 ∧ (unM s).resp = false ∧ ¬ ((unM s).qs.length : Int) = 1 ∧ askS st s = (st, stepV 2 0 (str (packL (asReply (refM (n2 s 0) 4 [])))), 0)) ∨
    ∃ q, unE s = 0 ∧ (unM s).resp = false ∧ (unM s).qs = [q] ∧ NamedQ q ∧
      (((unM s).op ≠ 0 ∨ (unM s).op = 0 ∧ q.cls ≠ 1) ∧ askS st s = (st, stepV 2 0 (str (packL (asReply (refM (n2 s 0) 4 [q])))), 0) ∨
      (unM s).op = 0 ∧ q.cls = 1 ∧ askS st s = (askSt (beginSt st (unM s) q) [] (freshCh st q.name q.kind), stepV 1 (st.roots.headD 0) (str (packL (firstM st q))), 0)) := by
  unfold askS
  rw [if_neg (by rw [hb]; simp), if_neg hs]
  cases hu : unpack s with
  | none => exact .inl ⟨.inl (unM_none hu), by rw [ref_packs (by decide) (by decide) (by simp) (by simp)]⟩
  | some m =>
    obtain ⟨e1, e2⟩ := unM_some hu
    rw [e1, e2]
    have hid := unpack_id hu
    dsimp only
    cases hr : m.resp with
    | true => exact .inl ⟨.inr ⟨rfl, rfl⟩, by rw [if_pos rfl, ref_packs (by decide) (by decide) (by simp) (by simp)]⟩
    | false =>
      rw [if_neg (by simp)]
      have hn := (unpack_named hu).q
      match hq : m.qs with
      | [] => exact .inr (.inl ⟨rfl, rfl, by simp, by rw [ref_packs (by decide) (by decide) (by simp) (by simp), hid]⟩)
      | x :: y :: l => exact .inr (.inl ⟨rfl, rfl, by simp; omega, by dsimp only; rw [ref_packs (by decide) (by decide) (by simp) (by simp), hid]⟩)
      | [q] =>
        have hnq := hn q (by rw [hq]; simp)
        refine .inr (.inr ⟨q, rfl, rfl, rfl, hnq, ?_⟩)
        dsimp only
        by_cases hc : m.op ≠ 0 ∨ q.cls ≠ 1
        · refine .inl ⟨?_, by rw [if_pos hc, ref_packs (by decide) (by decide) (fun x hx => by simp at hx; subst hx; exact hnq.1) (by simp), hid]⟩
          by_cases h0 : m.op = 0
          · rcases hc with h1 | h1
            · exact absurd h0 h1
            · exact .inr ⟨h0, h1⟩
          · exact .inl h0
        · refine .inr ⟨Classical.byContradiction fun e => hc (.inl e), Classical.byContradiction fun e => hc (.inr e), ?_⟩
          rw [if_neg hc, first_sends hok]
          have : toOf (freshCh st q.name q.kind) = st.roots.headD 0 := by
            unfold toOf freshCh
            cases st.roots with
            | nil => rfl
            | cons x rs => simp
          unfold askStep
          rw [this]
          rfl

/-- What the program says, and what its state is then. -/
def Tells (w : World) (sb : Nat) (vr : Value) (p : RSt × Value × Int) (e : Ending) (w' : World) : Prop :=
  ∃ (k t : Int) (a : Option Addr) (l : List UInt8) (c : Nat), e = .returned (.tuple #[stepX k t (.slice a l.length c), .int .i64 p.2.2]) ∧ Hid (p.2.1 = stepV k t (str l) ∧ Told w w' sb vr p.1 (.slice a l.length c) l)

theorem wUnpack2 (w : World) (b c : Nat) (s : ByteArray) (hsm : s.size ≤ 2097152) (hsc : s.size ≤ c) (hbl : b < w.heap.size) (hc : Bytes w b s) :
    Calls Tryz.prog 51 #[.slice (some ⟨b, 0, none⟩) s.size c] w fun e w' => ∃ (aq : Option Addr) (cq : Nat) (aa : Option Addr) (ca : Nat) (au : Option Addr) (cu : Nat) (ax : Option Addr) (cx : Nat),
      e = .returned (.tuple #[.agg (msgCells (unM s) (.slice aq (unM s).qs.length cq) (.slice aa (unM s).an.length ca) (.slice au (unM s).au.length cu) (.slice ax (unM s).ex.length cx)), .int .i64 (unE s)]) ∧
      Hid (Below w.heap.size w w' ∧ Lies w' 3 (.slice aq (unM s).qs.length cq) ((unM s).qs.map Qn.cells) ∧ ∀ k, (Value.slice aq (unM s).qs.length cq).ownBlock = some k → k < w'.heap.size) := by
  refine (wUnpack_any w b c s hsm hsc hbl hc).mono ?_
  intro e w' H
  obtain ⟨hb, hno, hyes⟩ := H.out
  cases hu : unpack s with
  | none =>
    have e1 : unM s = zMsg := by unfold unM; rw [hu]; rfl
    rw [e1, unM_none hu]
    exact ⟨none, 0, none, 0, none, 0, none, 0, hno hu, hb, liesNil _ _, fun k hk => by cases hk⟩
  | some m =>
    rw [(unM_some hu).1, (unM_some hu).2]
    obtain ⟨vq, va, vu, vx, rfl, _, hr⟩ := hyes m hu
    obtain ⟨aq, cq, rfl⟩ := own_slice hr.q
    obtain ⟨aa, ca, rfl⟩ := own_slice hr.a
    obtain ⟨au, cu, rfl⟩ := own_slice hr.u
    obtain ⟨ax, cx, rfl⟩ := own_slice hr.x
    exact ⟨aq, cq, aa, ca, au, cu, ax, cx, rfl, hb, hr.at.q, fun k hk => (hr.q.lt k hk).2⟩

theorem told_nil {w : World} {sb : Nat} {vr : Value} {st : RSt} (h : SAt w sb vr st) (o : Obj) : Told w (w.alloc o) sb vr st (.slice none 0 0) [] :=
  ⟨h.below ((Below.refl _ _).alloc (Nat.le_refl _) _), World.ownsRow_nil _ _ _ _, (fun k hk => by cases hk), grown_alloc _ _ _⟩

set_option maxRecDepth 10000 in
set_option maxHeartbeats 2000000 in
theorem sAsk_busy (w : World) (sb b c : Nat) (vr : Value) (st : RSt) (s : ByteArray) (h : SAt w sb vr st) (hbz : st.busy = true) :
    Calls Tryz.prog 37 #[.pointer (some ⟨sb, 0, none⟩), .slice (some ⟨b, 0, none⟩) s.size c] w (Tells w sb vr (askS st s)) := by
  have e : askS st s = (st, stepV 0 0 ⟨#[]⟩, 3) := by unfold askS; rw [if_pos hbz]
  rw [e]
  have H := hide h
  have hc := box_cells (h.below ((Below.refl w.heap.size w).alloc (Nat.le_refl _) (.cells #[.int .i64 0, .int .u32 0, .slice none 0 0] 61))).box
  clear h e
  simp only [stCells, hbz] at hc
  unfold Tells
  go_enter Tryz.func37, Tryz.ntmps37
  go_wp2_with fail
  refine bodyPost_ret (results_cell_row2 rfl _ _ w.heap.size _ _ _ _ rfl (heap_new w _) undXs rfl (by kernel_rfl)) rfl ?_
  exact ⟨0, 0, none, [], 0, rfl, rfl, told_nil H.out _⟩
set_option maxRecDepth 10000 in
set_option maxHeartbeats 2000000 in
theorem sAsk_short (w : World) (sb b c : Nat) (vr : Value) (st : RSt) (s : ByteArray) (h : SAt w sb vr st) (hbz : st.busy = false) (hs : s.size < 12) :
    Calls Tryz.prog 37 #[.pointer (some ⟨sb, 0, none⟩), .slice (some ⟨b, 0, none⟩) s.size c] w (Tells w sb vr (askS st s)) := by
  have e : askS st s = (st, stepV 2 0 ⟨#[]⟩, 0) := by unfold askS; rw [if_neg (by rw [hbz]; simp), if_pos hs]
  rw [e]
  have H := hide h
  have hc := box_cells (h.below ((Below.refl w.heap.size w).alloc (Nat.le_refl _) (.cells #[.int .i64 0, .int .u32 0, .slice none 0 0] 61))).box
  clear h e
  simp only [stCells, hbz] at hc
  unfold Tells
  go_enter Tryz.func37, Tryz.ntmps37
  go_wp2_with fail
  refine bodyPost_ret (results_cell_row2 rfl _ _ w.heap.size _ _ _ _ rfl (heap_new w _) undXs rfl (by kernel_rfl)) rfl ?_
  exact ⟨2, 0, none, [], 0, rfl, rfl, told_nil H.out _⟩
end Go.Proofs.YtpahhgalhhbhjaaGreat
