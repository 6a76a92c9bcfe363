import Derived.Test.YtafoepfhepdcoaaGreatM48
import Derived.Test.YtafoepfhepdcoaaGreatM49
/- The program: Ask. -/
namespace Go.Proofs.YtafoepfhepdcoaaGreat
open Go.RowKit Go.Trawl

theorem neqF (fn : Fn) (x y : Array Value) (w : World) : (binOp .neq 145 (.func fn x y) .nilFunc).run Tryz.prog w = .ok (.bool true) w := by kernel_rfl
theorem neqN (w : World) : (binOp .neq 145 .nilFunc .nilFunc).run Tryz.prog w = .ok (.bool false) w := by kernel_rfl
theorem eqlF (fn : Fn) (x y : Array Value) (w : World) : (binOp .eql 145 (.func fn x y) .nilFunc).run Tryz.prog w = .ok (.bool false) w := by kernel_rfl
theorem eqlN (w : World) : (binOp .eql 145 .nilFunc .nilFunc).run Tryz.prog w = .ok (.bool true) w := by kernel_rfl
attribute [local go_sem] buildX0 buildX1 neqF neqN

def firstM (st : RSt) (q : Qn) : Msg := askM (nextId st.id) (freshCh st q.name q.kind)
theorem reply_ref (id code : Int) (qs : List Qn) : replyL (asReply (refM id code qs)) = replyL (refM id code qs) := replyL_resp _ _ rfl
/-- The ways of an Ask that reads a message. -/
theorem ask_cases (st : RSt) (s : ByteArray) (hok : StOk st) (hb : st.busy = false) (hs : ¬ s.size < 12) :
    ((unE s = 1 ∨ unE s = 0 ∧ (unM s).resp = true) ∧ askS st s = (st, stepV 2 0 (str (replyL (refM (n2 s 0) 1 []))), 0)) ∨
    (unE s = 0 ∧ (unM s).resp = false ∧ ¬ ((unM s).qs.length : Int) = 1 ∧ askS st s = (st, stepV 2 0 (str (replyL (refM (n2 s 0) 4 []))), 0)) ∨
    ∃ q, unE s = 0 ∧ (unM s).resp = false ∧ (unM s).qs = [q] ∧ NamedQ q ∧
      (((unM s).op ≠ 0 ∨ (unM s).op = 0 ∧ q.cls ≠ 1) ∧ askS st s = (st, stepV 2 0 (str (replyL (refM (n2 s 0) 4 [q]))), 0) ∨
      (unM s).op = 0 ∧ q.cls = 1 ∧ (unM s).id = n2 s 0 ∧ askS st s = (askSt (beginSt st (unM s) q) [] (freshCh st q.name q.kind), askStep (beginSt st (unM s) q) (freshCh st q.name q.kind), 0)) := by
  unfold askS
  rw [if_neg (by rw [hb]; simp), if_neg hs]
  cases hu : unpack s with
  | none => exact .inl ⟨.inl (unM_none hu), rfl⟩
  | some m =>
    obtain ⟨e1, e2⟩ := unM_some hu
    rw [e1, e2]
    have hid := unpack_id hu
    dsimp only
    cases hr : m.resp with
    | true => exact .inl ⟨.inr ⟨rfl, rfl⟩, by rw [if_pos rfl]⟩
    | false =>
      rw [if_neg (by simp)]
      have hn := (unpack_named hu).q
      match hq : m.qs with
      | [] => exact .inr (.inl ⟨rfl, rfl, by simp, by rw [hid]⟩)
      | x :: y :: l => exact .inr (.inl ⟨rfl, rfl, by simp; omega, by dsimp only; rw [hid]⟩)
      | [q] =>
        have hnq := hn q (by rw [hq]; simp)
        refine .inr (.inr ⟨q, rfl, rfl, rfl, hnq, ?_⟩)
        dsimp only
        by_cases hc : m.op ≠ 0 ∨ q.cls ≠ 1
        · refine .inl ⟨?_, by rw [if_pos hc, hid]⟩
          by_cases h0 : m.op = 0
          · rcases hc with h1 | h1
            · exact absurd h0 h1
            · exact .inr ⟨h0, h1⟩
          · exact .inl h0
        · refine .inr ⟨Classical.byContradiction fun e => hc (.inl e), Classical.byContradiction fun e => hc (.inr e), hid, ?_⟩
          rw [if_neg hc, first_sends hok]

/-- A step with bytes in new memory; of what was there the state alone has turned. -/
structure Told (w w' : World) (sb : Nat) (O : Nat → Prop) (st : RSt) (v : Value) (l : List UInt8) : Prop where
  at_ : ∃ s V cs, QAt w' sb s V cs ∧ QOk s ∧ Sim s st ∧ Fr w w' O (V.owns cs sb) ∧ ∀ k, v.ownBlock = some k → ¬ V.owns cs sb k
  own : w'.ownsRow 0 5 1 v l.length (bytesV l)
  new : ∀ k, v.ownBlock = some k → w.heap.size ≤ k
/-- What the program says, and what its state is then. -/
def Tells (w : World) (sb : Nat) (O : Nat → Prop) (p : RSt × Value × Int) (e : Ending) (w' : World) : Prop :=
  ∃ (k t : Int) (a : Option Addr) (l : List UInt8) (c : Nat), e = .returned (.tuple #[stepX k t (.slice a l.length c), .int .i64 p.2.2]) ∧ Hid (p.2.1 = stepV k t (str l) ∧ Told w w' sb O p.1 (.slice a l.length c) l)

theorem wUnpack2 (w : World) (b c : Nat) (s : ByteArray) (hsm : s.size ≤ 2097152) (hsc : s.size ≤ c) (hbl : b < w.heap.size) (hc : Bytes w b s) :
    Calls Tryz.prog 31 #[.slice (some ⟨b, 0, none⟩) s.size c] w fun e w' => ∃ (aq : Option Addr) (cq : Nat) (aa : Option Addr) (ca : Nat) (au : Option Addr) (cu : Nat) (ax : Option Addr) (cx : Nat),
      e = .returned (.tuple #[.agg (msgCells (unM s) (.slice aq (unM s).qs.length cq) (.slice aa (unM s).an.length ca) (.slice au (unM s).au.length cu) (.slice ax (unM s).ex.length cx)), .int .i64 (unE s)]) ∧
      Hid (Below w.heap.size w w' ∧ MsgAt w' (unM s) (.slice aq (unM s).qs.length cq) (.slice aa (unM s).an.length ca) (.slice au (unM s).au.length cu) (.slice ax (unM s).ex.length cx) ∧ ∀ k, ((Value.slice aq (unM s).qs.length cq).ownBlock = some k ∨ (Value.slice aa (unM s).an.length ca).ownBlock = some k ∨ (Value.slice au (unM s).au.length cu).ownBlock = some k ∨ (Value.slice ax (unM s).ex.length cx).ownBlock = some k) → w.heap.size ≤ k ∧ k < w'.heap.size) := by
  refine (wUnpack_any w b c s hsm hsc hbl hc).mono ?_
  intro e w' H
  obtain ⟨hb, hno, hyes⟩ := H.out
  cases hu : unpack s with
  | none =>
    have e1 : unM s = zMsg := by unfold unM; rw [hu]; rfl
    rw [e1, unM_none hu]
    refine ⟨none, 0, none, 0, none, 0, none, 0, hno hu, hb, ⟨liesNil _ _, liesNil _ _, liesNil _ _, liesNil _ _⟩, fun k hk => ?_⟩
    rcases hk with hk | hk | hk | hk <;> cases hk
  | some m =>
    rw [(unM_some hu).1, (unM_some hu).2]
    obtain ⟨vq, va, vu, vx, rfl, hn4, hr⟩ := hyes m hu
    obtain ⟨aq, cq, rfl⟩ := own_slice hr.q
    obtain ⟨aa, ca, rfl⟩ := own_slice hr.a
    obtain ⟨au, cu, rfl⟩ := own_slice hr.u
    obtain ⟨ax, cx, rfl⟩ := own_slice hr.x
    refine ⟨aq, cq, aa, ca, au, cu, ax, cx, rfl, hb, hr.at, fun k hk => ?_⟩
    rcases hk with hk | hk | hk | hk
    · exact ⟨hr.nq k hk, (hr.q.lt k hk).2⟩
    · exact ⟨hr.na k hk, (hr.a.lt k hk).2⟩
    · exact ⟨hr.nu k hk, (hr.u.lt k hk).2⟩
    · exact ⟨hr.nx k hk, (hr.x.lt k hk).2⟩

theorem told_nil {w : World} {sb : Nat} {s : QSt} {V : QV} {cs : List QC} {st : RSt} (h : QAt w sb s V cs) (hok : QOk s) (hs : Sim s st) (o : Obj) : Told w (w.alloc o) sb (V.owns cs sb) st (.slice none 0 0) [] :=
  ⟨⟨s, V, cs, h.below ((Below.refl _ _).alloc (Nat.le_refl _) _), hok, hs, Fr.of_below ((Below.refl _ _).alloc (Nat.le_refl _) _) _, fun k hk => by cases hk⟩, World.ownsRow_nil _ _ _ _, fun k hk => by cases hk⟩

set_option maxRecDepth 10000 in
set_option maxHeartbeats 2000000 in
theorem sAsk_busy (w : World) (sb b c : Nat) (q : QSt) (V : QV) (cs : List QC) (st : RSt) (s : ByteArray) (h : QAt w sb q V cs) (hok : QOk q) (hsm : Sim q st) (hbz : st.busy = true) :
    Calls Tryz.prog 35 #[.pointer (some ⟨sb, 0, none⟩), .slice (some ⟨b, 0, none⟩) s.size c] w (Tells w sb (V.owns cs sb) (askS st s)) := by
  have e : askS st s = (st, stepV 0 0 ⟨#[]⟩, 3) := by unfold askS; rw [if_pos hbz]
  rw [e]
  have H := hide h
  have HK := hide hok
  have HS := hide hsm
  have hc := box_cells (h.below ((Below.refl w.heap.size w).alloc (Nat.le_refl _) (.cells #[.int .i64 0, .int .u32 0, .slice none 0 0] 59))).box
  simp only [qCells, (hsm.busy hbz).1, nextV] at hc
  clear h e hok hsm
  unfold Tells
  go_enter Tryz.func35, Tryz.ntmps35
  go_wp2_with fail
  refine bodyPost_ret (results_cell_row2 rfl _ _ w.heap.size _ _ _ _ rfl (heap_new w _) undXs rfl (by kernel_rfl)) rfl ?_
  exact ⟨0, 0, none, [], 0, rfl, rfl, told_nil H.out HK.out HS.out _⟩
set_option maxRecDepth 10000 in
set_option maxHeartbeats 2000000 in
theorem sAsk_short (w : World) (sb b c : Nat) (q : QSt) (V : QV) (cs : List QC) (st : RSt) (s : ByteArray) (h : QAt w sb q V cs) (hok : QOk q) (hsm : Sim q st) (hbz : st.busy = false) (hs : s.size < 12) :
    Calls Tryz.prog 35 #[.pointer (some ⟨sb, 0, none⟩), .slice (some ⟨b, 0, none⟩) s.size c] w (Tells w sb (V.owns cs sb) (askS st s)) := by
  have e : askS st s = (st, stepV 2 0 ⟨#[]⟩, 0) := by unfold askS; rw [if_neg (by rw [hbz]; simp), if_pos hs]
  rw [e]
  have H := hide h
  have HK := hide hok
  have HS := hide hsm
  have hc := box_cells (h.below ((Below.refl w.heap.size w).alloc (Nat.le_refl _) (.cells #[.int .i64 0, .int .u32 0, .slice none 0 0] 59))).box
  simp only [qCells, (hsm.idle hbz).1, nextV] at hc
  clear h e hok hsm
  unfold Tells
  go_enter Tryz.func35, Tryz.ntmps35
  go_wp2_with fail
  refine bodyPost_ret (results_cell_row2 rfl _ _ w.heap.size _ _ _ _ rfl (heap_new w _) undXs rfl (by kernel_rfl)) rfl ?_
  exact ⟨2, 0, none, [], 0, rfl, rfl, told_nil H.out HK.out HS.out _⟩
end Go.Proofs.YtafoepfhepdcoaaGreat
