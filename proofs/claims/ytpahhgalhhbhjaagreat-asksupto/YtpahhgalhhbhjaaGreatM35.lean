import Derived.Test.YtpahhgalhhbhjaaGreatM30
import Derived.Test.YtpahhgalhhbhjaaGreatM34
import Derived.Test.YtpahhgalhhbhjaaGreatM29
/- New and Ask in plain terms. -/
namespace Go.Proofs.YtpahhgalhhbhjaaGreat
open Go.RowKit Go.Trawl

def confOk (b d c t : Int) (rs : List Int) : Prop := (1 ≤ b ∧ b ≤ 200) ∧ (0 ≤ d ∧ d ≤ 6) ∧ (0 ≤ c ∧ c ≤ 10) ∧ (1 ≤ t ∧ t ≤ 8) ∧ 1 ≤ rs.length ∧ rs.length ≤ 8
instance (b d c t : Int) (rs : List Int) : Decidable (confOk b d c t rs) := by unfold confOk; infer_instance
def newSt (b d c t : Int) (rs : List Int) : RSt := ⟨b, d, c, t, rs, 0, false, zMsg, [], [], [], 0, 0, ⟨#[]⟩⟩
theorem newSt_ok {b d c t : Int} {rs : List Int} (h : confOk b d c t rs) : StOk (newSt b d c t rs) :=
  ⟨h.1.1, h.1.2, h.2.1.1, h.2.1.2, h.2.2.1.1, h.2.2.1.2, h.2.2.2.1.1, h.2.2.2.1.2, h.2.2.2.2.1, h.2.2.2.2.2, by simp [newSt], by simp [newSt], zMsg_wf, by simp [newSt], by simp [newSt], by simp [newSt], by simp [newSt], by simp [newSt], by simp [newSt], by simp [newSt]⟩

/-- A message that refuses. -/
def refM (id code : Int) (qs : List Qn) : Msg := ⟨id, false, 0, false, false, false, false, code, qs, [], [], []⟩
/-- What a resolver is when a search begins. -/
def beginSt (st : RSt) (m : Msg) (q : Qn) : RSt := { st with busy := true, asked := m, kept := [], seen := [q.name], l := [freshCh st q.name q.kind], spent := 0 }
/-- Ask: the state behind it, the step, the error. -/
def askS (st : RSt) (s : ByteArray) : RSt × Value × Int :=
  if st.busy then (st, stepV 0 0 ⟨#[]⟩, 3)
  else if s.size < 12 then (st, stepV 2 0 ⟨#[]⟩, 0)
  else match unpack s with
    | none => (st, stepV 2 0 (str (replyL (refM (n2 s 0) 1 []))), 0)
    | some m =>
      if m.resp then (st, stepV 2 0 (str (replyL (refM (n2 s 0) 1 []))), 0)
      else match m.qs with
        | [q] => if m.op ≠ 0 ∨ q.cls ≠ 1 then (st, stepV 2 0 (str (replyL (refM m.id 4 [q]))), 0)
          else ((askP (beginSt st m q) [] (freshCh st q.name q.kind)).1, (askP (beginSt st m q) [] (freshCh st q.name q.kind)).2, 0)
        | _ => (st, stepV 2 0 (str (replyL (refM m.id 4 []))), 0)
theorem par_bind {α β : Type} {p : Par α} {f : α → Par β} {a : Nat} {r : β × Nat} (h : p.bind f a = some r) : ∃ q, p a = some q ∧ f q.1 q.2 = some r := by
  unfold Par.bind at h
  cases hp : p a with
  | none => rw [hp] at h; cases h
  | some q => rw [hp] at h; exact ⟨q, rfl, h⟩
theorem unpack_id {s : ByteArray} {m : Msg} (h : unpack s = some m) : m.id = n2 s 0 := by
  unfold unpack at h
  split at h
  · cases hp : pM s 0 with
    | none => simp [hp] at h
    | some r =>
      simp only [hp, Option.bind_some] at h
      split at h
      · cases h
        unfold pM at hp
        obtain ⟨q, h1, h2⟩ := par_bind hp
        have e : q.1 = (n2 s 0 : Int) := by
          unfold num2 at h1
          split at h1
          · cases h1; rfl
          · cases h1
        have key : ∀ id : Int, Always _ fun m : Msg => m.id = id := fun id =>
          (Always.any (num2 s)).bind fun f _ => (Always.any (num2 s)).bind fun q _ => (Always.any (num2 s)).bind fun a _ => (Always.any (num2 s)).bind fun u _ => (Always.any (num2 s)).bind fun x _ =>
            (Always.any ((pQ s).many q.toNat)).bind fun qs _ => (Always.any ((pR s).many a.toNat)).bind fun an _ => (Always.any ((pR s).many u.toNat)).bind fun au _ => (Always.any ((pR s).many x.toNat)).bind fun ex _ => Always.pure (x := flagged id f qs an au ex) rfl
        rw [← e]
        exact key q.1 q.2 r h2
      · cases h
  · cases h
end Go.Proofs.YtpahhgalhhbhjaaGreat

/- The program: the messages that a resolver packs. -/
namespace Go.Proofs.YtpahhgalhhbhjaaGreat
open Go.RowKit Go.Trawl

theorem wpack2 (m : Msg) (vq va vu vx : Value) (w : World) (hwf : WfM m) (hat : MsgAt w m vq va vu vx) :
    Calls Tryz.prog 71 #[.agg (msgCells m vq va vu vx)] w fun e w' => Below w.heap.size w w' ∧ ∃ a c, e = .returned (.tuple #[.slice a (packL m).length c, .int .i64 (packE m)]) ∧ w'.ownsRow w.heap.size 5 1 (.slice a (packL m).length c) (packL m).length (bytesV (packL m)) := by
  refine (wirePack_any m vq va vu vx w hwf hat).mono ?_
  rintro e w' ⟨hb, hno, hyes⟩
  refine ⟨hb, ?_⟩
  unfold packL packE
  by_cases hp : packOk m = true
  · obtain ⟨v, rfl, ho⟩ := hyes hp
    obtain ⟨a, c, rfl⟩ := own_slice ho
    simp only [hp, if_true]
    exact ⟨a, c, rfl, ho⟩
  · have hp' : packOk m = false := by simpa using hp
    rw [hno hp']
    simp only [hp']
    exact ⟨none, 0, rfl, World.ownsRow_nil _ _ _ _⟩

/-- Bytes in new memory. -/
structure NewB (w w' : World) (v : Value) (l : List UInt8) : Prop where
  below : Below w.heap.size w w'
  own : w'.ownsRow 0 5 1 v l.length (bytesV l)
  new : ∀ k, v.ownBlock = some k → w.heap.size ≤ k
theorem NewB.after {w w1 w' : World} {v : Value} {l : List UInt8} (hb : Below w.heap.size w w1) (h : NewB w1 w' v l) : NewB w w' v l :=
  ⟨hb.trans (h.below.mono hb.size), h.own, fun k hk => Nat.le_trans hb.size (h.new k hk)⟩
set_option maxRecDepth 10000 in
set_option maxHeartbeats 1000000 in
theorem packed_new (m : Msg) (vq va vu vx : Value) (w : World) (hwf : WfM m) (hat : MsgAt w m vq va vu vx) :
    Calls Tryz.prog 113 #[.agg (msgCells m vq va vu vx)] w fun e w' => ∃ a c, e = .returned (.slice a (packL m).length c) ∧ Hid (NewB w w' (.slice a (packL m).length c) (packL m)) := by
  have HAT := hide hat
  have HWF := hide hwf
  clear hat hwf
  unfold msgCells
  go_enter Tryz.func113, Tryz.ntmps113
  go_wp2_with fail
  have hb1 : Below w.heap.size w (w.alloc (.cells (msgCells m vq va vu vx) 32)) := (Below.refl _ _).alloc (Nat.le_refl _) _
  refine (wpack2 m vq va vu vx _ HWF.out (HAT.out.below hb1)).mono ?_
  rintro e w2 ⟨hb2, a, c, rfl, ho⟩
  have HN : Hid (NewB w w2 (.slice a (packL m).length c) (packL m)) := NewB.after hb1 ⟨hb2, own_zero ho, fun k hk => (ho.lt k hk).1⟩
  clear hb1 hb2 ho
  go_wp2_with fail
  go_ret
  exact ⟨a, c, rfl, HN.out⟩

theorem undXs : Tryz.prog.underlying 61 = some (.struct (Tryz.prog.fieldsOf 61)) := by kernel_rfl
theorem buildX2 (k : Int) (a : Option Addr) (n c : Nat) (W : World) : (Instr.build 61 #[(0, .int .i64 k), (2, .slice a n c)]).run Tryz.prog W = .ok (.agg #[.int .i64 k, .int .u32 0, .slice a n c]) W := run_build W _ _ _ (by kernel_rfl)
theorem buildX3 (k t : Int) (a : Option Addr) (n c : Nat) (W : World) : (Instr.build 61 #[(0, .int .i64 k), (1, .int .u32 t), (2, .slice a n c)]).run Tryz.prog W = .ok (.agg #[.int .i64 k, .int .u32 t, .slice a n c]) W := run_build W _ _ _ (by kernel_rfl)
theorem buildX0 (W : World) : (Instr.build 61 #[]).run Tryz.prog W = .ok (.agg #[.int .i64 0, .int .u32 0, .slice none 0 0]) W := run_build W _ _ _ (by kernel_rfl)
theorem buildX1 (k : Int) (W : World) : (Instr.build 61 #[(0, .int .i64 k)]).run Tryz.prog W = .ok (.agg #[.int .i64 k, .int .u32 0, .slice none 0 0]) W := run_build W _ _ _ (by kernel_rfl)
theorem buildMa (i k : Int) (a : Option Addr) (n c : Nat) (W : World) : (Instr.build 32 #[(0, .int .u16 i), (1, .bool true), (7, .int .i64 k), (8, .slice a n c)]).run Tryz.prog W = .ok (.agg #[.int .u16 i, .bool true, .int .i64 0, .bool false, .bool false, .bool false, .bool false, .int .i64 k, .slice a n c, .slice none 0 0, .slice none 0 0, .slice none 0 0]) W := run_build W _ _ _ (by kernel_rfl)
attribute [local go_sem] buildX2 buildX3 buildX0 buildX1 buildMa
def stepX (k t : Int) (v : Value) : Value := .agg #[.int .i64 k, .int .u32 t, v]
def zX : Array Value := #[.int .i64 0, .int .u32 0, .slice none 0 0]
theorem own_grown {w w' : World} {e : TypeId} {sz : Nat} {v : Value} {n r : Nat} {x : List Value} (h : w.ownsRow 0 e sz v n x) (hw : w.grownBy w' (some r)) (hr : v.ownBlock ≠ some r) : w'.ownsRow 0 e sz v n x := h.kept hw (.inr hr)
/-- The result's cell is written behind the bytes. -/
theorem NewB.put {w w0 w1 : World} {v : Value} {l : List UInt8} {r : Nat} {v0 v1 v2 : Value} (hb : Below w.heap.size w w0) (h : NewB w0 w1 v l) (hr : r < w0.heap.size) (hl : w.heap.size ≤ r) : NewB w (put3 w1 r v0 v1 v2) v l := by
  have hG := put3_grown w1 r v0 v1 v2
  exact ⟨below_of_grown (hb.trans (h.below.mono hb.size)) hl hG, own_grown h.own hG (fun e => by have := h.new r e; omega), fun k hk => Nat.le_trans hb.size (h.new k hk)⟩

set_option maxRecDepth 10000 in
set_option maxHeartbeats 1000000 in
theorem answer_new (m : Msg) (vq va vu vx : Value) (w : World) (hwf : WfM m) (hat : MsgAt w m vq va vu vx) :
    Calls Tryz.prog 90 #[.agg (msgCells m vq va vu vx)] w fun e w' => ∃ a c, e = .returned (stepX 2 0 (.slice a (packL m).length c)) ∧ Hid (NewB w w' (.slice a (packL m).length c) (packL m)) := by
  have HAT := hide hat
  have HWF := hide hwf
  clear hat hwf
  unfold msgCells
  go_enter Tryz.func90, Tryz.ntmps90
  go_wp2_with fail
  have hb1 : Below w.heap.size w ((w.alloc (.cells (msgCells m vq va vu vx) 32)).alloc (.cells zX 61)) := ((Below.refl _ _).alloc (Nat.le_refl _) _).alloc (by rw [alloc_size]; omega) _
  have hz : ((w.alloc (.cells (msgCells m vq va vu vx) 32)).alloc (.cells zX 61)).heap[w.heap.size + 1]? = some (.cells zX 61) := by
    have := heap_new (w.alloc (.cells (msgCells m vq va vu vx) 32)) (.cells zX 61)
    rw [alloc_size] at this
    exact this
  have HB1 := hide hb1
  have HZ1 := hide hz
  refine (packed_new m vq va vu vx _ HWF.out (HAT.out.below hb1)).mono ?_
  rintro e w2 ⟨a, c, rfl, H2⟩
  have HZ2 := hide ((H2.out.below.block _ (heap_lt hz)).trans hz)
  have hlt := heap_lt hz
  have HN2 := hide (fun v0 v1 v2 => NewB.put (r := w.heap.size + 1) (v0 := v0) (v1 := v1) (v2 := v2) hb1 H2.out hlt (by omega))
  clear hb1 hz hlt H2
  have hcz := box_cells HZ2.out
  have hfz := frozen_of_block HZ2.out
  simp only [zX] at hcz
  go_wp2_with fail
  clear hcz hfz
  refine bodyPost_ret (results_cell_row rfl _ _ (w.heap.size + 1) _ _ _ _ rfl (put3_box (.int .i64 2) (.int .u32 0) (.slice a (packL m).length c) HZ2.out) undXs rfl (by kernel_rfl)) rfl ?_
  exact ⟨a, c, rfl, HN2.out _ _ _⟩

set_option maxRecDepth 10000 in
set_option maxHeartbeats 1000000 in
theorem refusal_new (id code : Int) (qs : List Qn) (a0 : Option Addr) (c0 : Nat) (w : World) (hwf : WfM (asReply (refM id code qs))) (hat : Lies w 3 (.slice a0 qs.length c0) (qs.map Qn.cells)) :
    Calls Tryz.prog 59 #[.int .u16 id, .int .i64 code, .slice a0 qs.length c0] w fun e w' => ∃ a c, e = .returned (stepX 2 0 (.slice a (packL (asReply (refM id code qs))).length c)) ∧ Hid (NewB w w' (.slice a (packL (asReply (refM id code qs))).length c) (packL (asReply (refM id code qs)))) := by
  have HAT := hide hat
  have HWF := hide hwf
  clear hat hwf
  go_enter Tryz.func59, Tryz.ntmps59
  go_wp2_with fail
  have hb1 : Below w.heap.size w (w.alloc (.cells zX 61)) := (Below.refl _ _).alloc (Nat.le_refl _) _
  have hz := heap_new w (.cells zX 61)
  refine (answer_new (asReply (refM id code qs)) (.slice a0 qs.length c0) (.slice none 0 0) (.slice none 0 0) (.slice none 0 0) _ HWF.out ⟨HAT.out.below hb1, liesNil _ _, liesNil _ _, liesNil _ _⟩).mono ?_
  rintro e w2 ⟨a, c, rfl, H2⟩
  have HZ2 := hide ((H2.out.below.block _ (heap_lt hz)).trans hz)
  have hlt := heap_lt hz
  have HN2 := hide (fun v0 v1 v2 => NewB.put (r := w.heap.size) (v0 := v0) (v1 := v1) (v2 := v2) hb1 H2.out hlt (by omega))
  clear hb1 hz hlt H2
  have hcz := box_cells HZ2.out
  have hfz := frozen_of_block HZ2.out
  simp only [zX] at hcz
  unfold stepX
  generalize hps : packL (asReply (refM id code qs)) = ps at HN2 ⊢
  go_wp2_with fail
  clear hcz hfz
  refine bodyPost_ret (results_cell_row rfl _ _ w.heap.size _ _ _ _ rfl (put3_box (.int .i64 2) (.int .u32 0) (.slice a ps.length c) HZ2.out) undXs rfl (by kernel_rfl)) rfl ?_
  subst hps
  exact ⟨a, c, rfl, HN2.out _ _ _⟩
end Go.Proofs.YtpahhgalhhbhjaaGreat

/- The program: a question is sent. -/
namespace Go.Proofs.YtpahhgalhhbhjaaGreat
open Go.RowKit Go.Trawl
attribute [local go_sem] buildX3 buildQ1 buildMq

def stCells (st : RSt) (vr : Value) : Array Value := #[.int .i64 st.b, .int .i64 st.d, .int .i64 st.c, .int .i64 st.t, vr, .int .u16 st.id, .bool st.busy]
/-- The program's state of a resolver. -/
structure SAt (w : World) (sb : Nat) (vr : Value) (st : RSt) : Prop where
  box : w.heap[sb]? = some (.cells (stCells st vr) 127)
  roots : Lies w 1 vr (wordsV st.roots)
  ne : ∀ k, vr.ownBlock = some k → k ≠ sb
  lt : ∀ k, vr.ownBlock = some k → k < w.heap.size
theorem SAt.grown {w w' : World} {sb r : Nat} {vr : Value} {st : RSt} (h : SAt w sb vr st) (hw : w.grownBy w' (some r)) (hr : r ≠ sb) (hv : vr.ownBlock ≠ some r) : SAt w' sb vr st :=
  ⟨(hw.block sb (heap_lt h.box) (fun e => hr (Option.some.inj e).symm)).trans h.box, h.roots.keep hw.size (fun b hb hlt => hw.block b hlt (fun e => hv (by rw [hb, e]))), h.ne, fun k hk => Nat.lt_of_lt_of_le (h.lt k hk) hw.size⟩
theorem SAt.below {w w' : World} {sb : Nat} {vr : Value} {st : RSt} (h : SAt w sb vr st) (hw : Below w.heap.size w w') : SAt w' sb vr st :=
  ⟨(hw.block sb (heap_lt h.box)).trans h.box, h.roots.below hw, h.ne, fun k hk => Nat.lt_of_lt_of_le (h.lt k hk) hw.size⟩
theorem SAt.set {w : World} {sb : Nat} {vr : Value} {st st' : RSt} (h : SAt w sb vr st) (j : Nat) (u : Value) (he : (stCells st vr).setIfInBounds j u = stCells st' vr) (hr : st'.roots = st.roots) : SAt (w.setCell ⟨sb, j, none⟩ u) sb vr st' := by
  have hw := grownBy_setCell w sb j u
  refine ⟨by rw [heap_setCell_eq h.box, he], ?_, h.ne, fun k hk => Nat.lt_of_lt_of_le (h.lt k hk) hw.size⟩
  rw [hr]
  exact h.roots.keep hw.size (fun b hb hlt => hw.block b hlt (fun e => h.ne b hb (Option.some.inj e)))

theorem grown_alloc (w : World) (o : Obj) (r : Option Nat) : w.grownBy (w.alloc o) r := ⟨rfl, rfl, rfl, by rw [alloc_size]; omega, fun k hk _ => Below.heap_alloc w o k hk⟩
theorem lies_box {w : World} {sz b : Nat} {cs : Array Value} {t : TypeId} (h : w.heap[b]? = some (.cells cs t)) {l : List Value} (hl : l = cs.toList) : Lies w sz (.slice (some ⟨b, 0, none⟩) 1 1) [l] := by
  refine ⟨some ⟨b, 0, none⟩, 1, rfl, (fun e => by cases e), .inr ⟨b, 0, rfl, heap_lt h, fun i e hi j u hj => ?_⟩⟩
  cases i with
  | zero =>
    cases hi
    rw [box_cells h, hl] at *
    simpa using hj
  | succ i => cases hi
theorem grown_below {w w' : World} {r : Option Nat} (h : Below w.heap.size w w') : w.grownBy w' r := ⟨h.os, h.tape, h.output, h.size, fun k hk _ => h.block k hk⟩
/-- A step with bytes in new memory; of what was there the state alone has turned. -/
structure Told (w w' : World) (sb : Nat) (vr : Value) (st : RSt) (v : Value) (l : List UInt8) : Prop where
  at_ : SAt w' sb vr st
  own : w'.ownsRow 0 5 1 v l.length (bytesV l)
  new : ∀ k, v.ownBlock = some k → w.heap.size ≤ k
  grown : w.grownBy w' (some sb)

set_option maxRecDepth 10000 in
set_option maxHeartbeats 4000000 in
theorem send_new (w : World) (sb : Nat) (vr : Value) (st : RSt) (to kind : Int) (name : ByteArray) (h : SAt w sb vr st) (_ : 0 ≤ st.id) (_ : st.id ≤ 65535) (hwf : WfM (askM (nextId st.id) ⟨name, kind, rootN, [], 0, []⟩)) :
    Calls Tryz.prog 91 #[.pointer (some ⟨sb, 0, none⟩), .int .u32 to, .string name, .int .u16 kind] w fun e w' => ∃ a c,
      e = .returned (stepX 1 to (.slice a (packL (askM (nextId st.id) ⟨name, kind, rootN, [], 0, []⟩)).length c)) ∧ Hid (Told w w' sb vr { st with id := nextId st.id } (.slice a (packL (askM (nextId st.id) ⟨name, kind, rootN, [], 0, []⟩)).length c) (packL (askM (nextId st.id) ⟨name, kind, rootN, [], 0, []⟩))) := by
  have hb1 : Below w.heap.size w (w.alloc (.cells zX 61)) := (Below.refl _ _).alloc (Nat.le_refl _) _
  have H1 := hide (h.below hb1)
  have HZ1 := hide (heap_new w (.cells zX 61))
  have hsl : sb < w.heap.size := heap_lt h.box
  have hvl := h.lt
  have hc1 := box_cells H1.out.box
  have hf1 := frozen_of_block H1.out.box
  have HWF := hide hwf
  have HB1 := hide hb1
  have hnx : IntKind.u16.wrap (st.id + 1) = nextId st.id := by rw [IntKind.wrap_u16]; rfl
  have HS := hide h
  clear h hb1 hwf
  simp only [stCells, zX] at hc1 hf1
  go_enter Tryz.func91, Tryz.ntmps91
  go_wp2_with fail
  clear hc1 hf1 H1 HZ1
  obtain ⟨W1, hW1⟩ : ∃ x : World, x = w.setCell ⟨sb, 5, none⟩ (.int .u16 (nextId st.id)) := ⟨_, rfl⟩
  have hz1 : W1.heap.size = w.heap.size := by rw [hW1]; simp [World.setCell]
  have hs1 : SAt W1 sb vr { st with id := nextId st.id } := by rw [hW1]; exact HS.out.set 5 _ rfl rfl
  have hg1 : w.grownBy W1 (some sb) := by rw [hW1]; exact grownBy_setCell w sb 5 _
  rw [← hW1]
  clear hW1
  have hb2 := (Below.refl W1.heap.size W1).alloc (Nat.le_refl _) (.cells #[Value.int IntKind.i64 0, Value.int IntKind.u32 0, Value.slice none 0 0] 61)
  have hs2 := hs1.below hb2
  have hx2 := heap_new W1 (.cells #[Value.int IntKind.i64 0, Value.int IntKind.u32 0, Value.slice none 0 0] 61)
  have hz2 := alloc_size W1 (.cells #[Value.int IntKind.i64 0, Value.int IntKind.u32 0, Value.slice none 0 0] 61)
  have hg2 : w.grownBy (W1.alloc (.cells #[Value.int IntKind.i64 0, Value.int IntKind.u32 0, Value.slice none 0 0] 61)) (some sb) := grownBy_trans hg1 (grown_alloc _ _ _)
  generalize W1.alloc (.cells #[Value.int IntKind.i64 0, Value.int IntKind.u32 0, Value.slice none 0 0] 61) = W2 at hs2 hx2 hz2 hg2 ⊢
  have hb3 := (Below.refl W2.heap.size W2).alloc (Nat.le_refl _) (.cells #[Value.string name, Value.int IntKind.u16 kind, Value.int IntKind.u16 1] 28)
  have HS3 := hide (hs2.below hb3)
  have HX3 := hide (heap_old hx2 (.cells #[Value.string name, Value.int IntKind.u16 kind, Value.int IntKind.u16 1] 28))
  have HQ3 := hide (heap_new W2 (.cells #[Value.string name, Value.int IntKind.u16 kind, Value.int IntKind.u16 1] 28))
  have HG3 := hide (grownBy_trans hg2 (grown_alloc W2 (.cells #[Value.string name, Value.int IntKind.u16 kind, Value.int IntKind.u16 1] 28) (some sb)))
  generalize W2.alloc (.cells #[Value.string name, Value.int IntKind.u16 kind, Value.int IntKind.u16 1] 28) = W3 at HS3 HX3 HQ3 HG3 ⊢
  rw [hz2, hz1] at HQ3
  rw [hz1] at HX3
  clear hs1 hg1 hb2 hs2 hx2 hz2 hz1 hg2 hb3 HS
  have hc3 := box_cells HS3.out.box
  simp only [stCells] at hc3
  have hq3 := box_cells HQ3.out
  obtain ⟨W4, hW4⟩ : ∃ x : World, x = (W3.alloc (.cells #[Value.string name, Value.int IntKind.u16 kind, Value.int IntKind.u16 1] 28)).drew := ⟨_, rfl⟩
  have hb4 : Below W3.heap.size W3 W4 := by rw [hW4]; exact below_drewN ((Below.refl _ _).alloc (Nat.le_refl _) _) 1
  have HS4 := hide (HS3.out.below hb4)
  have HX4 := hide ((hb4.block _ (heap_lt HX3.out)).trans HX3.out)
  have hl4 : W4.heap[W3.heap.size]? = some (.cells #[Value.string name, Value.int IntKind.u16 kind, Value.int IntKind.u16 1] 28) := by rw [hW4]; exact heap_new W3 _
  have HL4 := hide (lies_box (sz := 3) hl4 (l := Qn.cells ⟨name, kind, 1⟩) rfl)
  have HG4 : Hid (w.grownBy W4 (some sb)) := by rw [hW4]; exact grownBy_trans (grownBy_trans HG3.out (grown_alloc W3 _ _)) (grownBy_drew _ _)
  have HC4 : Hid (∀ w5, Below W4.heap.size W4 w5 → w5.cell? ⟨sb, 5, none⟩ = some (.int .u16 (nextId st.id)) ∧ w5.cell? ⟨w.heap.size + 1, 0, none⟩ = some (.string name) ∧ w5.cell? ⟨w.heap.size + 1, 1, none⟩ = some (.int .u16 kind) ∧ w5.cell? ⟨w.heap.size + 1, 2, none⟩ = some (.int .u16 1)) := by
    intro w5 hb5
    have e1 := box_cells (HS4.out.below hb5).box
    have e2 := box_cells ((hb5.block _ (Nat.lt_of_lt_of_le (heap_lt HQ3.out) hb4.size)).trans ((hb4.block _ (heap_lt HQ3.out)).trans HQ3.out))
    exact ⟨(e1 5).trans rfl, (e2 0).trans rfl, (e2 1).trans rfl, (e2 2).trans rfl⟩
  have HW4 := hide hW4
  have HZ4 : Hid (w.heap.size < W4.heap.size) := heap_lt HX4.out
  clear hb4 hl4 hW4
  have hns : ¬ w.heap.size = sb := by omega
  have hns' : ¬ sb = w.heap.size := by omega
  go_region_held3 (fun w' => w'.cell? ⟨sb, 5, none⟩ = some (.int .u16 (nextId st.id)) ∧ w'.cell? ⟨w.heap.size + 1, 0, none⟩ = some (.string name) ∧ w'.cell? ⟨w.heap.size + 1, 1, none⟩ = some (.int .u16 kind) ∧ w'.cell? ⟨w.heap.size + 1, 2, none⟩ = some (.int .u16 1)) (first | (go_keep; done) | exact hs5) (first | (go_at_call 113; rw [← HW4.out]; refine (packed_new (askM (nextId st.id) ⟨name, kind, rootN, [], 0, []⟩) (.slice (some ⟨W3.heap.size, 0, none⟩) 1 1) (.slice none 0 0) (.slice none 0 0) (.slice none 0 0) W4 HWF.out ⟨HL4.out, liesNil _ _, liesNil _ _, liesNil _ _⟩).mono ?_; rintro e w5 ⟨a5, c5, rfl, H5⟩; have hs5 := HC4.out w5 H5.out.below; have HX5 := hide ((H5.out.below.block _ (heap_lt HX4.out)).trans HX4.out); have hcz := box_cells HX5.out; have hfz := frozen_of_block HX5.out))
  all_goals
    clear hc3 hq3 hcz hfz hs5 hns hns'
    generalize hps : packL (askM (nextId st.id) ⟨name, kind, rootN, [], 0, []⟩) = ps at H5 ⊢
    go_wp2_with fail
    refine bodyPost_ret (results_cell_row rfl _ _ w.heap.size _ _ _ _ rfl (put3_box (.int .i64 1) (.int .u32 to) (.slice a5 ps.length c5) HX5.out) undXs rfl (by kernel_rfl)) rfl ?_
    have hG := put3_grown w5 w.heap.size (.int .i64 1) (.int .u32 to) (.slice a5 ps.length c5)
    have hz4 := HZ4.out
    subst hps
    refine ⟨a5, c5, rfl, ⟨(HS4.out.below H5.out.below).grown hG (by omega) (fun e => by have := hvl _ e; omega), own_grown H5.out.own hG (fun e => by have := H5.out.new _ e; omega), fun k hk => by have := H5.out.new k hk; omega, ?_⟩⟩
    exact grownBy_trans' (grownBy_trans HG4.out (grown_below H5.out.below)) hG (.inr ⟨_, rfl, Nat.le_refl _⟩)
end Go.Proofs.YtpahhgalhhbhjaaGreat
