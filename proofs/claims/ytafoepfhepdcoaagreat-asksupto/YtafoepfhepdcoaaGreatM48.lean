import Derived.Test.YtafoepfhepdcoaaGreatM47
import Derived.Shelf.Abstract
/- The program: it goes on until there is something to say. -/
namespace Go.Proofs.YtafoepfhepdcoaaGreat
open Go.RowKit Go.Trawl

theorem ex_least {P : Nat → Prop} (h : ∃ n, P n) : ∃ n, P n ∧ ∀ m, P m → n ≤ m := by
  obtain ⟨n, hn⟩ := h
  induction n using Nat.strongRecOn with
  | _ n ih =>
    by_cases hm : ∃ m, m < n ∧ P m
    · obtain ⟨m, h1, h2⟩ := hm
      exact ih m h1 h2
    · exact ⟨n, hn, fun m h => Classical.byContradiction fun hc => hm ⟨m, by omega, h⟩⟩
open Classical in
noncomputable def least (P : Nat → Prop) : Nat := if h : ∃ n, P n then Classical.choose (ex_least h) else 0
theorem least_at {P : Nat → Prop} (h : ∃ n, P n) : P (least P) := by
  unfold least
  rw [dif_pos h]
  exact (Classical.choose_spec (ex_least h)).1
theorem least_le {P : Nat → Prop} {m : Nat} (h : P m) : least P ≤ m := by
  unfold least
  rw [dif_pos ⟨m, h⟩]
  exact (Classical.choose_spec (ex_least ⟨m, h⟩)).2 m h

theorem q_next (w : World) (sb : Nat) (s : QSt) (V : QV) (cs : List QC) (h : QAt w sb s V cs) (hok : QOk s) (hp : s.ph ≠ .idle) :
    ∃ k, nextV sb s.ph = .func (.func k) #[.pointer (some ⟨sb, 0, none⟩)] #[] ∧ Enters Tryz.prog k ∧ Calls Tryz.prog k #[.pointer (some ⟨sb, 0, none⟩)] w (QTells w sb V cs (stepQ s)) := by
  obtain ⟨hne, hrp, _⟩ := hok.busy hp
  obtain ⟨c, r, rfl⟩ : ∃ c r, cs = c :: r := by
    cases cs with
    | nil => exact absurd h.chs.symm hne
    | cons c r => exact ⟨c, r, rfl⟩
  have hch : s.ch = c.ch :: r.map QC.ch := h.chs.symm
  have hfew := hok.few
  unfold stepQ
  cases hph : s.ph with
  | idle => exact absurd hph hp
  | send => exact ⟨_, rfl, enters_of Tryz.func162 (by kernel_rfl) rfl, q_send w sb s V c r h hok (hok.srv hph _ _ hch)⟩
  | fail =>
    have := hok.an (by rw [hph]; simp)
    have := hok.c1
    exact ⟨_, rfl, enters_of Tryz.func163 (by kernel_rfl) rfl, q_fail w sb s V c r h (by omega)⟩
  | failAll =>
    have := hok.an (by rw [hph]; simp)
    have := hok.c1
    exact ⟨_, rfl, enters_of Tryz.func175 (by kernel_rfl) rfl, q_failAll w sb s V (c :: r) h (by omega)⟩
  | seek => exact ⟨_, rfl, enters_of Tryz.func124 (by kernel_rfl) rfl, q_seek w sb s V c r h hok⟩
  | finish => exact ⟨_, rfl, enters_of Tryz.func171 (by kernel_rfl) rfl, q_finish w sb s V (c :: r) h hok hrp⟩

/-- Amid the way: so many steps are to come. -/
def GoSt (w0 : World) (sb : Nat) (O : Nat → Prop) (p : QSt × QOut) (wr : World) (n : Nat) : Prop :=
  ∃ s V cs, goes n s = some p ∧ QAt wr sb s V cs ∧ QOk s ∧ s.ph ≠ .idle ∧ Fr w0 wr O (V.owns cs sb) ∧ wr.heap[w0.heap.size]? = some (.cells zX 59) ∧ ¬ V.owns cs sb w0.heap.size
theorem stepQ_busy {s : QSt} (hp : s.ph ≠ .idle) (h0 : (stepQ s).2.1 = 0) : (stepQ s).1.ph ≠ .idle := by
  unfold stepQ at h0 ⊢
  split at h0
  · rename_i e; exact absurd e hp
  · rename_i e
    unfold sendQ at h0 ⊢
    split
    · exact hp
    · split
      · simp
      · split
        · simp
        · rename_i c r ec h1 h2
          simp only [ec, if_neg h1, if_neg h2] at h0
          exact absurd h0 (by decide)
  · show (endQ s 2 []).ph ≠ _
    unfold endQ
    split <;> simp [settleQ]
  · simp [settleQ]
  · show (seekQ s).ph ≠ _
    unfold seekQ
    split
    · exact hp
    · split
      · simp
      · split
        · simp
        · split <;> simp [startQ]
  · cases (show (2 : Int) = 0 from h0)

set_option maxRecDepth 10000 in
set_option maxHeartbeats 2000000 in
theorem q_goOn (w : World) (sb : Nat) (s : QSt) (V : QV) (cs : List QC) (n : Nat) (p : QSt × QOut) (h : QAt w sb s V cs) (hok : QOk s) (hp : s.ph ≠ .idle) (hg : goes n s = some p) :
    Calls Tryz.prog 78 #[.pointer (some ⟨sb, 0, none⟩)] w (QTells w sb V cs p) := by
  have hb1 := (Below.refl w.heap.size w).alloc (Nat.le_refl _) (.cells zX 59)
  have HLT := hide h.lt
  have H0 : Hid (∃ n, GoSt w sb (V.owns cs sb) p (w.alloc (.cells zX 59)) n) := ⟨n, s, V, cs, hg, h.below hb1, hok, hp, Fr.of_below hb1 _, heap_new w _, fun e => by have := h.lt _ e; omega⟩
  clear h hok hp hg hb1
  unfold QTells
  unfold zX at H0
  go_enter Tryz.func78, Tryz.ntmps78
  go_wp2_with fail
  generalize w.alloc (.cells #[Value.int IntKind.i64 0, Value.int IntKind.u32 0, Value.slice none 0 0] 59) = W1 at H0 ⊢
  go_loopw [] (fun wr => ∃ n, GoSt w sb (V.owns cs sb) p wr n) (fun wr => least (GoSt w sb (V.owns cs sb) p wr))
  case atStart => exact H0.out
  case round =>
    have hat := least_at hrel
    have HM : Hid (∀ w', GoSt w sb (V.owns cs sb) p w' (least (GoSt w sb (V.owns cs sb) p wr) - 1) → least (GoSt w sb (V.owns cs sb) p w') < least (GoSt w sb (V.owns cs sb) p wr) ∨ least (GoSt w sb (V.owns cs sb) p wr) = 0) := fun w' h => by
      have := least_le h
      omega
    have hm := hat
    generalize least (GoSt w sb (V.owns cs sb) p wr) = m at hm HM ⊢
    clear hat hrel
    obtain ⟨s1, V1, cs1, hg1, h1, ok1, hp1, f1, hx1, hn1⟩ := hm
    obtain ⟨k, hk, hent, hcall⟩ := q_next wr sb s1 V1 cs1 h1 ok1 hp1
    have hc := box_cells h1.box
    simp only [qCells] at hc
    rw [hk] at hc
    unfold Enters at hent
    have H1 := hide h1
    have OK1 := hide ok1
    have HP1 := hide hp1
    have F1 := hide f1
    have HX1 := hide hx1
    have HN1 := hide hn1
    have HG1 := hide hg1
    clear h1 ok1 hp1 f1 hx1 hn1 hg1
    go_wp2_with fail
    refine hcall.mono ?_
    rintro e w2 ⟨a2, c2, rfl, H2⟩
    clear hc hk hcall hent
    obtain ⟨V2, cs2, h2, f2, o2, n2⟩ := H2.out
    have hx2 := f2.stay HX1.out HN1.out
    have hn2 : ¬ V2.owns cs2 sb w.heap.size := fun e => by
      rcases f2.new _ e with e | e
      · exact HN1.out e
      · have := heap_lt HX1.out; omega
    have HF2 := hide (F1.out.trans f2)
    have HX2 := hide hx2
    have HN2 := hide hn2
    have hz1 := heap_lt HX1.out
    cases m with
    | zero => cases HG1.out
    | succ n' =>
    have hg' := HG1.out
    unfold goes at hg'
    by_cases h0 : (stepQ s1).2.1 = 0
    · rw [if_pos h0] at hg'
      have hb3 := (Below.refl w2.heap.size w2).alloc (Nat.le_refl _) (.cells #[.int .i64 (stepQ s1).2.1, .int .u32 (stepQ s1).2.2.1, .slice a2 (stepQ s1).2.2.2.length c2] 59)
      have HS3 : Hid (GoSt w sb (V.owns cs sb) p (w2.alloc (.cells #[.int .i64 (stepQ s1).2.1, .int .u32 (stepQ s1).2.2.1, .slice a2 (stepQ s1).2.2.2.length c2] 59)) n') := ⟨_, V2, cs2, hg', h2.below hb3, stepQ_ok OK1.out HP1.out, stepQ_busy HP1.out h0, HF2.out.trans (Fr.of_below hb3 _), (hb3.block _ (heap_lt hx2)).trans hx2, hn2⟩
      clear h2 f2 o2 n2 hx2 hn2 hg' H2 hb3
      unfold stepX
      generalize (stepQ s1).2.2.2.length = l2 at HS3 ⊢
      generalize (stepQ s1).2.2.1 = t2 at HS3 ⊢
      generalize (stepQ s1).2.1 = k2 at h0 HS3 ⊢
      subst h0
      go_wp2_with fail
      have := HM.out _ (show GoSt _ _ _ _ _ (n' + 1 - 1) from HS3.out)
      exact ⟨⟨_, HS3.out⟩, by omega⟩
    · rw [if_neg h0] at hg'
      have hpp := Option.some.inj hg'
      have HPP := hide hpp
      have H2' : Hid (∃ V' cs', QAt w2 sb p.1 V' cs' ∧ Fr wr w2 (V1.owns cs1 sb) (V'.owns cs' sb) ∧ w2.ownsRow 0 5 1 (.slice a2 p.2.2.2.length c2) p.2.2.2.length (bytesV p.2.2.2) ∧ ∀ k, (Value.slice a2 p.2.2.2.length c2).ownBlock = some k → wr.heap.size ≤ k ∧ ¬ V'.owns cs' sb k) := by rw [← hpp]; exact H2.out
      rw [hpp]
      rw [hpp] at h0
      clear hg' hpp h2 f2 o2 n2 hx2 hn2 H2
      unfold stepX
      have hb9 : (p.2.1 != 0) = true := by simpa using h0
      have HB3 := hide ((Below.refl w2.heap.size w2).alloc (Nat.le_refl _) (.cells #[.int .i64 p.2.1, .int .u32 p.2.2.1, .slice a2 p.2.2.2.length c2] 59))
      have HX3 := hide (heap_old HX2.out (.cells #[.int .i64 p.2.1, .int .u32 p.2.2.1, .slice a2 p.2.2.2.length c2] 59))
      have hcx := box_cells HX3.out
      have hfx := frozen_of_block HX3.out
      unfold zX at hcx
      go_wp2_with (with_reducible refine stop_store _ (.tmp 2) _ rfl ?_)
      unfold Stopped
      generalize w2.alloc _ = W3 at HB3 HX3 hcx hfx ⊢
      go_wp2_with fail
      clear hcx hfx
      refine bodyPost_ret (results_cell_row rfl _ _ w.heap.size _ _ _ _ rfl (put3_box (.int .i64 p.2.1) (.int .u32 p.2.2.1) (.slice a2 p.2.2.2.length c2) HX3.out) undXs rfl (by kernel_rfl)) rfl ?_
      obtain ⟨V', cs', h3, f3, o3, n3⟩ := H2'.out
      have hG := put3_grown W3 w.heap.size (.int .i64 p.2.1) (.int .u32 p.2.2.1) (.slice a2 p.2.2.2.length c2)
      have hno : ¬ V'.owns cs' sb w.heap.size := fun e => by
        rcases f3.new _ e with e | e
        · exact HN1.out e
        · omega
      refine ⟨a2, c2, rfl, V', cs', (h3.below HB3.out).aside hG hno, ((F1.out.trans f3).trans (Fr.of_below HB3.out _)).write hG (Nat.le_refl _), own_grown (own_below o3 HB3.out) hG (fun e => ?_), fun k e => ⟨?_, (n3 k e).2⟩⟩
      · have := (n3 _ e).1; omega
      · have := (n3 _ e).1; omega
end Go.Proofs.YtafoepfhepdcoaaGreat

/- The program: a search begins. -/
namespace Go.Proofs.YtafoepfhepdcoaaGreat
open Go.RowKit Go.Trawl

theorem buildMb (i : Int) (wt : Bool) (a : Option Addr) (n c : Nat) (W : World) : (Instr.build 30 #[(0, .int .u16 i), (1, .bool true), (5, .bool wt), (6, .bool true), (8, .slice a n c)]).run Tryz.prog W = .ok (.agg #[.int .u16 i, .bool true, .int .i64 0, .bool false, .bool false, .bool wt, .bool true, .int .i64 0, .slice a n c, .slice none 0 0, .slice none 0 0, .slice none 0 0]) W := run_build W _ _ _ (by kernel_rfl)
attribute [local go_sem] mf buildMb fieldQ0
def replyM (m : Msg) (q : Qn) : Msg := ⟨m.id, true, 0, false, false, m.wanted, true, 0, [q], [], [], []⟩
def beginQ (s : QSt) (m : Msg) (q : Qn) : QSt := startQ { s with reply := replyM m q } (newQ q.name q.kind) []
def repL (m : Msg) (vq : Value) : List Value := [.int .u16 m.id, .bool true, .int .i64 0, .bool false, .bool false, .bool m.wanted, .bool true, .int .i64 0, vq, .slice none 0 0, .slice none 0 0, .slice none 0 0]
/-- The answer begins. -/
theorem QAt.reply {w : World} {sb : Nat} {s : QSt} {V : QV} {cs : List QC} (h : QAt w sb s V cs) (m : Msg) (q : Qn) (vq : Value) (hq : Lies w 3 vq [q.cells]) (hk : ∀ k, vq.ownBlock = some k → k < w.heap.size ∧ ¬ V.owns cs sb k) :
    QAt (putN sb w 9 (repL m vq)) sb { s with reply := replyM m q } ⟨V.vR, vq, .slice none 0 0⟩ cs ∧ ∀ i, QV.owns ⟨V.vR, vq, .slice none 0 0⟩ cs sb i → V.owns cs sb i ∨ vq.ownBlock = some i := by
  have hwr : ∀ i, QV.writes ⟨V.vR, vq, .slice none 0 0⟩ cs sb i → V.writes cs sb i := by
    rintro i (e | e | e)
    · exact .inl e
    · cases e
    · exact .inr (.inr e)
  have how : ∀ i, QV.owns ⟨V.vR, vq, .slice none 0 0⟩ cs sb i → V.owns cs sb i ∨ vq.ownBlock = some i := by
    rintro i (e | ⟨v, hv, e⟩)
    · exact .inl (.inl (hwr i e))
    · rcases mem_reads.1 hv with rfl | rfl | e1
      · exact .inl (.inr ⟨_, mem_reads.2 (.inl rfl), e⟩)
      · exact .inr e
      · exact .inl (.inr ⟨v, mem_reads.2 (.inr (.inr e1)), e⟩)
  have hbx := putN_box sb (repL m vq) w 9 _ h.box
  have he : setN (qCells s V sb cs) 9 (repL m vq) = qCells { s with reply := replyM m q } ⟨V.vR, vq, .slice none 0 0⟩ sb cs := by simp [setN, repL, qCells, replyM]
  rw [he] at hbx
  refine ⟨h.turn (putN_grown sb _ w 9) hbx rfl rfl hq (World.ownsRow_nil _ _ _ _) h.chs h.chain h.nod (fun v hv k e hw => ?_) (fun k e => ?_), how⟩
  · rcases mem_reads.1 hv with rfl | rfl | e1
    · exact h.free _ (mem_reads.2 (.inl rfl)) k e (hwr k hw)
    · exact (hk k e).2 (.inl (hwr k hw))
    · exact h.free v (mem_reads.2 (.inr (.inr e1))) k e (hwr k hw)
  · rcases how k e with e | e
    · exact h.lt k e
    · exact (hk k e).1

set_option maxRecDepth 10000 in
set_option maxHeartbeats 2000000 in
theorem q_begin (w : World) (sb : Nat) (s : QSt) (V : QV) (cs : List QC) (m : Msg) (q : Qn) (vq va vu vx : Value) (h : QAt w sb s V cs) (hq : Lies w 3 vq [q.cells]) (hk : ∀ k, vq.ownBlock = some k → k < w.heap.size ∧ ¬ V.owns cs sb k) :
    Calls Tryz.prog 77 #[.pointer (some ⟨sb, 0, none⟩), .agg (msgCells m vq va vu vx)] w fun e w' => e = .returned (.tuple #[]) ∧ Hid (∃ V' cs', QAt w' sb (beginQ s m q) V' cs' ∧ Fr w w' (fun i => V.owns cs sb i ∨ vq.ownBlock = some i) (V'.owns cs' sb)) := by
  have hb1 := (Below.refl w.heap.size w).alloc (Nat.le_refl _) (.cells (msgCells m vq va vu vx) 30)
  have HB1 := hide hb1
  have h1 := h.below hb1
  have HR := hide (h1.reply m q vq (hq.below hb1) (fun k e => ⟨Nat.lt_of_lt_of_le (hk k e).1 hb1.size, (hk k e).2⟩))
  have hc := box_cells h1.box
  have hf := frozen_of_block h1.box
  simp only [qCells] at hc
  have hx := heap_new w (.cells (msgCells m vq va vu vx) 30)
  have hcx := box_cells hx
  have hl1 := h.slt
  have n1 : ¬ w.heap.size = sb := by omega
  have n2 : ¬ sb = w.heap.size := by omega
  obtain ⟨aq, cq, hvq, _⟩ := hq
  subst hvq
  unfold msgCells at hcx hc hf HR HB1 ⊢
  clear h h1 hb1 hx
  go_enter Tryz.func77, Tryz.ntmps77
  go_wp2_with (with_reducible refine stop_load _ (.tmp 5) rfl ?_)
  unfold Stopped
  have hz1 := alloc_size w (.cells #[Value.int IntKind.u16 m.id, Value.bool m.resp, Value.int IntKind.i64 m.op, Value.bool m.own, Value.bool m.cut, Value.bool m.wanted, Value.bool m.able, Value.int IntKind.i64 m.code, Value.slice aq [q.cells].length cq, va, vu, vx] 30)
  generalize w.alloc _ = W1 at HB1 HR hc hf hcx hz1 ⊢
  simp only [putN, repL, Nat.reduceAdd] at HR
  have HG : Hid (W1.grownBy (putN sb W1 9 (repL m (.slice aq [q.cells].length cq))) (some sb)) := putN_grown sb _ W1 9
  simp only [putN, repL, Nat.reduceAdd] at HG
  go_wp2_with fail
  generalize (World.setCell _ ⟨sb, 20, none⟩ (Value.slice none 0 0)) = W2 at HR HG ⊢
  clear hc hf hcx
  refine (q_asked W2 sb _ _ _ q HR.out.1 rfl).mono ?_
  rintro e w3 ⟨rfl, HB3⟩
  go_wp2_with fail
  refine (q_lookUp w3 sb _ _ _ q.name q (HR.out.1.below HB3.out) rfl).mono ?_
  rintro e w4 ⟨rfl, H4⟩
  go_wp2_with fail
  go_end0
  obtain ⟨cs', h4, f4⟩ := H4.out
  refine ⟨rfl, _, cs', h4, ?_⟩
  have f2 : Fr w W2 (fun i => V.owns cs sb i ∨ (Value.slice aq [q.cells].length cq).ownBlock = some i) (QV.owns ⟨V.vR, .slice aq [q.cells].length cq, .slice none 0 0⟩ cs sb) := (Fr.of_below HB1.out _).turn HG.out (.inl (.inl (.inl (.inl rfl)))) (fun i hi => .inl (HR.out.2 i hi))
  exact (f2.trans (Fr.of_below HB3.out _)).trans f4
end Go.Proofs.YtafoepfhepdcoaaGreat
