import Derived.Test.YtafoepfhepdcoaaGreatM51
import Derived.Conc.MuLone
import Derived.Defers
import Derived.Test.YtafoepfhepdcoaaGreatM38
import Derived.Test.YtafoepfhepdcoaaGreatM41
/- The program: a resolver behind its lock. -/
namespace Go.Proofs.YtafoepfhepdcoaaGreat
open Go.RowKit Go.Trawl Go.MuLone
attribute [local go_sem] buildX0 buildX1

theorem sAsk_any (w : World) (sb b c : Nat) (q : QSt) (V : QV) (cs : List QC) (st : RSt) (s : ByteArray) (h : QAt w sb q V cs) (hqk : QOk q) (hsim : Sim q st) (hok : StOk st) (hsm : s.size ≤ 2097152) (hsc : s.size ≤ c) (hbl : b < w.heap.size) (hby : Bytes w b s) :
    Calls Tryz.prog 35 #[.pointer (some ⟨sb, 0, none⟩), .slice (some ⟨b, 0, none⟩) s.size c] w (Tells w sb (V.owns cs sb) (askS st s)) := by
  cases hb : st.busy with
  | true => exact sAsk_busy w sb b c q V cs st s h hqk hsim hb
  | false =>
    by_cases hs : s.size < 12
    · exact sAsk_short w sb b c q V cs st s h hqk hsim hb hs
    · exact sAsk_long w sb b c q V cs st s h hqk hsim hok hb hs hsm hsc hbl hby

/-- Where the lists of a program's resolver lie. -/
structure PV where
  V : QV
  cs : List QC
/-- A resolver of the program, as the document's stands. -/
structure PAt (w : World) (xb sb : Nat) (vr : PV) (st : RSt) : Prop where
  box : ∃ z, w.heap[xb]? = some (.cells #[.int .i32 0, z, .pointer (some ⟨sb, 0, none⟩)] 96)
  at_ : ∃ s, QAt w sb s vr.V vr.cs ∧ QOk s ∧ Sim s st
  nx : ¬ vr.V.owns vr.cs sb xb
def pOwns (xb sb : Nat) (vr : PV) (k : Nat) : Prop := k = xb ∨ vr.V.owns vr.cs sb k
theorem PAt.lt {w : World} {xb sb : Nat} {vr : PV} {st : RSt} (h : PAt w xb sb vr st) : ∀ k, pOwns xb sb vr k → k < w.heap.size := by
  obtain ⟨z, hz⟩ := h.box
  obtain ⟨s, hs, _⟩ := h.at_
  rintro k (rfl | hk)
  · exact heap_lt hz
  · exact hs.lt k hk
theorem PAt.keep {w w' : World} {xb sb : Nat} {vr : PV} {st : RSt} (h : PAt w xb sb vr st) (hs : w.heap.size ≤ w'.heap.size) (hk : ∀ k, pOwns xb sb vr k → w'.heap[k]? = w.heap[k]?) : PAt w' xb sb vr st := by
  obtain ⟨z, hz⟩ := h.box
  obtain ⟨s, h1, h2, h3⟩ := h.at_
  exact ⟨⟨z, (hk xb (.inl rfl)).trans hz⟩, ⟨s, h1.at hs (fun k e => hk k (.inr e)), h2, h3⟩, h.nx⟩

/-- What comes out of a call of a resolver. -/
structure Spoke (w w' : World) (xb sb : Nat) (vr vr' : PV) (st : RSt) (v : Value) (l : List UInt8) : Prop where
  at_ : PAt w' xb sb vr' st
  own : w'.ownsRow 0 5 1 v l.length (bytesV l)
  new : ∀ k, v.ownBlock = some k → w.heap.size ≤ k
  apart : ∀ k, v.ownBlock = some k → ¬ pOwns xb sb vr' k
  fr : Fr w w' (pOwns xb sb vr) (pOwns xb sb vr')
def Speaks (w : World) (xb sb : Nat) (vr : PV) (p : RSt × Value × Int) (e : Ending) (w' : World) : Prop :=
  ∃ (k t : Int) (a : Option Addr) (l : List UInt8) (c : Nat), e = .returned (.tuple #[stepX k t (.slice a l.length c), .int .i64 p.2.2]) ∧ Hid (p.2.1 = stepV k t (str l) ∧ ∃ vr', Spoke w w' xb sb vr vr' p.1 (.slice a l.length c) l)
/-- The state has told; the lock is given back. -/
theorem spoke_of {w W2 w3 w4 w5 : World} {xb sb : Nat} {vr : PV} {st : RSt} {v : Value} {l : List UInt8} {z : Value} (hlt : ∀ k, pOwns xb sb vr k → k < w.heap.size) (hnx : ¬ vr.V.owns vr.cs sb xb) (hz2 : w.heap.size < W2.heap.size)
    (f2 : Fr w W2 (pOwns xb sb vr) (pOwns xb sb vr)) (T : Told W2 w3 sb (vr.V.owns vr.cs sb) st v l) (g4 : w3.grownBy w4 (some w.heap.size)) (g5 : w4.grownBy w5 (some xb)) (hx5 : w5.heap[xb]? = some (.cells #[.int .i32 0, z, .pointer (some ⟨sb, 0, none⟩)] 96)) (hxl : xb < w.heap.size) :
    ∃ vr', Spoke w w5 xb sb vr vr' st v l := by
  obtain ⟨s, V, cs, h3, hok, hsim, f3, ap⟩ := T.at_
  have hn : ∀ k, V.owns cs sb k → vr.V.owns vr.cs sb k ∨ W2.heap.size ≤ k := f3.new
  have n1 : ¬ V.owns cs sb w.heap.size := fun e => by
    rcases hn _ e with e | e
    · have := hlt _ (.inr e); omega
    · omega
  have n2 : ¬ V.owns cs sb xb := fun e => by
    rcases hn _ e with e | e
    · exact hnx e
    · omega
  have h5 := (h3.aside g4 n1).aside g5 n2
  refine ⟨⟨V, cs⟩, ⟨⟨z, hx5⟩, ⟨s, h5, hok, hsim⟩, n2⟩, own_grown (own_grown T.own g4 (fun e => by have := T.new _ e; omega)) g5 (fun e => by have := T.new _ e; omega), fun k hk => by have := T.new k hk; omega, fun k hk e => ?_, ?_⟩
  · rcases e with e | e
    · have := T.new k hk; omega
    · exact ap k hk e
  · have f23 : Fr w w3 (pOwns xb sb vr) (V.owns cs sb) := f2.after f3 (fun i hi => .inl (.inr hi))
    have f4 := f23.write g4 (Nat.le_refl _)
    refine f4.turn g5 (.inl (.inl rfl)) (fun i hi => ?_)
    rcases hi with e | e
    · exact .inl (.inl e)
    · rcases hn i e with e | e
      · exact .inl (.inr e)
      · exact .inr (by omega)

set_option maxRecDepth 10000 in
set_option maxHeartbeats 4000000 in
theorem pAsk_any (w : World) (xb sb b c : Nat) (vr : PV) (st : RSt) (s : ByteArray) (h : PAt w xb sb vr st) (hok : StOk st) (hsm : s.size ≤ 2097152) (hsc : s.size ≤ c) (hbl : b < w.heap.size) (hby : Bytes w b s) (hbx : b ≠ xb) :
    Calls Tryz.prog 20 #[.pointer (some ⟨xb, 0, none⟩), .slice (some ⟨b, 0, none⟩) s.size c] w (Speaks w xb sb vr (askS st s)) := by
  obtain ⟨z, hz⟩ := h.box
  obtain ⟨q, hq, hqk, hsim⟩ := h.at_
  have hxl : xb < w.heap.size := heap_lt hz
  have hb1 := (Below.refl w.heap.size w).alloc (Nat.le_refl _) (.cells #[Value.int IntKind.i64 0, Value.int IntKind.u32 0, Value.slice none 0 0] 59)
  have HZ1 := hide ((hb1.block xb hxl).trans hz)
  have HS1 := hide (hq.below hb1)
  have HX1 := hide (heap_new w (.cells #[Value.int IntKind.i64 0, Value.int IntKind.u32 0, Value.slice none 0 0] 59))
  have HY1 := hide (hby.below hbl hb1)
  have HB1 := hide hb1
  have HNX := hide h.nx
  have HLT := hide h.lt
  have HOK := hide hok
  have HQK := hide hqk
  have HSIM := hide hsim
  have hc := box_cells HZ1.out
  have hf := frozen_of_block HZ1.out
  clear h hb1 hby hok hz hq hqk hsim
  unfold Speaks
  go_enter_defers Tryz.func20, Tryz.ntmps20
  go_wp2_with fail
  refine (lock_free muLib ⟨xb, 0, none⟩ _ (hc 0) (hf 0)).mono ?_
  rintro e w1 ⟨rfl, rfl⟩
  generalize w.alloc (.cells #[Value.int IntKind.i64 0, Value.int IntKind.u32 0, Value.slice none 0 0] 59) = W1 at HZ1 HS1 HX1 HY1 HB1 hc hf ⊢
  have hz1 : w.heap.size < W1.heap.size := heap_lt HX1.out
  have hG2 := grownBy_setCell W1 xb 0 (.int .i32 1)
  have HF2 : Hid (Fr w (W1.setCell ⟨xb, 0, none⟩ (.int .i32 1)) (pOwns xb sb vr) (pOwns xb sb vr)) := (Fr.of_below HB1.out (pOwns xb sb vr)).turn hG2 (.inl (.inl rfl)) (fun i hi => .inl hi)
  have HZ2 : Hid ((W1.setCell ⟨xb, 0, none⟩ (.int .i32 1)).heap[xb]? = some (.cells #[.int .i32 1, z, .pointer (some ⟨sb, 0, none⟩)] 96)) := heap_setCell_eq (j := 0) HZ1.out (.int .i32 1)
  have HS2 := hide (HS1.out.aside hG2 HNX.out)
  have HX2 := hide ((hG2.block _ hz1 (by simp; omega)).trans HX1.out)
  have HY2 := hide (HY1.out.grown (by omega) hG2 hbx)
  clear hG2 hc hf HZ1 HS1 HX1 HY1
  generalize W1.setCell ⟨xb, 0, none⟩ (.int .i32 1) = W2 at HF2 HZ2 HS2 HX2 HY2 ⊢
  have hz2 : w.heap.size < W2.heap.size := heap_lt HX2.out
  have hc := box_cells HZ2.out
  go_wp2_with fail
  refine (sAsk_any W2 sb b c q vr.V vr.cs st s HS2.out HQK.out HSIM.out HOK.out hsm hsc (by omega) HY2.out).mono ?_
  rintro e w3 ⟨k, t, a, l, c', rfl, H3⟩
  have hf3 : ∃ O', Fr W2 w3 (vr.V.owns vr.cs sb) O' := by
    obtain ⟨_, V3, cs3, _, _, _, f3, _⟩ := H3.out.2.at_
    exact ⟨_, f3⟩
  obtain ⟨O', hf3⟩ := hf3
  have HZ3 := hide (hf3.stay HZ2.out HNX.out)
  have HX3 := hide (hf3.stay HX2.out (fun e => by have := HLT.out _ (.inr e); omega))
  clear hf3 hc
  have hcz := box_cells HX3.out
  have hfz := frozen_of_block HX3.out
  unfold stepX
  go_wp2_with fail
  clear hcz hfz
  refine leaves_cons (f := 34) (args := #[.pointer (some ⟨xb, 0, none⟩)]) (by simp) (by simp [go_sem]) ?_
  have hG4 := put3_grown w3 w.heap.size (.int .i64 k) (.int .u32 t) (.slice a l.length c')
  have hx4 := put3_box (.int .i64 k) (.int .u32 t) (.slice a l.length c') HX3.out
  have hz4 := (hG4.block xb (heap_lt HZ3.out) (by simp; omega)).trans HZ3.out
  refine (unlock_deferred muLib ⟨xb, 0, none⟩ .returning _ (box_cells hz4 0) (frozen_of_block hz4 0)).mono ?_
  rintro e u' w5 ⟨rfl, rfl, rfl⟩
  have hG5 := grownBy_setCell (put3 w3 w.heap.size (.int .i64 k) (.int .u32 t) (.slice a l.length c')) xb 0 (.int .i32 0)
  have hx5 := (hG5.block w.heap.size (heap_lt hx4) (by simp; omega)).trans hx4
  have hz5 := heap_setCell_eq (j := 0) hz4 (.int .i32 0)
  exact ⟨_, results_cell_row2 rfl _ _ w.heap.size _ _ _ _ rfl hx5 undXs rfl (by kernel_rfl), k, t, a, l, c', rfl, H3.out.1, spoke_of HLT.out HNX.out hz2 HF2.out H3.out.2 hG4 hG5 hz5 hxl⟩
end Go.Proofs.YtafoepfhepdcoaaGreat

/- The program: New. -/
namespace Go.Proofs.YtafoepfhepdcoaaGreat
open Go.RowKit Go.Trawl

theorem conf_cases2 {b d c t : Int} {rs : List Int} (h : ¬ confOk b d c t rs) : (¬ 1 ≤ b) ∨ (1 ≤ b ∧ ¬ b ≤ 200) ∨ (1 ≤ b ∧ b ≤ 200 ∧ ¬ 0 ≤ d) ∨ (1 ≤ b ∧ b ≤ 200 ∧ 0 ≤ d ∧ ¬ d ≤ 6) ∨ (1 ≤ b ∧ b ≤ 200 ∧ 0 ≤ d ∧ d ≤ 6 ∧ ¬ 0 ≤ c) ∨ (1 ≤ b ∧ b ≤ 200 ∧ 0 ≤ d ∧ d ≤ 6 ∧ 0 ≤ c ∧ ¬ c ≤ 10) ∨ (1 ≤ b ∧ b ≤ 200 ∧ 0 ≤ d ∧ d ≤ 6 ∧ 0 ≤ c ∧ c ≤ 10 ∧ ¬ 1 ≤ t) ∨ (1 ≤ b ∧ b ≤ 200 ∧ 0 ≤ d ∧ d ≤ 6 ∧ 0 ≤ c ∧ c ≤ 10 ∧ 1 ≤ t ∧ ¬ t ≤ 8) ∨ (1 ≤ b ∧ b ≤ 200 ∧ 0 ≤ d ∧ d ≤ 6 ∧ 0 ≤ c ∧ c ≤ 10 ∧ 1 ≤ t ∧ t ≤ 8 ∧ ¬ ((1 : Int) ≤ rs.length)) ∨ (1 ≤ b ∧ b ≤ 200 ∧ 0 ≤ d ∧ d ≤ 6 ∧ 0 ≤ c ∧ c ≤ 10 ∧ 1 ≤ t ∧ t ≤ 8 ∧ (1 : Int) ≤ rs.length ∧ ¬ ((rs.length : Int) ≤ 8)) := by
  by_cases h1 : 1 ≤ b
  case neg => exact .inl h1
  by_cases h2 : b ≤ 200
  case neg => exact .inr (.inl ⟨h1, h2⟩)
  by_cases h3 : 0 ≤ d
  case neg => exact .inr (.inr (.inl ⟨h1, h2, h3⟩))
  by_cases h4 : d ≤ 6
  case neg => exact .inr (.inr (.inr (.inl ⟨h1, h2, h3, h4⟩)))
  by_cases h5 : 0 ≤ c
  case neg => exact .inr (.inr (.inr (.inr (.inl ⟨h1, h2, h3, h4, h5⟩))))
  by_cases h6 : c ≤ 10
  case neg => exact .inr (.inr (.inr (.inr (.inr (.inl ⟨h1, h2, h3, h4, h5, h6⟩)))))
  by_cases h7 : 1 ≤ t
  case neg => exact .inr (.inr (.inr (.inr (.inr (.inr (.inl ⟨h1, h2, h3, h4, h5, h6, h7⟩))))))
  by_cases h8 : t ≤ 8
  case neg => exact .inr (.inr (.inr (.inr (.inr (.inr (.inr (.inl ⟨h1, h2, h3, h4, h5, h6, h7, h8⟩)))))))
  by_cases h9 : (1 : Int) ≤ rs.length
  case neg => exact .inr (.inr (.inr (.inr (.inr (.inr (.inr (.inr (.inl ⟨h1, h2, h3, h4, h5, h6, h7, h8, h9⟩))))))))
  by_cases h10 : (rs.length : Int) ≤ 8
  case neg => exact .inr (.inr (.inr (.inr (.inr (.inr (.inr (.inr (.inr (⟨h1, h2, h3, h4, h5, h6, h7, h8, h9, h10⟩)))))))))
  exact absurd ⟨⟨h1, h2⟩, ⟨h3, h4⟩, ⟨h5, h6⟩, ⟨h7, h8⟩, by omega, by omega⟩ h

set_option maxRecDepth 10000 in
set_option maxHeartbeats 4000000 in
theorem isConfig_no (b d c t : Int) (rs : List Int) (a : Option Addr) (cp : Nat) (w : World) (h : ¬ confOk b d c t rs) :
    Calls Tryz.prog 102 #[confV b d c t (.slice a rs.length cp)] w fun e w' => e = .returned (.bool false) ∧ Hid (Below w.heap.size w w') := by
  have HB := hide ((Below.refl w.heap.size w).alloc (Nat.le_refl _) (.cells #[.int .i64 b, .int .i64 d, .int .i64 c, .int .i64 t, .slice a rs.length cp] 57))
  have hc := conf_cases2 h
  clear h
  unfold confV
  rcases hc with h | ⟨h1, h⟩ | ⟨h1, h2, h⟩ | ⟨h1, h2, h3, h⟩ | ⟨h1, h2, h3, h4, h⟩ | ⟨h1, h2, h3, h4, h5, h⟩ | ⟨h1, h2, h3, h4, h5, h6, h⟩ | ⟨h1, h2, h3, h4, h5, h6, h7, h⟩ | ⟨h1, h2, h3, h4, h5, h6, h7, h8, h⟩ | ⟨h1, h2, h3, h4, h5, h6, h7, h8, h9, h⟩
  all_goals
    go_enter Tryz.func102, Tryz.ntmps102
    go_wp2
    go_ret
    exact ⟨rfl, HB.out⟩
set_option maxRecDepth 10000 in
set_option maxHeartbeats 4000000 in
theorem isConfig_yes (b d c t : Int) (rs : List Int) (a : Option Addr) (cp : Nat) (w : World) (h : confOk b d c t rs) :
    Calls Tryz.prog 102 #[confV b d c t (.slice a rs.length cp)] w fun e w' => e = .returned (.bool true) ∧ Hid (Below w.heap.size w w') := by
  have HB := hide ((Below.refl w.heap.size w).alloc (Nat.le_refl _) (.cells #[.int .i64 b, .int .i64 d, .int .i64 c, .int .i64 t, .slice a rs.length cp] 57))
  obtain ⟨⟨h1, h2⟩, ⟨h3, h4⟩, ⟨h5, h6⟩, ⟨h7, h8⟩, h9', h10'⟩ := h
  have h9 : (1 : Int) ≤ rs.length := by omega
  have h10 : (rs.length : Int) ≤ 8 := by omega
  clear h9' h10'
  unfold confV
  go_enter Tryz.func102, Tryz.ntmps102
  go_wp2
  go_ret
  exact ⟨rfl, HB.out⟩
end Go.Proofs.YtafoepfhepdcoaaGreat

/- The program: New, of any configuration. -/
namespace Go.Proofs.YtafoepfhepdcoaaGreat
open Go.RowKit Go.Trawl
theorem buildState (b d c t : Int) (a : Option Addr) (n cp : Nat) (W : World) : (Instr.build 150 #[(0, .agg #[.int .i64 b, .int .i64 d, .int .i64 c, .int .i64 t, .slice a n cp])]).run Tryz.prog W =
    .ok (.agg #[.int .i64 b, .int .i64 d, .int .i64 c, .int .i64 t, .slice a n cp, .int .u16 0, .nilFunc, .pointer none, .int .i64 0, .int .u16 0, .bool false, .int .i64 0, .bool false, .bool false, .bool false, .bool false, .int .i64 0, .slice none 0 0, .slice none 0 0, .slice none 0 0, .slice none 0 0]) W := run_build W _ _ _ (by kernel_rfl)
theorem buildXres (v : Option Addr) (W : World) : (Instr.build 96 #[(1, .pointer v)]).run Tryz.prog W = .ok (.agg #[.int .i32 0, .int .u32 0, .pointer v]) W := run_build W _ _ _ (by kernel_rfl)
attribute [local go_sem] buildState buildXres

theorem word_one {w : World} {v : Value} {x : Int} {rs : List Int} (h : Lies w 1 v (wordsV (x :: rs))) : ∃ b off n c, v = .slice (some ⟨b, off, none⟩) (n + 1) c ∧ w.cell? ⟨b, off, none⟩ = some (.int .u32 x) := by
  obtain ⟨a, c, hv, _, hc⟩ := h
  rcases hc with he | ⟨b, off, he, _, hc⟩
  · cases he
  · subst he
    exact ⟨b, off, rs.length, c, by rw [hv]; simp [wordsV], hc 0 [.int .u32 x] rfl 0 _ rfl⟩
def freshQ (b d c t : Int) (rs : List Int) : QSt := ⟨b, d, c, t, rs, 0, .idle, [], 0, zMsg⟩
theorem freshQ_ok {b d c t : Int} {rs : List Int} (h : confOk b d c t rs) : QOk (freshQ b d c t rs) :=
  ⟨h.1.1, h.1.2, h.2.1.1, h.2.1.2, h.2.2.1.1, h.2.2.1.2, h.2.2.2.1.1, h.2.2.2.1.2, h.2.2.2.2.1, h.2.2.2.2.2, by simp [freshQ], by simp [freshQ], by have := h.1.1; simp only [freshQ]; omega, by simp [freshQ], by have := h.2.1.1; simp only [freshQ, List.length_nil]; omega, zMsg_wf, rfl, rfl, by simp [freshQ, zMsg], fun e => absurd rfl e, fun _ => by have := h.2.2.1.1; simpa [freshQ, zMsg] using this, fun e => by cases e⟩
theorem freshQ_sim (b d c t : Int) (rs : List Int) : Sim (freshQ b d c t rs) (newSt b d c t rs) :=
  ⟨rfl, rfl, rfl, rfl, rfl, rfl, fun _ => ⟨rfl, rfl, rfl, rfl⟩, (fun e => by cases e), (fun e => by cases e), (fun e => by cases e), fun e => by cases e⟩
theorem notNil (a : Addr) (n c : Nat) (W : World) : (binOp BinOp.eql 55 (.slice (some a) n c) (.slice none 0 0)).run Tryz.prog W = .ok (.bool false) W := by
  kernel_rfl
attribute [local go_sem] notNil
set_option maxRecDepth 10000 in
set_option maxHeartbeats 1000000 in
theorem clone_any (w : World) (b off n cp : Nat) (rs : List Int) (hn : rs.length = n) (h1 : 1 ≤ n) (hv : Lies w 1 (.slice (some ⟨b, off, none⟩) n cp) (wordsV rs)) (hs : n ≤ 8) :
    Calls Tryz.prog 103 #[.slice (some ⟨b, off, none⟩) n cp] w fun e w' => ∃ a c, e = .returned (.slice a n c) ∧ Hid (Below w.heap.size w w' ∧ w'.ownsRow 0 54 1 (.slice a n c) n (wordsV rs).flatten ∧ ∀ k, (Value.slice a n c).ownBlock = some k → w.heap.size ≤ k) := by
  obtain ⟨i1, hi1, hy0, hy1, hy2⟩ := info_parts wI0
  have hlen : (wordsV rs).length = n := by simp [wordsV, hn]
  have hb1 := (Below.refl w.heap.size w).alloc (Nat.le_refl _) (.cells #[] 54)
  have HV := hide (hv.below hb1)
  have HO : Hid ((w.alloc (.cells #[] 54)).ownsRow 0 54 1 (.slice (some ⟨w.heap.size, 0, none⟩) 0 0) 0 []) := ⟨rfl, .inr ⟨w.heap.size, 0, #[], rfl, Nat.zero_le _, heap_new w _, Nat.le_refl _, by unfold maxLen; omega, rfl, rfl⟩⟩
  have HB := hide hb1
  clear hv hb1
  go_enter Tryz.func103, Tryz.ntmps103
  go_wp2_with (at_builtin; (refine Go.Trawl.wpList_append_lies _ rfl _ _ 55 rfl 54 i1 _ 1 4 uWs hi1 hy0 hy1 hy2 rfl (by decide) (.slice (some ⟨w.heap.size, 0, none⟩) 0 0) 0 _ rfl (.slice (some ⟨b, off, none⟩) n cp) (wordsV rs) rfl (words_ok _) HO.out HV.out (by rw [hlen]; unfold maxLen; omega) (by rw [hlen]; omega) ?_; intro v2 W2 g2; rw [hlen] at g2; simp only [Nat.zero_add, List.nil_append] at g2; obtain ⟨a2, c2, rfl⟩ := own_slice g2.own; have HG2 := hide g2; clear g2))
  go_ret
  refine ⟨a2, c2, rfl, below_of_grown HB.out (Nat.le_refl _) HG2.out.grown, HG2.out.own, fun k hk => ?_⟩
  rcases HG2.out.loc with e | ⟨i, e, hi⟩
  · rw [hk] at e
    have : k = w.heap.size := Option.some.inj e
    omega
  · rw [hk] at e
    cases e
    rw [alloc_size] at hi
    omega

set_option maxRecDepth 10000 in
set_option maxHeartbeats 2000000 in
theorem sNew_no (w : World) (b d c t : Int) (rs : List Int) (a : Option Addr) (cp : Nat) (h : ¬ confOk b d c t rs) :
    Calls Tryz.prog 73 #[confV b d c t (.slice a rs.length cp)] w fun e w' => e = .returned (.tuple #[.pointer none, .int .i64 2]) ∧ Hid (Below w.heap.size w w') := by
  have HB := hide ((Below.refl w.heap.size w).alloc (Nat.le_refl _) (.cells #[.int .i64 b, .int .i64 d, .int .i64 c, .int .i64 t, .slice a rs.length cp] 57))
  have HN := hide h
  clear h
  unfold confV
  go_enter Tryz.func73, Tryz.ntmps73
  go_wp2_with fail
  refine (isConfig_no b d c t rs a cp _ HN.out).mono ?_
  rintro e w2 ⟨rfl, H2⟩
  have HB2 := hide (HB.out.trans (H2.out.mono HB.out.size))
  go_wp2_with fail
  refine bodyPost_ret (results_tmp2 rfl _ _ _) rfl ?_
  exact ⟨rfl, HB2.out⟩

set_option maxRecDepth 10000 in
set_option maxHeartbeats 2000000 in
theorem sNew_yes (w : World) (b d c t : Int) (rs : List Int) (vr : Value) (h : confOk b d c t rs) (hv : Lies w 1 vr (wordsV rs)) :
    Calls Tryz.prog 73 #[confV b d c t vr] w fun e w' => ∃ sb, e = .returned (.tuple #[.pointer (some ⟨sb, 0, none⟩), .int .i64 0]) ∧ Hid (∃ V, QAt w' sb (freshQ b d c t rs) V [] ∧ Below w.heap.size w w' ∧ ∀ k, V.owns [] sb k → w.heap.size ≤ k) := by
  have h1 := h.2.2.2.2.1
  have h2 := h.2.2.2.2.2
  obtain ⟨x, rs', hx⟩ : ∃ x rs', rs = x :: rs' := by
    cases rs with
    | nil => simp at h1
    | cons x rs => exact ⟨x, rs, rfl⟩
  obtain ⟨ba, off, n, cp, hvr, _⟩ := word_one (by rw [← hx]; exact hv)
  have hn : rs.length = n + 1 := by
    obtain ⟨_, _, e, _⟩ := hv
    rw [hvr] at e
    injection e with _ e2 _
    simp [wordsV] at e2
    omega
  subst hvr
  clear hx
  rw [← hn] at hv ⊢
  have hb1 := (Below.refl w.heap.size w).alloc (Nat.le_refl _) (.cells #[.int .i64 b, .int .i64 d, .int .i64 c, .int .i64 t, .slice (some ⟨ba, off, none⟩) rs.length cp] 57)
  have HB := hide hb1
  have HV := hide (hv.below hb1)
  have HX := hide (heap_new w (.cells #[.int .i64 b, .int .i64 d, .int .i64 c, .int .i64 t, .slice (some ⟨ba, off, none⟩) rs.length cp] 57))
  have HN := hide h
  have HL := hide hn
  clear h hb1 hv hn
  unfold confV
  go_enter Tryz.func73, Tryz.ntmps73
  go_wp2_with fail
  refine (isConfig_yes b d c t rs (some ⟨ba, off, none⟩) cp _ HN.out).mono ?_
  rintro e w2 ⟨rfl, H2⟩
  have HB2 := hide (HB.out.trans (H2.out.mono HB.out.size))
  have HV2 := hide (HV.out.below H2.out)
  have HX2 := hide ((H2.out.block _ (heap_lt HX.out)).trans HX.out)
  clear H2 HB HV HX
  have hc2 := box_cells HX2.out
  go_wp2_with fail
  refine (clone_any w2 ba off rs.length cp rs rfl h1 HV2.out h2).mono ?_
  rintro e w3 ⟨a3, c3, rfl, H3⟩
  have HB3 := hide (HB2.out.trans (H3.out.1.mono HB2.out.size))
  have HX3 := hide ((H3.out.1.block _ (heap_lt HX2.out)).trans HX2.out)
  have hz2 : w.heap.size < w2.heap.size := heap_lt HX2.out
  have hz3 : w.heap.size < w3.heap.size := heap_lt HX3.out
  clear hc2
  have hc3 := box_cells HX3.out
  have hf3 := frozen_of_block HX3.out
  go_wp2_with fail
  clear hc3 hf3
  obtain ⟨W4, hW4⟩ : ∃ x : World, x = w3.setCell ⟨w.heap.size, 4, none⟩ (.slice a3 rs.length c3) := ⟨_, rfl⟩
  have hz4 : W4.heap.size = w3.heap.size := by rw [hW4]; simp [World.setCell]
  have hG4 : w3.grownBy W4 (some w.heap.size) := by rw [hW4]; exact grownBy_setCell w3 w.heap.size 4 _
  have ho4 := own_grown H3.out.2.1 hG4 (fun e => by have := H3.out.2.2 _ e; omega)
  rw [← hW4]
  refine bodyPost_ret (results_tmp2 rfl _ _ _) rfl ?_
  have hl4 : ∀ k, (Value.slice a3 rs.length c3).ownBlock = some k → k < w3.heap.size := fun k hk => by have := (H3.out.2.1.lt k hk).2; omega
  have hb5 := (Below.refl W4.heap.size W4).alloc (Nat.le_refl _) (.cells (qCells (freshQ b d c t rs) ⟨.slice a3 rs.length c3, .slice none 0 0, .slice none 0 0⟩ W4.heap.size []) 150)
  have how : ∀ k, QV.owns ⟨.slice a3 rs.length c3, .slice none 0 0, .slice none 0 0⟩ [] W4.heap.size k → k = W4.heap.size ∨ (Value.slice a3 rs.length c3).ownBlock = some k := by
    rintro k ((e | e | ⟨x, hx, _⟩) | ⟨v, hv, e⟩)
    · exact .inl e
    · cases e
    · cases hx
    · rcases mem_reads.1 hv with rfl | rfl | ⟨x, hx, _⟩
      · exact .inr e
      · cases e
      · cases hx
  refine ⟨W4.heap.size, by rw [hz4]; rfl, ⟨.slice a3 rs.length c3, .slice none 0 0, .slice none 0 0⟩, ⟨heap_new W4 _, rfl, (own_lies ho4 (fun x hx => (words_ok rs x hx).1) (by simp [wordsV])).below hb5, liesNil _ _, World.ownsRow_nil _ _ _ _, trivial, by simp, fun v hv k e hw => ?_, fun k e => ?_⟩, ?_, fun k e => ?_⟩
  · rcases hw with e2 | e2 | ⟨x, hx, _⟩
    · rcases mem_reads.1 hv with rfl | rfl | ⟨x, hx, _⟩
      · have := hl4 k e; omega
      · cases e
      · cases hx
    · cases e2
    · cases hx
  · rw [alloc_size]
    rcases how k e with e | e
    · omega
    · have := hl4 k e; omega
  · exact (below_of_grown HB3.out (Nat.le_refl _) hG4).trans (hb5.mono (by omega))
  · rcases how k e with e | e
    · omega
    · have := H3.out.2.2 k e; omega

set_option maxRecDepth 10000 in
set_option maxHeartbeats 2000000 in
theorem tNew_no (w : World) (b d c t : Int) (rs : List Int) (a : Option Addr) (cp : Nat) (h : ¬ confOk b d c t rs) :
    Calls Tryz.prog 32 #[confV b d c t (.slice a rs.length cp)] w fun e w' => e = .returned (.tuple #[.pointer none, .int .i64 2]) ∧ Hid (Below w.heap.size w w') := by
  have HB := hide ((Below.refl w.heap.size w).alloc (Nat.le_refl _) (.cells #[.int .i64 b, .int .i64 d, .int .i64 c, .int .i64 t, .slice a rs.length cp] 57))
  have HN := hide h
  clear h
  unfold confV
  go_enter Tryz.func32, Tryz.ntmps32
  go_wp2_with fail
  refine (sNew_no _ b d c t rs a cp HN.out).mono ?_
  rintro e w2 ⟨rfl, H2⟩
  have HB2 := hide (HB.out.trans (H2.out.mono HB.out.size))
  go_wp2_with fail
  refine bodyPost_ret (results_tmp2 rfl _ _ _) rfl ?_
  exact ⟨rfl, HB2.out⟩

set_option maxRecDepth 10000 in
set_option maxHeartbeats 2000000 in
theorem tNew_yes (w : World) (b d c t : Int) (rs : List Int) (vr : Value) (h : confOk b d c t rs) (hv : Lies w 1 vr (wordsV rs)) :
    Calls Tryz.prog 32 #[confV b d c t vr] w fun e w' => ∃ xb, e = .returned (.tuple #[.pointer (some ⟨xb, 0, none⟩), .int .i64 0]) ∧ Hid (∃ sb vr', PAt w' xb sb vr' (newSt b d c t rs) ∧ Below w.heap.size w w' ∧ ∀ k, pOwns xb sb vr' k → w.heap.size ≤ k) := by
  have hv0 := hv
  obtain ⟨a, cp, rfl, _⟩ := hv0
  have hb1 := (Below.refl w.heap.size w).alloc (Nat.le_refl _) (.cells #[.int .i64 b, .int .i64 d, .int .i64 c, .int .i64 t, .slice a (wordsV rs).length cp] 57)
  have HB := hide hb1
  have HV := hide (hv.below hb1)
  have HN := hide h
  clear h hb1 hv
  unfold confV
  go_enter Tryz.func32, Tryz.ntmps32
  go_wp2_with fail
  refine (sNew_yes _ b d c t rs _ HN.out HV.out).mono ?_
  rintro e w2 ⟨sb, rfl, H2⟩
  obtain ⟨V, hs, hb, hk⟩ := H2.out
  have HB2 := hide (HB.out.trans (hb.mono HB.out.size))
  have HS2 := hide hs
  have HL2 : Hid (∀ k, V.owns [] sb k → w.heap.size ≤ k) := fun k h => Nat.le_trans HB.out.size (hk k h)
  clear H2 hs hb hk
  go_wp2_with fail
  refine bodyPost_ret (results_tmp2 rfl _ _ _) rfl ?_
  have hb5 := (Below.refl w2.heap.size w2).alloc (Nat.le_refl _) (.cells #[.int .i32 0, .int .u32 0, .pointer (some ⟨sb, 0, none⟩)] 96)
  refine ⟨w2.heap.size, rfl, sb, ⟨V, []⟩, ⟨⟨.int .u32 0, heap_new w2 _⟩, ⟨_, HS2.out.below hb5, freshQ_ok HN.out, freshQ_sim _ _ _ _ _⟩, fun hk => by have := HS2.out.lt _ hk; omega⟩, HB2.out.trans (hb5.mono HB2.out.size), ?_⟩
  have := HB2.out.size
  rintro k (rfl | hk)
  · exact this
  · exact HL2.out k hk
end Go.Proofs.YtafoepfhepdcoaaGreat
