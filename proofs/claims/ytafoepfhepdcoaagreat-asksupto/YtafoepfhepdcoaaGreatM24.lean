import Derived.Test.YtafoepfhepdcoaaGreatM15
import Derived.Test.YtafoepfhepdcoaaGreatM23
import Derived.Test.YtafoepfhepdcoaaGreatM18
import Derived.Test.YtafoepfhepdcoaaGreatM22
/- The reference's reply. -/
namespace Go.Proofs.YtafoepfhepdcoaaGreat
open Go.RowKit Go.Trawl

def asReply (m : Msg) : Msg := { m with resp := true }
def asCut (m : Msg) : Msg := { m with resp := true, an := [], cut := true }
/-- The bytes of an answer: whole, or cut. -/
def replyL (m : Msg) : List UInt8 := if packOk (asReply m) then packL (asReply m) else packL (asCut m)
theorem buildSt (k : Int) (s : ByteArray) (W : World) : (Instr.build 111 #[(0, .int .i64 k), (2, .string s)]).run Tryz.prog W = .ok (.agg #[.int .i64 k, .int .u32 0, .string s]) W := run_build W _ _ _ (by kernel_rfl)
theorem undSt : Tryz.prog.underlying 111 = some (.struct (Tryz.prog.fieldsOf 111)) := by kernel_rfl
attribute [local go_sem] buildSt
/-- Three cells are written. -/
def put3 (w : World) (N : Nat) (v0 v1 v2 : Value) : World := ((w.setCell ⟨N, 0, none⟩ v0).setCell ⟨N, 1, none⟩ v1).setCell ⟨N, 2, none⟩ v2
theorem put3_box {w : World} {N : Nat} {t : TypeId} {u0 u1 u2 : Value} (v0 v1 v2 : Value) (hz : w.heap[N]? = some (.cells #[u0, u1, u2] t)) : (put3 w N v0 v1 v2).heap[N]? = some (.cells #[v0, v1, v2] t) := by
  unfold put3
  rw [heap_setCell_eq (heap_setCell_eq (heap_setCell_eq hz _) _) _]
  rfl
theorem put3_grown (w : World) (N : Nat) (v0 v1 v2 : Value) : w.grownBy (put3 w N v0 v1 v2) (some N) := by
  unfold put3
  iterate 2 refine grownBy_trans ?_ (grownBy_setCell _ _ _ _)
  exact grownBy_setCell _ _ _ _
def stepV (k to : Int) (s : ByteArray) : Value := .agg #[.int .i64 k, .int .u32 to, .string s]

set_option maxRecDepth 10000 in
set_option maxHeartbeats 1000000 in
theorem reply_any (w : World) (m : Msg) (vq va vu vx : Value) (hm : WfM m) (hat : MsgAt w m vq va vu vx) :
    Calls Tryz.prog 87 #[.agg (msgCells m vq va vu vx)] w fun e w' => e = .returned (stepV 2 0 (str (replyL m))) ∧ Hid (Below w.heap.size w w') := by
  have HM := hide hm
  have HAT := hide hat
  obtain ⟨⟨aq, cq, rfl, _⟩, ⟨aa, ca, rfl, _⟩, ⟨au, cu, rfl, _⟩, ⟨ax, cx, rfl, _⟩⟩ := hat
  clear hm
  simp only [msgCells, List.length_map] at HAT ⊢
  go_enter Tryz.func87, Tryz.ntmps87
  go_wp2_with fail
  generalize hW0 : (w.alloc _).alloc _ = W0
  have HB0 : Hid (Below w.heap.size w W0) := by rw [← hW0]; exact ((Below.refl _ _).alloc (Nat.le_refl _) _).alloc (by rw [alloc_size]; omega) _
  have HX0 : Hid (W0.heap[w.heap.size]? = some (.cells (msgCells (asReply m) (.slice aq m.qs.length cq) (.slice aa m.an.length ca) (.slice au m.au.length cu) (.slice ax m.ex.length cx)) 30)) := by rw [← hW0]; exact heap_old (heap_new _ _) _
  have HZ0 : Hid (W0.heap[w.heap.size + 1]? = some (.cells #[Value.int IntKind.i64 0, Value.int IntKind.u32 0, Value.string { data := #[] }] 111)) := by
    rw [← hW0]
    have := heap_new (w.alloc (.cells (msgCells (asReply m) (.slice aq m.qs.length cq) (.slice aa m.an.length ca) (.slice au m.au.length cu) (.slice ax m.ex.length cx)) 30)) (.cells #[Value.int IntKind.i64 0, Value.int IntKind.u32 0, Value.string { data := #[] }] 111)
    rw [alloc_size] at this
    exact this
  clear hW0
  have HM1 : Hid (WfM (asReply m)) := { HM.out with }
  have HM2 : Hid (WfM (asCut m)) := { HM.out with na := Nat.zero_le _, rs := fun r hr => HM.out.rs r (by
    simp only [recs, asCut, List.nil_append, List.mem_append] at hr ⊢
    rcases hr with hr | hr
    · exact .inl (.inr hr)
    · exact .inr hr) }
  have HAT1 : Hid (∀ W, Below w.heap.size w W → MsgAt W (asReply m) (.slice aq m.qs.length cq) (.slice aa m.an.length ca) (.slice au m.au.length cu) (.slice ax m.ex.length cx)) := fun W hW => ⟨(HAT.out.below hW).q, (HAT.out.below hW).a, (HAT.out.below hW).u, (HAT.out.below hW).x⟩
  have HAT2 : Hid (∀ W, Below w.heap.size w W → MsgAt W (asCut m) (.slice aq m.qs.length cq) (.slice none 0 0) (.slice au m.au.length cu) (.slice ax m.ex.length cx)) := fun W hW => ⟨(HAT.out.below hW).q, ⟨none, 0, rfl, fun _ => rfl, .inl rfl⟩, (HAT.out.below hW).u, (HAT.out.below hW).x⟩
  clear HM HAT
  refine (rpack2 (asReply m) (.slice aq m.qs.length cq) (.slice aa m.an.length ca) (.slice au m.au.length cu) (.slice ax m.ex.length cx) W0 HM1.out (HAT1.out W0 HB0.out)).mono ?_
  rintro e w1 ⟨hb1, rfl⟩
  have HB1 := hide (HB0.out.trans (hb1.mono HB0.out.size))
  have HX1 := hide ((hb1.block _ (heap_lt HX0.out)).trans HX0.out)
  have HZ1 := hide ((hb1.block _ (heap_lt HZ0.out)).trans HZ0.out)
  clear hb1
  have hcx := box_cells HX1.out
  have hfx := frozen_of_block HX1.out
  simp only [msgCells, asReply] at hcx
  have hcz := box_cells HZ1.out
  have hfz := frozen_of_block HZ1.out
  by_cases hok : packOk (asReply m) = true
  · have HR : Hid (replyL m = packL (asReply m)) := by unfold Hid replyL; rw [if_pos hok]
    have hpe : packE (asReply m) = 0 := by unfold packE; rw [if_pos hok]
    rw [hpe]
    clear hpe hok
    have HR2 : Hid (str (replyL m) = str (packL (asReply m))) := by unfold Hid; rw [HR.out]
    clear HR
    generalize str (packL (asReply m)) = bs at HR2 ⊢
    have HR := HR2
    go_wp2_with fail
    clear hcx hfx hcz hfz
    refine bodyPost_ret (results_cell_row rfl _ _ (w.heap.size + 1) _ _ _ _ rfl (put3_box (.int .i64 2) (.int .u32 0) (.string bs) HZ1.out) undSt rfl (by kernel_rfl)) rfl ?_
    exact ⟨by rw [HR.out]; rfl, below_of_grown HB1.out (by omega) (put3_grown _ (w.heap.size + 1) (.int .i64 2) (.int .u32 0) (.string bs))⟩
  · have hok2 : packOk (asReply m) = false := by simpa using hok
    have HR0 : Hid (replyL m = packL (asCut m)) := by unfold Hid replyL; rw [if_neg hok]
    have HR : Hid (str (replyL m) = str (packL (asCut m))) := by unfold Hid; rw [HR0.out]
    have hpe : packE (asReply m) = 1 := by unfold packE; rw [if_neg hok]
    rw [hpe]
    clear hpe hok hok2 HR0
    have HX2 : Hid (((w1.setCell ⟨w.heap.size, 9, none⟩ (.slice none 0 0)).setCell ⟨w.heap.size, 4, none⟩ (.bool true)).heap[w.heap.size]? = some (.cells (msgCells (asCut m) (.slice aq m.qs.length cq) (.slice none 0 0) (.slice au m.au.length cu) (.slice ax m.ex.length cx)) 30)) := by
      unfold Hid
      rw [heap_setCell_eq (heap_setCell_eq HX1.out _) _]
      exact congrArg some (by kernel_rfl)
    have HB2 : Hid (Below w.heap.size w ((w1.setCell ⟨w.heap.size, 9, none⟩ (.slice none 0 0)).setCell ⟨w.heap.size, 4, none⟩ (.bool true))) := (HB1.out.setCell (Nat.le_refl _) _).setCell (Nat.le_refl _) _
    have HZ2 : Hid (((w1.setCell ⟨w.heap.size, 9, none⟩ (.slice none 0 0)).setCell ⟨w.heap.size, 4, none⟩ (.bool true)).heap[w.heap.size + 1]? = some (.cells #[Value.int IntKind.i64 0, Value.int IntKind.u32 0, Value.string { data := #[] }] 111)) := by
      unfold Hid
      rw [Below.heap_setCell _ _ _ _ (by simp), Below.heap_setCell _ _ _ _ (by simp)]
      exact HZ1.out
    have hcx2 := box_cells HX2.out
    simp only [msgCells, asCut] at hcx2
    go_wp2_with fail
    clear hcx hfx hcz hfz hcx2
    generalize (w1.setCell ⟨w.heap.size, 9, none⟩ (.slice none 0 0)).setCell ⟨w.heap.size, 4, none⟩ (.bool true) = W2 at HX2 HB2 HZ2 ⊢
    refine (rpack2 (asCut m) (.slice aq m.qs.length cq) (.slice none 0 0) (.slice au m.au.length cu) (.slice ax m.ex.length cx) W2 HM2.out (HAT2.out W2 HB2.out)).mono ?_
    rintro e w3 ⟨hb3, rfl⟩
    have HB3 := hide (HB2.out.trans (hb3.mono HB2.out.size))
    have HZ3 := hide ((hb3.block _ (heap_lt HZ2.out)).trans HZ2.out)
    clear hb3
    have hcz := box_cells HZ3.out
    have hfz := frozen_of_block HZ3.out
    generalize str (packL (asCut m)) = bs at HR ⊢
    go_wp2_with fail
    clear hcz hfz
    refine bodyPost_ret (results_cell_row rfl _ _ (w.heap.size + 1) _ _ _ _ rfl (put3_box (.int .i64 2) (.int .u32 0) (.string bs) HZ3.out) undSt rfl (by kernel_rfl)) rfl ?_
    exact ⟨by rw [HR.out]; rfl, below_of_grown HB3.out (by omega) (put3_grown _ (w.heap.size + 1) (.int .i64 2) (.int .u32 0) (.string bs))⟩
end Go.Proofs.YtafoepfhepdcoaaGreat

/- The document's words on names, in plain terms: the same name, a name that lies in another. Nothing of the program. -/
namespace Go.Trawl

/-- A byte, without the case of a letter. -/
def low (c : Nat) : Nat := if 65 ≤ c ∧ c ≤ 90 then c + 32 else c
def sameB (a b : ByteArray) : Bool := decide (a.size = b.size) && (List.range a.size).all fun i => low (at8 a i) == low (at8 b i)
theorem sameB_true {a b : ByteArray} (h : a.size = b.size) (hi : ∀ i, i < a.size → low (at8 a i) = low (at8 b i)) : sameB a b = true := by
  unfold sameB
  rw [decide_eq_true h, Bool.true_and, List.all_eq_true]
  intro i hh
  rw [hi i (List.mem_range.1 hh)]
  exact beq_self_eq_true _
theorem sameB_size {a b : ByteArray} (h : ¬ a.size = b.size) : sameB a b = false := by
  unfold sameB
  rw [decide_eq_false h, Bool.false_and]
theorem sameB_at {a b : ByteArray} {i : Nat} (hi : i < a.size) (h : ¬ low (at8 a i) = low (at8 b i)) : sameB a b = false := by
  unfold sameB
  have : ((List.range a.size).all fun i => low (at8 a i) == low (at8 b i)) = false := by
    rw [List.all_eq_false]
    exact ⟨i, List.mem_range.2 hi, by simpa using h⟩
  rw [this, Bool.and_false]
/-- What stands from a place on. -/
def from_ (s : ByteArray) (i : Nat) : ByteArray := s.extract i s.size
/-- Does a name, from a place on, lie in another one? -/
def liesN (name zone : ByteArray) : Nat → Nat → Bool
  | 0, _ => false
  | n + 1, i => sameB (from_ name i) zone || (decide (at8 name i ≠ 0) && liesN name zone n (i + 1 + at8 name i))
def liesB (name zone : ByteArray) : Bool := liesN name zone (name.size + 1) 0

/-- A name is one from each of its labels on. -/
structure NameAt (s : ByteArray) (i : Nat) : Prop where
  lt : i < s.size
  last : behind s i + 1 = s.size
  zero : at8 s (behind s i) = 0
theorem NameAt.next {s : ByteArray} {i : Nat} (h : NameAt s i) (h0 : at8 s i ≠ 0) : NameAt s (i + 1 + at8 s i) ∧ at8 s i ≤ 63 := by
  have hb : 0 < at8 s i ∧ at8 s i ≤ 63 := by
    by_cases hh : i < s.size ∧ 0 < at8 s i ∧ at8 s i ≤ 63
    · exact hh.2
    · have := behind_stop s i hh
      have h1 := h.zero
      rw [this] at h1
      exact absurd h1 h0
  have e := behind_next s i h.lt hb.1 hb.2
  have hl := le_behind s (i + 1 + at8 s i)
  have h2 := h.last
  have h3 := h.zero
  rw [e] at h2 h3
  exact ⟨⟨by omega, h2, h3⟩, hb.2⟩
theorem nameB_at {s : ByteArray} (h : nameB s = true) : NameAt s 0 := by
  have := of_decide_eq_true h
  have hl := nameB_size h
  exact ⟨by omega, this.2.1, this.2.2⟩
theorem liesN_enough (name zone : ByteArray) : ∀ n m i, NameAt name i → name.size - i ≤ n → name.size - i ≤ m → liesN name zone n i = liesN name zone m i
  | 0, _, i, h, hn, _ => by have := h.lt; omega
  | _, 0, i, h, _, hm => by have := h.lt; omega
  | n + 1, m + 1, i, h, hn, hm => by
    unfold liesN
    by_cases h0 : at8 name i = 0
    · simp [h0]
    · have hx := (h.next h0).1
      rw [liesN_enough name zone n m _ hx (by omega) (by omega)]
end Go.Trawl

/- The reference's reader: its small methods. -/
namespace Go.Proofs.YtafoepfhepdcoaaGreat
open Go.RowKit Go.Trawl

/-- The reference's reader lies in a block. -/
structure In (w : World) (r : Nat) (s : ByteArray) (a : Nat) (bad : Bool) : Prop where
  box : w.heap[r]? = some (.cells #[.string s, .int .i64 a, .bool bad] 203)
  le : a ≤ s.size
  small : s.size ≤ 512
def OutI {α : Type} (p : Par α) (w w' : World) (r : Nat) (s : ByteArray) (a : Nat) (bad : Bool) (x : α) : Prop := ∃ a' bad', In w' r s a' bad' ∧ w.grownBy w' (some r) ∧ Ran p (stOf a bad) x (stOf a' bad')
theorem In.cell {w : World} {r : Nat} {s : ByteArray} {a : Nat} {bad : Bool} (h : In w r s a bad) : ∀ o, w.cell? ⟨r, o, none⟩ = #[Value.string s, .int .i64 a, .bool bad][o]? := box_cells h.box
theorem In.frozen {w : World} {r : Nat} {s : ByteArray} {a : Nat} {bad : Bool} (h : In w r s a bad) : ∀ o, w.frozen? ⟨r, o, none⟩ = false := frozen_of_block h.box
theorem In.grow {w w' : World} {r : Nat} {s : ByteArray} {a : Nat} {bad : Bool} (h : In w r s a bad) {row : Option Nat} (hw : w.grownBy w' row) (h1 : row ≠ some r) : In w' r s a bad :=
  ⟨(hw.block r (heap_lt h.box) (Ne.symm h1)).trans h.box, h.le, h.small⟩
theorem In.drewN {w : World} {r : Nat} {s : ByteArray} {a : Nat} {bad : Bool} (h : In w r s a bad) (n : Nat) : In (w.drewN n) r s a bad := h.grow (grownBy_drewN _ n none) (by simp)
theorem In.setBad {w : World} {r : Nat} {s : ByteArray} {a : Nat} {bad : Bool} (h : In w r s a bad) (b : Bool) : In (w.setCell ⟨r, 2, none⟩ (.bool b)) r s a b :=
  ⟨by rw [heap_setCell_eq h.box]; rfl, h.le, h.small⟩
theorem In.setAt {w : World} {r : Nat} {s : ByteArray} {a a' : Nat} {bad : Bool} (h : In w r s a bad) (ha : a' ≤ s.size) : In (w.setCell ⟨r, 1, none⟩ (.int .i64 a')) r s a' bad :=
  ⟨by rw [heap_setCell_eq h.box]; rfl, ha, h.small⟩

theorem idx (s : ByteArray) (i : Nat) (hi : i < s.size) (W : World) : (Instr.index 9 (.string s) (.int .i64 (i : Int))).run Tryz.prog W = .ok (.int .u8 (at8 s i)) W := by
  have hu : Tryz.prog.underlying 9 = some .string := by kernel_rfl
  have e : s[i]? = some s[i] := getElem?_pos s i hi
  have e2 : ((i : Int)).toNat = i := by omega
  rw [run_index_string (P := Tryz.prog) (h := hu)]
  simp [at8_eq s i hi]
  intro h
  omega
/-- A number of so many bytes. -/
def be (s : ByteArray) (a : Nat) : Nat → Nat
  | 0 => 0
  | k + 1 => be s a k * 256 + at8 s (a + k)
def numB (s : ByteArray) (k : Nat) : Par Int := fun a => if a + k ≤ s.size then some ((be s a k : Int), a + k) else none
theorem numB_two (s : ByteArray) : numB s 2 = num2 s := by
  funext a
  unfold numB num2
  simp [be, n2]
theorem numB_four (s : ByteArray) : numB s 4 = num4 s := by
  funext a
  unfold numB num4
  have : be s a 4 = n4 s a := by simp only [be, n4, n2, Nat.add_assoc, Nat.add_zero, Nat.reduceAdd]; omega
  rw [this]
theorem be_le (s : ByteArray) (a : Nat) : ∀ k, k ≤ 4 → be s a k ≤ 4294967295 := by
  intro k hk
  have h0 := at8_lt s a
  have h1 := at8_lt s (a + 1)
  have h2 := at8_lt s (a + 2)
  have h3 := at8_lt s (a + 3)
  rcases (show k = 0 ∨ k = 1 ∨ k = 2 ∨ k = 3 ∨ k = 4 from by omega) with rfl | rfl | rfl | rfl | rfl <;> simp only [be, Nat.add_zero] <;> omega

set_option maxRecDepth 10000 in
set_option maxHeartbeats 1000000 in
theorem numberI (w : World) (r : Nat) (s : ByteArray) (a : Nat) (bad : Bool) (n : Nat) (hn : n ≤ 4) (h : In w r s a bad) :
    Calls Tryz.prog 127 #[.pointer (some ⟨r, 0, none⟩), .int .i64 n] w fun e w' => ∃ x : Nat, e = .returned (.int .i64 x) ∧ Hid ((x = 0 ∨ x = be s a n) ∧ OutI (numB s n) w w' r s a bad x) := by
  have HR := hide h
  have hs := h.small
  have ha := h.le
  have hcl := h.cell
  have hfr := h.frozen
  clear h
  have HF : Hid (∀ k, In ((w.drewN k).setCell ⟨r, 2, none⟩ (.bool true)) r s a true ∧ w.grownBy ((w.drewN k).setCell ⟨r, 2, none⟩ (.bool true)) (some r)) := fun k => ⟨(HR.out.drewN k).setBad true, grownBy_trans (grownBy_drewN _ k _) (grownBy_setCell _ _ _ _)⟩
  cases bad
  · by_cases hlt : s.size < a + n
    · have hd : decide ((s.size : Int) < (a : Int) + (n : Int)) = true := by simp; omega
      go_enter Tryz.func127, Tryz.ntmps127
      go_wp2_with fail
      go_quiet (fail)
      go_wp2_with fail
      go_ret
      exact ⟨0, rfl, .inl rfl, a, true, (HF.out nq).1, (HF.out nq).2, Ran.fail (by unfold numB; rw [if_neg (by omega)]) _⟩
    · have hd : decide ((s.size : Int) < (a : Int) + (n : Int)) = false := by simp; omega
      go_enter Tryz.func127, Tryz.ntmps127
      go_wp2_with fail
      go_quiet (fail)
      go_wp2_with fail
      go_loopw [5, 6] (fun v i wr => ∃ (k m : Nat), v = .int .i64 (be s a k) ∧ i = .int .i64 k ∧ k ≤ n ∧ wr = w.drewN m) (fun _ i _ => n - (intOf i).toNat)
      case atStart => exact ⟨0, nq, rfl, rfl, Nat.zero_le _, rfl⟩
      case round =>
        obtain ⟨k, m, rfl, rfl, hk, rfl⟩ := hrel
        have hbe := be_le s a k (by omega)
        by_cases hkn : k < n
        · have hix : a + k < s.size := by omega
          have hix2 : (a : Int) + (k : Int) < (s.size : Int) := by omega
          have hw1 : IntKind.i64.wrap ((a : Int) + (k : Int)) = ((a + k : Nat) : Int) := by rw [IntKind.wrap_i64]; omega
          have hidx : ∀ W, (Instr.index 9 (.string s) (.int .i64 ((a : Int) + (k : Int)))).run Tryz.prog W = .ok (.int .u8 (at8 s (a + k))) W := fun W => by
            have := idx s (a + k) hix W
            rwa [Int.natCast_add] at this
          have hl8 := at8_lt s (a + k)
          have hw3 : IntKind.i64.wrap ((be s a k : Int) * 256 + (at8 s (a + k) : Int)) = ((be s a (k + 1) : Nat) : Int) := by rw [IntKind.wrap_i64]; simp only [be]; omega
          have hw2 : IntKind.i64.wrap ((be s a k : Int) * 256) = ((be s a k * 256 : Nat) : Int) := by rw [IntKind.wrap_i64]; omega
          go_wp2_with fail
          go_quiet (fail)
          go_wp2_with fail
          exact ⟨⟨k + 1, m + nq, rfl, by go_num, by omega, rfl⟩, by simp [intOf]; omega⟩
        · go_wp2_with fail
          go_ret
          have e : k = n := by omega
          subst e
          exact ⟨be s a k, rfl, .inr rfl, a + k, false, (HR.out.drewN m).setAt (by omega), grownBy_trans (grownBy_drewN _ m _) (grownBy_setCell _ _ _ _), Ran.good (r := ((be s a k : Int), a + k)) (by unfold numB; rw [if_pos (by omega)])⟩
  · go_enter Tryz.func127, Tryz.ntmps127
    go_wp2_with fail
    go_quiet (fail)
    go_wp2_with fail
    go_ret
    exact ⟨0, rfl, .inl rfl, a, true, (HF.out nq).1, (HF.out nq).2, Ran.bad _ _⟩

theorem ext_cut (s : ByteArray) (i j : Nat) : s.extract i j = ⟨(cut s i j).toArray⟩ := by
  apply ByteArray.ext
  apply Array.ext'
  simp [cut, List.extract]
theorem slc (s : ByteArray) (i n : Nat) (hi : i + n ≤ s.size) (W : World) : (Instr.slice 9 (.string s) (some (.int .i64 (i : Int))) (some (.int .i64 ((i : Int) + (n : Int)))) none).run Tryz.prog W = .ok (.string ⟨(cut s i (i + n)).toArray⟩) W := by
  have hu : Tryz.prog.underlying 9 = some .string := by kernel_rfl
  have hr := run_slice_string (P := Tryz.prog) W 9 s .i64 .i64 (i : Int) ((i : Int) + (n : Int)) hu (by omega) (by omega) (by omega)
  rw [hr]
  have e1 : ((i : Int)).toNat = i := by omega
  have e2 : ((i : Int) + (n : Int)).toNat = i + n := by omega
  rw [e1, e2, ext_cut]

set_option maxRecDepth 10000 in
set_option maxHeartbeats 1000000 in
theorem textI (w : World) (r : Nat) (s : ByteArray) (a : Nat) (bad : Bool) (n : Nat) (hn : n ≤ 65535) (h : In w r s a bad) :
    Calls Tryz.prog 176 #[.pointer (some ⟨r, 0, none⟩), .int .i64 n] w fun e w' => ∃ x : ByteArray, e = .returned (.string x) ∧ Hid (x.size ≤ 512 ∧ OutI (pText s n) w w' r s a bad x) := by
  have HR := hide h
  have hs := h.small
  have ha := h.le
  have hcl := h.cell
  have hfr := h.frozen
  clear h
  have HF : Hid (∀ k, In ((w.drewN k).setCell ⟨r, 2, none⟩ (.bool true)) r s a true ∧ w.grownBy ((w.drewN k).setCell ⟨r, 2, none⟩ (.bool true)) (some r)) := fun k => ⟨(HR.out.drewN k).setBad true, grownBy_trans (grownBy_drewN _ k _) (grownBy_setCell _ _ _ _)⟩
  cases bad
  · by_cases hlt : s.size < a + n
    · have hd : decide ((s.size : Int) < (a : Int) + (n : Int)) = true := by simp; omega
      go_enter Tryz.func176, Tryz.ntmps176
      go_wp2_with fail
      go_quiet (fail)
      go_wp2_with fail
      go_ret
      exact ⟨⟨#[]⟩, rfl, by decide, a, true, (HF.out nq).1, (HF.out nq).2, Ran.fail (by unfold pText; rw [if_neg (by omega)]) _⟩
    · have hd : decide ((s.size : Int) < (a : Int) + (n : Int)) = false := by simp; omega
      have hsl := slc s a n (by omega)
      have hw1 : IntKind.i64.wrap ((a : Int) + (n : Int)) = (a : Int) + (n : Int) := by rw [IntKind.wrap_i64]; omega
      go_enter Tryz.func176, Tryz.ntmps176
      go_wp2_with fail
      go_quiet (fail)
      go_wp2_with fail
      go_quiet (fail)
      go_wp2_with fail
      go_ret
      refine ⟨_, rfl, ?_, a + n, false, (HR.out.drewN _).setAt (by omega), grownBy_trans (grownBy_drewN _ _ _) (grownBy_setCell _ _ _ _), Ran.good (r := ((⟨(cut s a (a + n)).toArray⟩ : ByteArray), a + n)) ?_⟩
      · show (cut s a (a + n)).toArray.size ≤ 512
        rw [List.size_toArray, cut_length (by omega)]
        omega
      · unfold pText
        rw [if_pos (by omega)]
  · go_enter Tryz.func176, Tryz.ntmps176
    go_wp2_with fail
    go_quiet (fail)
    go_wp2_with fail
    go_ret
    exact ⟨⟨#[]⟩, rfl, by decide, a, true, (HF.out nq).1, (HF.out nq).2, Ran.bad _ _⟩
end Go.Proofs.YtafoepfhepdcoaaGreat
