import Derived.Test.YtafoepfhepdcoaaGreatM19
import Derived.Deep.RegionHeld3
import Derived.Laws.BitsAllLaws
/- The reader of a message: its small methods. -/
namespace Go.Proofs.YtafoepfhepdcoaaGreat
open Go.RowKit Go.Trawl

/-- A reader lies in a block. -/
structure Rd (w : World) (r b c : Nat) (s : ByteArray) (a : Nat) (bad : Bool) : Prop where
  box : w.heap[r]? = some (.cells #[.slice (some ⟨b, 0, none⟩) s.size c, .int .i64 a, .bool bad] 133)
  le : a ≤ s.size
  bytes : Bytes w b s
  ne : b ≠ r
  lt : b < w.heap.size
  cap : s.size ≤ c
  small : s.size ≤ 512
def stOf (a : Nat) (bad : Bool) : Option Nat := if bad then none else some a
/-- What was read so. -/
def Out {α : Type} (p : Par α) (w w' : World) (r b c : Nat) (s : ByteArray) (a : Nat) (bad : Bool) (x : α) : Prop := ∃ a' bad', Rd w' r b c s a' bad' ∧ w.grownBy w' (some r) ∧ Ran p (stOf a bad) x (stOf a' bad')

theorem Bytes.grown {w w' : World} {b r : Nat} {s : ByteArray} (h : Bytes w b s) (hb : b < w.heap.size) (hw : w.grownBy w' (some r)) (hne : b ≠ r) : Bytes w' b s :=
  fun k hk => cell_of_heap (hw.block b hb (fun e => hne ((Option.some.inj e).symm ▸ rfl))) (h k hk)
theorem Rd.set {w : World} {r b c : Nat} {s : ByteArray} {a a' : Nat} {bad bad' : Bool} (h : Rd w r b c s a bad) {w' : World} (hw : w.grownBy w' (some r)) (ha : a' ≤ s.size)
    (hb : w'.heap[r]? = some (.cells #[.slice (some ⟨b, 0, none⟩) s.size c, .int .i64 a', .bool bad'] 133)) : Rd w' r b c s a' bad' :=
  ⟨hb, ha, h.bytes.grown h.lt hw h.ne, h.ne, Nat.lt_of_lt_of_le h.lt hw.size, h.cap, h.small⟩
theorem Rd.keep {w w' : World} {r b c : Nat} {s : ByteArray} {a : Nat} {bad : Bool} (h : Rd w r b c s a bad) (hw : w.grownBy w' none) : Rd w' r b c s a bad :=
  h.set (grownBy_none hw) h.le ((hw.block r (heap_lt h.box) (by simp)).trans h.box)
theorem Rd.new {w w' : World} {r b c : Nat} {s : ByteArray} {a : Nat} {bad : Bool} (h : Rd w r b c s a bad) {B : Nat} (hB : w.heap.size ≤ B) (hw : Below B w w') : Rd w' r b c s a bad :=
  h.keep ⟨hw.os, hw.tape, hw.output, hw.size, fun i hi _ => hw.block i (by omega)⟩
theorem Rd.cell {w : World} {r b c : Nat} {s : ByteArray} {a : Nat} {bad : Bool} (h : Rd w r b c s a bad) : ∀ o, w.cell? ⟨r, o, none⟩ = #[Value.slice (some ⟨b, 0, none⟩) s.size c, .int .i64 a, .bool bad][o]? := box_cells h.box
theorem Rd.frozen {w : World} {r b c : Nat} {s : ByteArray} {a : Nat} {bad : Bool} (h : Rd w r b c s a bad) : ∀ o, w.frozen? ⟨r, o, none⟩ = false := frozen_of_block h.box
theorem Rd.setBad {w : World} {r b c : Nat} {s : ByteArray} {a : Nat} {bad : Bool} (h : Rd w r b c s a bad) : Rd (w.setCell ⟨r, 2, none⟩ (.bool true)) r b c s a true :=
  h.set (grownBy_setCell _ _ _ _) h.le (by rw [heap_setCell_eq h.box]; rfl)
theorem Rd.setAt {w : World} {r b c : Nat} {s : ByteArray} {a a' : Nat} {bad : Bool} (h : Rd w r b c s a bad) (ha : a' ≤ s.size) : Rd (w.setCell ⟨r, 1, none⟩ (.int .i64 a')) r b c s a' bad :=
  h.set (grownBy_setCell _ _ _ _) ha (by rw [heap_setCell_eq h.box]; rfl)

set_option maxHeartbeats 1000000 in
theorem take_no (w : World) (r b c : Nat) (s : ByteArray) (a : Nat) (bad : Bool) (n : Nat) (h : Rd w r b c s a bad) (hn : n ≤ 65535) (hno : bad = true ∨ s.size < a + n) :
    Calls Tryz.prog 98 #[.pointer (some ⟨r, 0, none⟩), .int .i64 n] w fun e w' => e = .returned (.slice none 0 0) ∧ Hid (Rd w' r b c s a true ∧ w.grownBy w' (some r)) := by
  have HR := hide h
  have hs := h.small
  have ha := h.le
  have hcl := h.cell
  have hfr := h.frozen
  clear h
  have fin : ∀ k, Rd ((w.drewN k).setCell ⟨r, 2, none⟩ (.bool true)) r b c s a true ∧ w.grownBy ((w.drewN k).setCell ⟨r, 2, none⟩ (.bool true)) (some r) := fun k => ⟨(HR.out.keep (grownBy_drewN _ k none)).setBad, grownBy_trans (grownBy_drewN _ k _) (grownBy_setCell _ _ _ _)⟩
  have HF := hide fin
  clear fin
  cases bad
  · have hlt : s.size < a + n := by rcases hno with h | h; cases h; exact h
    have hd : decide ((s.size : Int) - (a : Int) < (n : Int)) = true := by simp; omega
    clear hno
    go_enter Tryz.func98, Tryz.ntmps98
    go_wp2_with fail
    go_quiet (fail)
    go_wp2_with fail
    go_ret
    exact ⟨rfl, HF.out nq⟩
  · clear hno
    go_enter Tryz.func98, Tryz.ntmps98
    go_wp2_with fail
    go_quiet (fail)
    go_wp2_with fail
    go_ret
    exact ⟨rfl, HF.out nq⟩

set_option maxHeartbeats 1000000 in
theorem take_yes (w : World) (r b c : Nat) (s : ByteArray) (a n : Nat) (h : Rd w r b c s a false) (hn : a + n ≤ s.size) :
    Calls Tryz.prog 98 #[.pointer (some ⟨r, 0, none⟩), .int .i64 n] w fun e w' =>
      ∃ ad c', e = .returned (.slice (some ad) n c') ∧ Hid ((0 < n → ad = ⟨b, a, none⟩) ∧ Rd w' r b c s (a + n) false ∧ w.grownBy w' (some r)) := by
  have HR := hide h
  have hs := h.small
  have ha := h.le
  have hcp := h.cap
  have hcl := h.cell
  have hfr := h.frozen
  clear h
  have hd : decide ((s.size : Int) - (a : Int) < (n : Int)) = false := by simp; omega
  have HF : Hid (∀ k m, Rd (((w.drewN k).setCell ⟨r, 1, none⟩ (.int .i64 ((a : Int) + (n : Int)))).drewN m) r b c s (a + n) false ∧ w.grownBy (((w.drewN k).setCell ⟨r, 1, none⟩ (.int .i64 ((a : Int) + (n : Int)))).drewN m) (some r)) := fun k m => by
    have := ((HR.out.keep (grownBy_drewN _ k none)).setAt (a' := a + n) hn).keep (grownBy_drewN _ m none)
    exact ⟨this, grownBy_trans (grownBy_trans (grownBy_drewN _ k _) (grownBy_setCell _ _ _ _)) (grownBy_drewN _ m _)⟩
  go_enter Tryz.func98, Tryz.ntmps98
  go_wp2_with fail
  go_quiet (fail)
  go_wp2_with fail
  by_cases hca : c = a
  · go_quiet (fail)
    go_wp2_with fail
    go_ret
    exact ⟨_, _, by rw [Nat.add_sub_cancel_left]; rfl, fun h0 => by omega, HF.out _ _⟩
  · go_quiet (fail)
    go_wp2_with fail
    go_ret
    exact ⟨_, _, by rw [Nat.add_sub_cancel_left]; rfl, fun _ => rfl, HF.out _ _⟩

theorem or256 {x y : Nat} (hx : x < 256) (hy : y < 256) : bits BinOp.or IntKind.u16 ((x : Int) * 256) (y : Int) = ((x * 256 + y : Nat) : Int) := by
  have h := u16_or_nat (x * 256) y (by omega) (by omega)
  have e : x * 256 ||| y = x * 256 + y := by
    have := Nat.shiftLeft_add_eq_or_of_lt (b := y) (i := 8) (by omega) x
    rw [Nat.shiftLeft_eq] at this
    exact this.symm
  rw [e] at h
  exact h
theorem or65536 {x y : Nat} (hx : x ≤ 65535) (hy : y ≤ 65535) : bits BinOp.or IntKind.u32 ((x : Int) * 65536) (y : Int) = ((x * 65536 + y : Nat) : Int) := by
  have h := u32_or_nat (x * 65536) y (by omega) (by omega)
  have e : x * 65536 ||| y = x * 65536 + y := by
    have := Nat.shiftLeft_add_eq_or_of_lt (b := y) (i := 16) (by omega) x
    rw [Nat.shiftLeft_eq] at this
    exact this.symm
  rw [e] at h
  exact h
theorem stOf_false (a : Nat) : stOf a false = some a := rfl
theorem stOf_true (a : Nat) : stOf a true = none := rfl

set_option maxHeartbeats 1000000 in
theorem short_any (w : World) (r b c : Nat) (s : ByteArray) (a : Nat) (bad : Bool) (h : Rd w r b c s a bad) :
    Calls Tryz.prog 67 #[.pointer (some ⟨r, 0, none⟩)] w fun e w' => ∃ x : Int, e = .returned (.int .u16 x) ∧ Hid (0 ≤ x ∧ x ≤ 65535 ∧ Out (num2 s) w w' r b c s a bad x) := by
  have HR := hide h
  clear h
  by_cases hno : bad = true ∨ s.size < a + 2
  · have HN := hide hno
    clear hno
    go_enter Tryz.func67, Tryz.ntmps67
    go_wp2_with fail
    refine (take_no w r b c s a bad 2 HR.out (by decide) HN.out).mono ?_
    rintro e w1 ⟨rfl, H1⟩
    have hcl := H1.out.1.cell
    go_wp2_with fail
    go_ret
    refine ⟨0, rfl, by decide, by decide, a, true, H1.out.1, H1.out.2, ?_⟩
    rcases HN.out with h | h
    · rw [h]; exact Ran.bad _ _
    · cases bad
      · exact Ran.fail (by unfold num2; rw [if_neg (by omega)]) _
      · exact Ran.bad _ _
  · have hb : bad = false := by cases bad; rfl; exact absurd (.inl rfl) hno
    subst hb
    have hn : a + 2 ≤ s.size := by by_cases h : a + 2 ≤ s.size; exact h; exact absurd (.inr (by omega)) hno
    clear hno
    go_enter Tryz.func67, Tryz.ntmps67
    go_wp2_with fail
    refine (take_yes w r b c s a 2 HR.out hn).mono ?_
    rintro e w1 ⟨ad, c1, rfl, H1⟩
    obtain rfl := H1.out.1 (by decide)
    have hcl := H1.out.2.1.cell
    have h0 := H1.out.2.1.bytes a (by omega)
    have h1 := H1.out.2.1.bytes (a + 1) (by omega)
    have l0 := at8_lt s a
    have l1 := at8_lt s (a + 1)
    go_wp2_with fail
    go_quiet (fail)
    go_wp2_with fail
    go_ret
    have hx : bits BinOp.or IntKind.u16 ((at8 s a : Int) * 256) (at8 s (a + 1)) = (n2 s a : Int) := or256 l0 l1
    have hn2 := n2_lt s a
    refine ⟨(n2 s a : Int), ret_int hx, by omega, by omega, a + 2, false, H1.out.2.1.keep (grownBy_drewN _ nq none), grownBy_trans H1.out.2.2 (grownBy_drewN _ nq _), ?_⟩
    exact Ran.good (r := ((n2 s a : Int), a + 2)) (by unfold num2; rw [if_pos hn])

theorem Out.bind {α β : Type} {p : Par α} {f : α → Par β} {w w1 w2 : World} {r b c : Nat} {s : ByteArray} {a : Nat} {bad : Bool} {x : α} {y : β} (h : Out p w w1 r b c s a bad x)
    (k : ∀ a1 bad1, Rd w1 r b c s a1 bad1 → Out (f x) w1 w2 r b c s a1 bad1 y) : Out (p.bind f) w w2 r b c s a bad y := by
  obtain ⟨a1, bad1, h1, h2, h3⟩ := h
  obtain ⟨a2, bad2, k1, k2, k3⟩ := k a1 bad1 h1
  exact ⟨a2, bad2, k1, grownBy_trans h2 k2, h3.bind k3⟩

/-- Four bytes are two numbers. -/
theorem ran_four {s : ByteArray} {st st1 st2 : Option Nat} {x y z : Int} (h : Ran (num2 s) st x st1) (k : Ran (num2 s) st1 y st2) (hz : ∀ a2, st2 = some a2 → z = x * 65536 + y) : Ran (num4 s) st z st2 := by
  cases st2 with
  | some a2 =>
    obtain ⟨a1, h1, h2⟩ := k.le a2 rfl
    obtain ⟨a0, h3, h4⟩ := h.le a1 h1
    unfold num2 at h2 h4
    split at h2
    · split at h4
      · cases h2
        cases h4
        subst h3
        rename_i q1 q2
        have : num4 s a0 = some (z, a0 + 2 + 2) := by
          unfold num4
          rw [if_pos (by omega), hz _ rfl]
          simp [n4]
        exact Ran.good this
      · cases h4
    · cases h2
  | none =>
    cases st with
    | none => exact Ran.bad _ _
    | some a0 =>
      refine Ran.fail ?_ _
      unfold num4
      by_cases h0 : a0 + 4 ≤ s.size
      · exfalso
        have e1 : num2 s a0 = some ((n2 s a0 : Int), a0 + 2) := by unfold num2; rw [if_pos (by omega)]
        have e2 : num2 s (a0 + 2) = some ((n2 s (a0 + 2) : Int), a0 + 2 + 2) := by unfold num2; rw [if_pos (by omega)]
        have h1 := h.1
        simp only [Option.bind_some, e1, Option.map_some] at h1
        have k1 := k.1
        rw [h1] at k1
        simp only [Option.bind_some, e2, Option.map_some] at k1
        cases k1
      · rw [if_neg h0]

set_option maxHeartbeats 1000000 in
theorem long_any (w : World) (r b c : Nat) (s : ByteArray) (a : Nat) (bad : Bool) (h : Rd w r b c s a bad) :
    Calls Tryz.prog 100 #[.pointer (some ⟨r, 0, none⟩)] w fun e w' => ∃ x : Int, e = .returned (.int .u32 x) ∧ Hid (0 ≤ x ∧ x ≤ 4294967295 ∧ Out (num4 s) w w' r b c s a bad x) := by
  have HR := hide h
  clear h
  go_enter Tryz.func100, Tryz.ntmps100
  go_wp2_with fail
  refine (short_any w r b c s a bad HR.out).mono ?_
  rintro e w1 ⟨x, rfl, H1⟩
  obtain ⟨x0, x1, a1, bad1, R1, G1, Ra1⟩ := H1.out
  have HR1 := hide R1
  have HG1 := hide G1
  have HA1 := hide Ra1
  clear H1 R1 G1 Ra1
  go_wp2_with fail
  refine (short_any w1 r b c s a1 bad1 HR1.out).mono ?_
  rintro e w2 ⟨y, rfl, H2⟩
  obtain ⟨y0, y1, a2, bad2, R2, G2, Ra2⟩ := H2.out
  have HR2 := hide R2
  have HG2 := hide G2
  have HA2 := hide Ra2
  clear H2 R2 G2 Ra2
  go_wp2_with fail
  go_ret
  have hx : bits BinOp.or IntKind.u32 (x * 65536) y = x * 65536 + y := by
    obtain ⟨m, rfl⟩ : ∃ m : Nat, x = m := ⟨x.toNat, by omega⟩
    obtain ⟨k, rfl⟩ : ∃ k : Nat, y = k := ⟨y.toNat, by omega⟩
    rw [or65536 (by omega) (by omega)]
    omega
  exact ⟨x * 65536 + y, ret_int hx, by omega, by omega, a2, bad2, HR2.out, grownBy_trans HG1.out HG2.out, ran_four HA1.out HA2.out fun _ _ => rfl⟩

theorem readName_no (w : World) (b c : Nat) (s : ByteArray) (a : Nat) (hs : s.size ≤ 512) (hsc : s.size ≤ c) (ha : a ≤ s.size) (hbl : b < w.heap.size) (hc : Bytes w b s) (hp : pName s a = none) :
    Calls Tryz.prog 142 #[.slice (some ⟨b, 0, none⟩) s.size c, .int .i64 a] w fun e w' => e = .returned (.tuple #[.string ⟨#[]⟩, .int .i64 0, .bool false]) ∧ Hid (Below w.heap.size w w') :=
  (readName_any w b c s a hs hsc ha hbl hc).mono fun _ _ h => ⟨h.out.1 hp, h.out.2.2⟩
theorem readName_yes (w : World) (b c : Nat) (s : ByteArray) (a : Nat) (hs : s.size ≤ 512) (hsc : s.size ≤ c) (ha : a ≤ s.size) (hbl : b < w.heap.size) (hc : Bytes w b s) (x : ByteArray) (a' : Nat) (hp : pName s a = some (x, a')) :
    Calls Tryz.prog 142 #[.slice (some ⟨b, 0, none⟩) s.size c, .int .i64 a] w fun e w' => e = .returned (.tuple #[.string x, .int .i64 a', .bool true]) ∧ Hid (Below w.heap.size w w') :=
  (readName_any w b c s a hs hsc ha hbl hc).mono fun _ _ h => ⟨h.out.2.1 _ hp, h.out.2.2⟩

set_option maxHeartbeats 1000000 in
theorem name_any (w : World) (r b c : Nat) (s : ByteArray) (a : Nat) (bad : Bool) (h : Rd w r b c s a bad) :
    Calls Tryz.prog 99 #[.pointer (some ⟨r, 0, none⟩)] w fun e w' => ∃ x : ByteArray, e = .returned (.string x) ∧ Hid (x.size ≤ 255 ∧ Out (pName s) w w' r b c s a bad x) := by
  have HR := hide h
  have hs := h.small
  have ha := h.le
  have hcl := h.cell
  have hfr := h.frozen
  clear h
  cases bad
  · cases hp : pName s a with
    | none =>
      have HP := hide hp
      clear hp
      have HD := hide (HR.out.keep (grownBy_drew w none))
      go_enter Tryz.func99, Tryz.ntmps99
      go_wp2_with fail
      go_region_held3 (fun w' => w'.cell? ⟨r, 0, none⟩ = some (.slice (some ⟨b, 0, none⟩) s.size c) ∧ w'.cell? ⟨r, 1, none⟩ = some (.int .i64 a)) (go_keep)
        (first | (go_at_call 142; refine (readName_no w.drew b c s a hs HD.out.cap ha HD.out.lt HD.out.bytes HP.out).mono ?_; rintro e w1 ⟨rfl, HB1⟩; have HR1 := hide (HD.out.new (Nat.le_refl _) HB1.out); have hcl1 := HR1.out.cell; have hfr1 := HR1.out.frozen))
      go_wp2_with fail
      go_ret
      exact ⟨⟨#[]⟩, rfl, by decide, a, true, HR1.out.setBad, grownBy_trans (grownBy_trans (grownBy_drew _ _) (grownBy_below HB1.out _)) (grownBy_setCell _ _ _ _), Ran.fail HP.out _⟩
    | some q =>
      obtain ⟨x, a'⟩ := q
      have HP := hide hp
      have ha' := (pName_ends hp).1
      have HX := hide (pName_ends hp).2.2
      clear hp
      have HD := hide (HR.out.keep (grownBy_drew w none))
      go_enter Tryz.func99, Tryz.ntmps99
      go_wp2_with fail
      go_region_held3 (fun w' => w'.cell? ⟨r, 0, none⟩ = some (.slice (some ⟨b, 0, none⟩) s.size c) ∧ w'.cell? ⟨r, 1, none⟩ = some (.int .i64 a)) (go_keep)
        (first | (go_at_call 142; refine (readName_yes w.drew b c s a hs HD.out.cap ha HD.out.lt HD.out.bytes x a' HP.out).mono ?_; rintro e w1 ⟨rfl, HB1⟩; have HR1 := hide (HD.out.new (Nat.le_refl _) HB1.out); have hcl1 := HR1.out.cell; have hfr1 := HR1.out.frozen))
      go_wp2_with fail
      go_ret
      exact ⟨x, rfl, HX.out, a', false, HR1.out.setAt ha', grownBy_trans (grownBy_trans (grownBy_drew _ _) (grownBy_below HB1.out _)) (grownBy_setCell _ _ _ _), Ran.good (r := (x, a')) HP.out⟩
  · go_enter Tryz.func99, Tryz.ntmps99
    go_wp2_with fail
    go_ret
    exact ⟨⟨#[]⟩, rfl, by decide, a, true, HR.out, grownBy_refl _ _, Ran.bad _ _⟩

/-- A stretch of bytes as a string. -/
theorem conv_cut (w : World) (b : Nat) (s : ByteArray) (a n c : Nat) (ad : Addr) (hb : Bytes w b s) (hn : a + n ≤ s.size) (hbl : b < w.heap.size) (had : 0 < n → ad = ⟨b, a, none⟩) :
    (convert 32 9 (.slice (some ad) n c)).run Tryz.prog w = .ok (.string ⟨(cut s a (a + n)).toArray⟩) w := by
  rw [run_convert_bytes_string _ _ _ 5 _ _ _ und_bytes' und_u8' und_string']
  have hlen : (cut s a (a + n)).length = n := by rw [cut_length hn]; omega
  have hload := run_loadCells_list (P := Tryz.prog) w ad (bytesV (cut s a (a + n))) (fun j u hj => by
    have hj2 : j < n := by
      by_cases h : j < n
      · exact h
      · rw [List.getElem?_eq_none (by rw [bytesV_length, hlen]; omega)] at hj
        cases hj
    rw [had (by omega)]
    obtain ⟨_, _, hv, _, hc⟩ := hb.lies hbl (i := a) (j := a + n) (c := c) hn (by omega)
    rcases hc with he | ⟨b2, o2, e2, _, hc⟩
    · have := congrArg List.length he
      rw [List.length_map, bytesV_length, hlen] at this
      simp at this
      omega
    · injection hv with hv
      rw [← hv] at e2
      cases e2
      have := hc j [u] (by rw [List.getElem?_map, hj]; rfl) 0 u rfl
      have e1 : (⟨b, a, none⟩ : Addr).add j = ⟨b, a + j * 1 + 0, none⟩ := by simp [Addr.add]
      rw [e1]
      exact this)
  rw [bytesV_length, hlen] at hload
  have e1 : bytesV (cut s a (a + n)) = ((cut s a (a + n)).map fun b => (b.toNat : Int)).map (Value.int .u8) := by simp [bytesV]
  rw [e1] at hload
  rw [run_bytesToString w ad n c _ hload]
  congr 2
  have key : ∀ (l : List UInt8) (r : ByteArray), (l.map fun b => (b.toNat : Int)).foldl (fun r n => r.push (UInt8.ofNat n.toNat)) r = ⟨r.data ++ l.toArray⟩ := by
    intro l
    induction l with
    | nil => intro r; simp
    | cons b l ih =>
      intro r
      rw [List.map_cons, List.foldl_cons, ih]
      simp [ByteArray.push]
  rw [key]
  simp
theorem conv_none (w : World) : (convert 32 9 (.slice none 0 0)).run Tryz.prog w = .ok (.string ⟨#[]⟩) w := by
  rw [run_convert_bytes_string _ _ _ 5 _ _ _ und_bytes' und_u8' und_string']
  rfl

theorem data_same {s : ByteArray} {k : Int} {n a a2 : Nat} {bad bad2 : Bool} {x : ByteArray} (hk : named k = true) (h : Ran (pName s) (stOf a bad) x (stOf a2 bad2)) (he : a2 = a + n) : Ran (pData s k n) (stOf a bad) x (stOf a2 bad2) := by
  cases bad with
  | true =>
    have := Ran.none_of h
    rw [this]
    exact Ran.bad _ _
  | false =>
    rw [stOf_false] at h ⊢
    cases hp : pName s a with
    | none =>
      have h1 := h.1
      simp only [Option.bind_some, hp, Option.map_none] at h1
      rw [h1]
      refine Ran.fail ?_ _
      unfold pData
      rw [if_pos hk, hp]
      rfl
    | some r =>
      have h1 := h.1
      have h2 := h.2 r (by simp [hp])
      simp only [Option.bind_some, hp, Option.map_some] at h1
      rw [h1, ← h2]
      have h3 : r.2 = a2 := by
        cases bad2 with
        | true => cases h1
        | false => exact (Option.some.inj h1).symm
      refine Ran.good ?_
      unfold pData
      rw [if_pos hk, hp]
      simp only [Option.bind_some]
      rw [if_pos (by omega)]
theorem data_other {s : ByteArray} {k : Int} {n a a2 : Nat} {bad bad2 : Bool} {x : ByteArray} (hk : named k = true) (h : Ran (pName s) (stOf a bad) x (stOf a2 bad2)) (he : ¬ a2 = a + n) (y : ByteArray) : Ran (pData s k n) (stOf a bad) y none := by
  cases bad with
  | true => exact Ran.bad _ _
  | false =>
    rw [stOf_false] at h ⊢
    refine Ran.fail ?_ _
    unfold pData
    rw [if_pos hk]
    cases hp : pName s a with
    | none => rfl
    | some r =>
      have h1 := h.1
      simp only [Option.bind_some, hp, Option.map_some] at h1
      have h3 : r.2 = a2 := by
        cases bad2 with
        | true => cases h1
        | false => exact (Option.some.inj h1).symm
      simp only [Option.bind_some]
      rw [if_neg (by omega)]

set_option maxHeartbeats 1000000 in
theorem data_any (w : World) (r b c : Nat) (s : ByteArray) (a : Nat) (bad : Bool) (k : Int) (n : Nat) (hn : n ≤ 65535) (h : Rd w r b c s a bad) :
    Calls Tryz.prog 101 #[.pointer (some ⟨r, 0, none⟩), .int .u16 k, .int .i64 n] w fun e w' => ∃ x : ByteArray, e = .returned (.string x) ∧ Hid (x.size ≤ 512 ∧ Out (pData s k n) w w' r b c s a bad x) := by
  have HR := hide h
  have hs := h.small
  have ha := h.le
  have hcl := h.cell
  clear h
  by_cases hk : named k = true
  · have HK := hide hk
    clear hk
    go_enter Tryz.func101, Tryz.ntmps101
    go_wp2_with fail
    refine (isNameType_any k w).mono ?_
    rintro e w1 ⟨rfl, rfl⟩
    rw [HK.out]
    go_wp2_with fail
    refine (name_any _ r b c s a bad HR.out).mono ?_
    rintro e w2 ⟨x, rfl, H2⟩
    obtain ⟨hx, a2, bad2, R2, G2, Ra2⟩ := H2.out
    have HR2 := hide R2
    have HG2 := hide G2
    have HA2 := hide Ra2
    have hcl2 := R2.cell
    have hfr2 := R2.frozen
    have ha2 := R2.le
    clear H2 R2 G2 Ra2
    by_cases hae : a2 = a + n
    · have HAE := hide hae
      go_wp2_with fail
      go_ret
      exact ⟨x, rfl, by omega, a2, bad2, HR2.out, HG2.out, data_same HK.out HA2.out HAE.out⟩
    · have HAE := hide hae
      go_wp2_with fail
      go_ret
      exact ⟨⟨#[]⟩, rfl, by decide, a2, true, HR2.out.setBad, grownBy_trans HG2.out (grownBy_setCell _ _ _ _), data_other HK.out HA2.out HAE.out _⟩
  · have hk2 : named k = false := by simpa using hk
    have HK := hide hk2
    clear hk hk2
    by_cases hno : bad = true ∨ s.size < a + n
    · have HN := hide hno
      clear hno
      have hcv := conv_none
      go_enter Tryz.func101, Tryz.ntmps101
      go_wp2_with fail
      refine (isNameType_any k w).mono ?_
      rintro e w1 ⟨rfl, rfl⟩
      rw [HK.out]
      go_wp2_with fail
      refine (take_no _ r b c s a bad n HR.out hn HN.out).mono ?_
      rintro e w2 ⟨rfl, H2⟩
      go_wp2_with fail
      go_ret
      refine ⟨⟨#[]⟩, rfl, by decide, a, true, H2.out.1, H2.out.2, ?_⟩
      rcases HN.out with h | h
      · rw [h]; exact Ran.bad _ _
      · cases bad
        · refine Ran.fail ?_ _
          unfold pData pText
          rw [if_neg (by rw [HK.out]; decide), if_neg (by omega)]
        · exact Ran.bad _ _
    · have hb : bad = false := by cases bad; rfl; exact absurd (.inl rfl) hno
      subst hb
      have hn2 : a + n ≤ s.size := by by_cases h : a + n ≤ s.size; exact h; exact absurd (.inr (by omega)) hno
      clear hno
      go_enter Tryz.func101, Tryz.ntmps101
      go_wp2_with fail
      refine (isNameType_any k w).mono ?_
      rintro e w1 ⟨rfl, rfl⟩
      rw [HK.out]
      go_wp2_with fail
      refine (take_yes _ r b c s a n HR.out hn2).mono ?_
      rintro e w2 ⟨ad, c2, rfl, H2⟩
      have hcv := conv_cut w2 b s a n c2 ad H2.out.2.1.bytes hn2 H2.out.2.1.lt H2.out.1
      go_wp2_with fail
      go_ret
      refine ⟨_, rfl, ?_, a + n, false, H2.out.2.1, H2.out.2.2, Ran.good (r := ((⟨(cut s a (a + n)).toArray⟩ : ByteArray), a + n)) ?_⟩
      · show (cut s a (a + n)).toArray.size ≤ 512
        rw [List.size_toArray, cut_length hn2]
        omega
      · unfold pData pText
        rw [if_neg (by rw [HK.out]; decide), if_pos hn2]
end Go.Proofs.YtafoepfhepdcoaaGreat
