import Derived.Test.YtafoepfhepdcoaaGreatM6
import Derived.Deep.RegionHeld3
import Derived.Laws.BitsAllLaws
import Derived.Test.YtafoepfhepdcoaaGreatM3
import Derived.Laws.Rows
set_option maxRecDepth 100000
set_option maxHeartbeats 8000000
namespace Go.Proofs.YtafoepfhepdcoaaGreat
open Go.RowKit Go.Trawl
structure Rd (w : World) (r b c : Nat) (s : ByteArray) (a : Nat) (bad : Bool) : Prop where
 box : w.heap[r]? = some (.cells #[.slice (some ⟨b, 0, none⟩) s.size c, .int .i64 a, .bool bad] 133)
 le : a ≤ s.size
 bytes : Bytes w b s
 ne : b ≠ r
 lt : b < w.heap.size
 cap : s.size ≤ c
 small : s.size ≤ 512
def stOf (a : Nat) (bad : Bool) : Option Nat := if bad then none else some a
def Out {α : Type} (p : Par α) (w w' : World) (r b c : Nat) (s : ByteArray) (a : Nat) (bad : Bool) (x : α) : Prop := ∃ a' bad', Rd w' r b c s a' bad' ∧ w.grownBy w' (some r) ∧ Ran p (stOf a bad) x (stOf a' bad')
theorem Bytes.grown {w w' : World} {b r : Nat} {s : ByteArray} (h : Bytes w b s) (hb : b < w.heap.size) (hw : w.grownBy w' (some r)) (hne : b ≠ r) : Bytes w' b s :=
 fun k hk => cell_of_heap (hw.block b hb (fun e => hne ((Option.some.inj e).symm ▸ rfl))) (h k hk)
theorem Rd.set {w : World} {r b c : Nat} {s : ByteArray} {a a' : Nat} {bad bad' : Bool} (h : Rd w r b c s a bad) {w' : World} (hw : w.grownBy w' (some r)) (ha : a' ≤ s.size)
  (hb : w'.heap[r]? = some (.cells #[.slice (some ⟨b, 0, none⟩) s.size c, .int .i64 a', .bool bad'] 133)) : Rd w' r b c s a' bad' :=
 ⟨hb, ha, h.bytes.grown h.lt hw h.ne, h.ne, Nat.lt_of_lt_of_le h.lt hw.size, h.cap, h.small⟩
theorem Rd.keep {w w' : World} {r b c : Nat} {s : ByteArray} {a : Nat} {bad : Bool} (h : Rd w r b c s a bad) (hw : w.grownBy w' none) : Rd w' r b c s a bad :=
 h.set (grownBy_none hw) h.le ((hw.block r (heap_lt h.box) (by simp)).trans h.box)
theorem Rd.new {w w' : World} {r b c : Nat} {s : ByteArray} {a : Nat} {bad : Bool} (h : Rd w r b c s a bad) {B : Nat} (hB : w.heap.size ≤ B) (hw : Below B w w') : Rd w' r b c s a bad :=
 h.keep ⟨hw.os, hw.tape, hw.output, hw.size, fun i hi _ => hw.block i (by omega)⟩
theorem Rd.cell {w : World} {r b c : Nat} {s : ByteArray} {a : Nat} {bad : Bool} (h : Rd w r b c s a bad) : ∀ o, w.cell? ⟨r, o, none⟩ = #[Value.slice (some ⟨b, 0, none⟩) s.size c, .int .i64 a, .bool bad][o]? := box_cells h.box
theorem Rd.frozen {w : World} {r b c : Nat} {s : ByteArray} {a : Nat} {bad : Bool} (h : Rd w r b c s a bad) : ∀ o, w.frozen? ⟨r, o, none⟩ = false := frozen_of_block h.box
theorem Rd.setBad {w : World} {r b c : Nat} {s : ByteArray} {a : Nat} {bad : Bool} (h : Rd w r b c s a bad) : Rd (w.setCell ⟨r, 2, none⟩ (.bool true)) r b c s a true :=
 h.set (grownBy_setCell _ _ _ _) h.le (by rw [heap_setCell_eq h.box]; rfl)
theorem Rd.setAt {w : World} {r b c : Nat} {s : ByteArray} {a a' : Nat} {bad : Bool} (h : Rd w r b c s a bad) (ha : a' ≤ s.size) : Rd (w.setCell ⟨r, 1, none⟩ (.int .i64 a')) r b c s a' bad :=
 h.set (grownBy_setCell _ _ _ _) ha (by rw [heap_setCell_eq h.box]; rfl)
theorem take_no (w : World) (r b c : Nat) (s : ByteArray) (a : Nat) (bad : Bool) (n : Nat) (h : Rd w r b c s a bad) (hn : n ≤ 65535) (hno : bad = true ∨ s.size < a + n) :
  Calls Tryz.prog 98 #[.pointer (some ⟨r, 0, none⟩), .int .i64 n] w fun e w' => e = .returned (.slice none 0 0) ∧ Hid (Rd w' r b c s a true ∧ w.grownBy w' (some r)) := by
 have HR := hide h
 have hs := h.small
 have ha := h.le
 have hcl := h.cell
 have hfr := h.frozen
 clear h
 have fin : ∀ k, Rd ((w.drewN k).setCell ⟨r, 2, none⟩ (.bool true)) r b c s a true ∧ w.grownBy ((w.drewN k).setCell ⟨r, 2, none⟩ (.bool true)) (some r) := fun k => ⟨(HR.out.keep (grownBy_drewN _ k none)).setBad, grownBy_trans (grownBy_drewN _ k _) (grownBy_setCell _ _ _ _)⟩
 have HF := hide fin
 clear fin
 cases bad
 ·have hlt : s.size < a + n := by rcases hno with h | h; cases h; exact h
  have hd : decide ((s.size : Int) - (a : Int) < (n : Int)) = true := by simp; omega
  clear hno
  go_enter Tryz.func98, Tryz.ntmps98
  go_wp2_with fail
  go_quiet (fail)
  go_wp2_with fail
  go_ret
  exact ⟨rfl, HF.out nq⟩
 ·clear hno
  go_enter Tryz.func98, Tryz.ntmps98
  go_wp2_with fail
  go_quiet (fail)
  go_wp2_with fail
  go_ret
  exact ⟨rfl, HF.out nq⟩
theorem take_yes (w : World) (r b c : Nat) (s : ByteArray) (a n : Nat) (h : Rd w r b c s a false) (hn : a + n ≤ s.size) :
  Calls Tryz.prog 98 #[.pointer (some ⟨r, 0, none⟩), .int .i64 n] w fun e w' =>
   ∃ ad c', e = .returned (.slice (some ad) n c') ∧ Hid ((0 < n → ad = ⟨b, a, none⟩) ∧ Rd w' r b c s (a + n) false ∧ w.grownBy w' (some r)) := by
 have HR := hide h
 have hs := h.small
 have ha := h.le
 have hcp := h.cap
 have hcl := h.cell
 have hfr := h.frozen
 clear h
 have hd : decide ((s.size : Int) - (a : Int) < (n : Int)) = false := by simp; omega
 have HF : Hid (∀ k m, Rd (((w.drewN k).setCell ⟨r, 1, none⟩ (.int .i64 ((a : Int) + (n : Int)))).drewN m) r b c s (a + n) false ∧ w.grownBy (((w.drewN k).setCell ⟨r, 1, none⟩ (.int .i64 ((a : Int) + (n : Int)))).drewN m) (some r)) := fun k m => by
  have := ((HR.out.keep (grownBy_drewN _ k none)).setAt (a' := a + n) hn).keep (grownBy_drewN _ m none)
  exact ⟨this, grownBy_trans (grownBy_trans (grownBy_drewN _ k _) (grownBy_setCell _ _ _ _)) (grownBy_drewN _ m _)⟩
 go_enter Tryz.func98, Tryz.ntmps98
 go_wp2_with fail
 go_quiet (fail)
 go_wp2_with fail
 by_cases hca : c = a
 ·go_quiet (fail)
  go_wp2_with fail
  go_ret
  exact ⟨_, _, by rw [Nat.add_sub_cancel_left]; rfl, fun h0 => by omega, HF.out _ _⟩
 ·go_quiet (fail)
  go_wp2_with fail
  go_ret
  exact ⟨_, _, by rw [Nat.add_sub_cancel_left]; rfl, fun _ => rfl, HF.out _ _⟩
theorem or256 {x y : Nat} (hx : x < 256) (hy : y < 256) : bits BinOp.or IntKind.u16 ((x : Int) * 256) (y : Int) = ((x * 256 + y : Nat) : Int) := by
 have h := u16_or_nat (x * 256) y (by omega) (by omega)
 have e : x * 256 ||| y = x * 256 + y := by
  have := Nat.shiftLeft_add_eq_or_of_lt (b := y) (i := 8) (by omega) x
  rw [Nat.shiftLeft_eq] at this
  exact this.symm
 rw [e] at h
 exact h
theorem or65536 {x y : Nat} (hx : x ≤ 65535) (hy : y ≤ 65535) : bits BinOp.or IntKind.u32 ((x : Int) * 65536) (y : Int) = ((x * 65536 + y : Nat) : Int) := by
 have h := u32_or_nat (x * 65536) y (by omega) (by omega)
 have e : x * 65536 ||| y = x * 65536 + y := by
  have := Nat.shiftLeft_add_eq_or_of_lt (b := y) (i := 16) (by omega) x
  rw [Nat.shiftLeft_eq] at this
  exact this.symm
 rw [e] at h
 exact h
theorem stOf_false (a : Nat) : stOf a false = some a := rfl
theorem short_any (w : World) (r b c : Nat) (s : ByteArray) (a : Nat) (bad : Bool) (h : Rd w r b c s a bad) :
  Calls Tryz.prog 67 #[.pointer (some ⟨r, 0, none⟩)] w fun e w' => ∃ x : Int, e = .returned (.int .u16 x) ∧ Hid (0 ≤ x ∧ x ≤ 65535 ∧ Out (num2 s) w w' r b c s a bad x) := by
 have HR := hide h
 clear h
 by_cases hno : bad = true ∨ s.size < a + 2
 ·have HN := hide hno
  clear hno
  go_enter Tryz.func67, Tryz.ntmps67
  go_wp2_with fail
  refine (take_no w r b c s a bad 2 HR.out (by decide) HN.out).mono ?_
  rintro e w1 ⟨rfl, H1⟩
  have hcl := H1.out.1.cell
  go_wp2_with fail
  go_ret
  refine ⟨0, rfl, by decide, by decide, a, true, H1.out.1, H1.out.2, ?_⟩
  rcases HN.out with h | h
  ·rw [h]; exact Ran.bad _ _
  ·cases bad
   ·exact Ran.fail (by unfold num2; rw [if_neg (by omega)]) _
   ·exact Ran.bad _ _
 ·have hb : bad = false := by cases bad; rfl; exact absurd (.inl rfl) hno
  subst hb
  have hn : a + 2 ≤ s.size := by by_cases h : a + 2 ≤ s.size; exact h; exact absurd (.inr (by omega)) hno
  clear hno
  go_enter Tryz.func67, Tryz.ntmps67
  go_wp2_with fail
  refine (take_yes w r b c s a 2 HR.out hn).mono ?_
  rintro e w1 ⟨ad, c1, rfl, H1⟩
  obtain rfl := H1.out.1 (by decide)
  have hcl := H1.out.2.1.cell
  have h0 := H1.out.2.1.bytes a (by omega)
  have h1 := H1.out.2.1.bytes (a + 1) (by omega)
  have l0 := at8_lt s a
  have l1 := at8_lt s (a + 1)
  go_wp2_with fail
  go_quiet (fail)
  go_wp2_with fail
  go_ret
  have hx : bits BinOp.or IntKind.u16 ((at8 s a : Int) * 256) (at8 s (a + 1)) = (n2 s a : Int) := or256 l0 l1
  have hn2 := n2_lt s a
  refine ⟨(n2 s a : Int), ret_int hx, by omega, by omega, a + 2, false, H1.out.2.1.keep (grownBy_drewN _ nq none), grownBy_trans H1.out.2.2 (grownBy_drewN _ nq _), ?_⟩
  exact Ran.good (r := ((n2 s a : Int), a + 2)) (by unfold num2; rw [if_pos hn])
theorem Out.bind {α β : Type} {p : Par α} {f : α → Par β} {w w1 w2 : World} {r b c : Nat} {s : ByteArray} {a : Nat} {bad : Bool} {x : α} {y : β} (h : Out p w w1 r b c s a bad x)
  (k : ∀ a1 bad1, Rd w1 r b c s a1 bad1 → Out (f x) w1 w2 r b c s a1 bad1 y) : Out (p.bind f) w w2 r b c s a bad y := by
 obtain ⟨a1, bad1, h1, h2, h3⟩ := h
 obtain ⟨a2, bad2, k1, k2, k3⟩ := k a1 bad1 h1
 exact ⟨a2, bad2, k1, grownBy_trans h2 k2, h3.bind k3⟩
theorem ran_four {s : ByteArray} {st st1 st2 : Option Nat} {x y z : Int} (h : Ran (num2 s) st x st1) (k : Ran (num2 s) st1 y st2) (hz : ∀ a2, st2 = some a2 → z = x * 65536 + y) : Ran (num4 s) st z st2 := by
 cases st2 with
 | some a2 =>
  obtain ⟨a1, h1, h2⟩ := k.le a2 rfl
  obtain ⟨a0, h3, h4⟩ := h.le a1 h1
  unfold num2 at h2 h4
  split at h2
  ·split at h4
   ·cases h2
    cases h4
    subst h3
    rename_i q1 q2
    have : num4 s a0 = some (z, a0 + 2 + 2) := by
     unfold num4
     rw [if_pos (by omega), hz _ rfl]
     simp [n4]
    exact Ran.good this
   ·cases h4
  ·cases h2
 | none =>
  cases st with
  | none => exact Ran.bad _ _
  | some a0 =>
   refine Ran.fail ?_ _
   unfold num4
   by_cases h0 : a0 + 4 ≤ s.size
   ·exfalso
    have e1 : num2 s a0 = some ((n2 s a0 : Int), a0 + 2) := by unfold num2; rw [if_pos (by omega)]
    have e2 : num2 s (a0 + 2) = some ((n2 s (a0 + 2) : Int), a0 + 2 + 2) := by unfold num2; rw [if_pos (by omega)]
    have h1 := h.1
    simp only [Option.bind_some, e1, Option.map_some] at h1
    have k1 := k.1
    rw [h1] at k1
    simp only [Option.bind_some, e2, Option.map_some] at k1
    cases k1
   ·rw [if_neg h0]
theorem long_any (w : World) (r b c : Nat) (s : ByteArray) (a : Nat) (bad : Bool) (h : Rd w r b c s a bad) :
  Calls Tryz.prog 100 #[.pointer (some ⟨r, 0, none⟩)] w fun e w' => ∃ x : Int, e = .returned (.int .u32 x) ∧ Hid (0 ≤ x ∧ x ≤ 4294967295 ∧ Out (num4 s) w w' r b c s a bad x) := by
 have HR := hide h
 clear h
 go_enter Tryz.func100, Tryz.ntmps100
 go_wp2_with fail
 refine (short_any w r b c s a bad HR.out).mono ?_
 rintro e w1 ⟨x, rfl, H1⟩
 obtain ⟨x0, x1, a1, bad1, R1, G1, Ra1⟩ := H1.out
 have HR1 := hide R1
 have HG1 := hide G1
 have HA1 := hide Ra1
 clear H1 R1 G1 Ra1
 go_wp2_with fail
 refine (short_any w1 r b c s a1 bad1 HR1.out).mono ?_
 rintro e w2 ⟨y, rfl, H2⟩
 obtain ⟨y0, y1, a2, bad2, R2, G2, Ra2⟩ := H2.out
 have HR2 := hide R2
 have HG2 := hide G2
 have HA2 := hide Ra2
 clear H2 R2 G2 Ra2
 go_wp2_with fail
 go_ret
 have hx : bits BinOp.or IntKind.u32 (x * 65536) y = x * 65536 + y := by
  obtain ⟨m, rfl⟩ : ∃ m : Nat, x = m := ⟨x.toNat, by omega⟩
  obtain ⟨k, rfl⟩ : ∃ k : Nat, y = k := ⟨y.toNat, by omega⟩
  rw [or65536 (by omega) (by omega)]
  omega
 exact ⟨x * 65536 + y, ret_int hx, by omega, by omega, a2, bad2, HR2.out, grownBy_trans HG1.out HG2.out, ran_four HA1.out HA2.out fun _ _ => rfl⟩
theorem readName_no (w : World) (b c : Nat) (s : ByteArray) (a : Nat) (hs : s.size ≤ 512) (hsc : s.size ≤ c) (ha : a ≤ s.size) (hbl : b < w.heap.size) (hc : Bytes w b s) (hp : pName s a = none) :
  Calls Tryz.prog 142 #[.slice (some ⟨b, 0, none⟩) s.size c, .int .i64 a] w fun e w' => e = .returned (.tuple #[.string ⟨#[]⟩, .int .i64 0, .bool false]) ∧ Hid (Below w.heap.size w w') :=
 (readName_any w b c s a hs hsc ha hbl hc).mono fun _ _ h => ⟨h.out.1 hp, h.out.2.2⟩
theorem readName_yes (w : World) (b c : Nat) (s : ByteArray) (a : Nat) (hs : s.size ≤ 512) (hsc : s.size ≤ c) (ha : a ≤ s.size) (hbl : b < w.heap.size) (hc : Bytes w b s) (x : ByteArray) (a' : Nat) (hp : pName s a = some (x, a')) :
  Calls Tryz.prog 142 #[.slice (some ⟨b, 0, none⟩) s.size c, .int .i64 a] w fun e w' => e = .returned (.tuple #[.string x, .int .i64 a', .bool true]) ∧ Hid (Below w.heap.size w w') :=
 (readName_any w b c s a hs hsc ha hbl hc).mono fun _ _ h => ⟨h.out.2.1 _ hp, h.out.2.2⟩
theorem name_any (w : World) (r b c : Nat) (s : ByteArray) (a : Nat) (bad : Bool) (h : Rd w r b c s a bad) :
  Calls Tryz.prog 99 #[.pointer (some ⟨r, 0, none⟩)] w fun e w' => ∃ x : ByteArray, e = .returned (.string x) ∧ Hid (x.size ≤ 255 ∧ Out (pName s) w w' r b c s a bad x) := by
 have HR := hide h
 have hs := h.small
 have ha := h.le
 have hcl := h.cell
 have hfr := h.frozen
 clear h
 cases bad
 ·cases hp : pName s a with
  | none =>
   have HP := hide hp
   clear hp
   have HD := hide (HR.out.keep (grownBy_drew w none))
   go_enter Tryz.func99, Tryz.ntmps99
   go_wp2_with fail
   go_region_held3 (fun w' => w'.cell? ⟨r, 0, none⟩ = some (.slice (some ⟨b, 0, none⟩) s.size c) ∧ w'.cell? ⟨r, 1, none⟩ = some (.int .i64 a)) (go_keep)
    (first | (go_at_call 142; refine (readName_no w.drew b c s a hs HD.out.cap ha HD.out.lt HD.out.bytes HP.out).mono ?_; rintro e w1 ⟨rfl, HB1⟩; have HR1 := hide (HD.out.new (Nat.le_refl _) HB1.out); have hcl1 := HR1.out.cell; have hfr1 := HR1.out.frozen))
   go_wp2_with fail
   go_ret
   exact ⟨⟨#[]⟩, rfl, by decide, a, true, HR1.out.setBad, grownBy_trans (grownBy_trans (grownBy_drew _ _) (grownBy_below HB1.out _)) (grownBy_setCell _ _ _ _), Ran.fail HP.out _⟩
  | some q =>
   obtain ⟨x, a'⟩ := q
   have HP := hide hp
   have ha' := (pName_ends hp).1
   have HX := hide (pName_ends hp).2.2
   clear hp
   have HD := hide (HR.out.keep (grownBy_drew w none))
   go_enter Tryz.func99, Tryz.ntmps99
   go_wp2_with fail
   go_region_held3 (fun w' => w'.cell? ⟨r, 0, none⟩ = some (.slice (some ⟨b, 0, none⟩) s.size c) ∧ w'.cell? ⟨r, 1, none⟩ = some (.int .i64 a)) (go_keep)
    (first | (go_at_call 142; refine (readName_yes w.drew b c s a hs HD.out.cap ha HD.out.lt HD.out.bytes x a' HP.out).mono ?_; rintro e w1 ⟨rfl, HB1⟩; have HR1 := hide (HD.out.new (Nat.le_refl _) HB1.out); have hcl1 := HR1.out.cell; have hfr1 := HR1.out.frozen))
   go_wp2_with fail
   go_ret
   exact ⟨x, rfl, HX.out, a', false, HR1.out.setAt ha', grownBy_trans (grownBy_trans (grownBy_drew _ _) (grownBy_below HB1.out _)) (grownBy_setCell _ _ _ _), Ran.good (r := (x, a')) HP.out⟩
 ·go_enter Tryz.func99, Tryz.ntmps99
  go_wp2_with fail
  go_ret
  exact ⟨⟨#[]⟩, rfl, by decide, a, true, HR.out, grownBy_refl _ _, Ran.bad _ _⟩
theorem conv_cut (w : World) (b : Nat) (s : ByteArray) (a n c : Nat) (ad : Addr) (hb : Bytes w b s) (hn : a + n ≤ s.size) (hbl : b < w.heap.size) (had : 0 < n → ad = ⟨b, a, none⟩) :
  (convert 32 9 (.slice (some ad) n c)).run Tryz.prog w = .ok (.string ⟨(cut s a (a + n)).toArray⟩) w := by
 rw [run_convert_bytes_string _ _ _ 5 _ _ _ und_bytes' und_u8' und_string']
 have hlen : (cut s a (a + n)).length = n := by rw [cut_length hn]; omega
 have hload := run_loadCells_list (P := Tryz.prog) w ad (bytesV (cut s a (a + n))) (fun j u hj => by
  have hj2 : j < n := by
   by_cases h : j < n
   ·exact h
   ·rw [List.getElem?_eq_none (by rw [bytesV_length, hlen]; omega)] at hj
    cases hj
  rw [had (by omega)]
  obtain ⟨_, _, hv, _, hc⟩ := hb.lies hbl (i := a) (j := a + n) (c := c) hn (by omega)
  rcases hc with he | ⟨b2, o2, e2, _, hc⟩
  ·have := congrArg List.length he
   rw [List.length_map, bytesV_length, hlen] at this
   simp at this
   omega
  ·injection hv with hv
   rw [← hv] at e2
   cases e2
   have := hc j [u] (by rw [List.getElem?_map, hj]; rfl) 0 u rfl
   have e1 : (⟨b, a, none⟩ : Addr).add j = ⟨b, a + j * 1 + 0, none⟩ := by simp [Addr.add]
   rw [e1]
   exact this)
 rw [bytesV_length, hlen] at hload
 have e1 : bytesV (cut s a (a + n)) = ((cut s a (a + n)).map fun b => (b.toNat : Int)).map (Value.int .u8) := by simp [bytesV]
 rw [e1] at hload
 rw [run_bytesToString w ad n c _ hload]
 congr 2
 have key : ∀ (l : List UInt8) (r : ByteArray), (l.map fun b => (b.toNat : Int)).foldl (fun r n => r.push (UInt8.ofNat n.toNat)) r = ⟨r.data ++ l.toArray⟩ := by
  intro l
  induction l with
  | nil => intro r; simp
  | cons b l ih =>
   intro r
   rw [List.map_cons, List.foldl_cons, ih]
   simp [ByteArray.push]
 rw [key]
 simp
theorem conv_none (w : World) : (convert 32 9 (.slice none 0 0)).run Tryz.prog w = .ok (.string ⟨#[]⟩) w := by
 rw [run_convert_bytes_string _ _ _ 5 _ _ _ und_bytes' und_u8' und_string']
 rfl
theorem data_same {s : ByteArray} {k : Int} {n a a2 : Nat} {bad bad2 : Bool} {x : ByteArray} (hk : named k = true) (h : Ran (pName s) (stOf a bad) x (stOf a2 bad2)) (he : a2 = a + n) : Ran (pData s k n) (stOf a bad) x (stOf a2 bad2) := by
 cases bad with
 | true =>
  have := Ran.none_of h
  rw [this]
  exact Ran.bad _ _
 | false =>
  rw [stOf_false] at h ⊢
  cases hp : pName s a with
  | none =>
   have h1 := h.1
   simp only [Option.bind_some, hp, Option.map_none] at h1
   rw [h1]
   refine Ran.fail ?_ _
   unfold pData
   rw [if_pos hk, hp]
   rfl
  | some r =>
   have h1 := h.1
   have h2 := h.2 r (by simp [hp])
   simp only [Option.bind_some, hp, Option.map_some] at h1
   rw [h1, ← h2]
   have h3 : r.2 = a2 := by
    cases bad2 with
    | true => cases h1
    | false => exact (Option.some.inj h1).symm
   refine Ran.good ?_
   unfold pData
   rw [if_pos hk, hp]
   simp only [Option.bind_some]
   rw [if_pos (by omega)]
theorem data_other {s : ByteArray} {k : Int} {n a a2 : Nat} {bad bad2 : Bool} {x : ByteArray} (hk : named k = true) (h : Ran (pName s) (stOf a bad) x (stOf a2 bad2)) (he : ¬ a2 = a + n) (y : ByteArray) : Ran (pData s k n) (stOf a bad) y none := by
 cases bad with
 | true => exact Ran.bad _ _
 | false =>
  rw [stOf_false] at h ⊢
  refine Ran.fail ?_ _
  unfold pData
  rw [if_pos hk]
  cases hp : pName s a with
  | none => rfl
  | some r =>
   have h1 := h.1
   simp only [Option.bind_some, hp, Option.map_some] at h1
   have h3 : r.2 = a2 := by
    cases bad2 with
    | true => cases h1
    | false => exact (Option.some.inj h1).symm
   simp only [Option.bind_some]
   rw [if_neg (by omega)]
theorem data_any (w : World) (r b c : Nat) (s : ByteArray) (a : Nat) (bad : Bool) (k : Int) (n : Nat) (hn : n ≤ 65535) (h : Rd w r b c s a bad) :
  Calls Tryz.prog 101 #[.pointer (some ⟨r, 0, none⟩), .int .u16 k, .int .i64 n] w fun e w' => ∃ x : ByteArray, e = .returned (.string x) ∧ Hid (x.size ≤ 512 ∧ Out (pData s k n) w w' r b c s a bad x) := by
 have HR := hide h
 have hs := h.small
 have ha := h.le
 have hcl := h.cell
 clear h
 by_cases hk : named k = true
 ·have HK := hide hk
  clear hk
  go_enter Tryz.func101, Tryz.ntmps101
  go_wp2_with fail
  refine (isNameType_any k w).mono ?_
  rintro e w1 ⟨rfl, rfl⟩
  rw [HK.out]
  go_wp2_with fail
  refine (name_any _ r b c s a bad HR.out).mono ?_
  rintro e w2 ⟨x, rfl, H2⟩
  obtain ⟨hx, a2, bad2, R2, G2, Ra2⟩ := H2.out
  have HR2 := hide R2
  have HG2 := hide G2
  have HA2 := hide Ra2
  have hcl2 := R2.cell
  have hfr2 := R2.frozen
  have ha2 := R2.le
  clear H2 R2 G2 Ra2
  by_cases hae : a2 = a + n
  ·have HAE := hide hae
   go_wp2_with fail
   go_ret
   exact ⟨x, rfl, by omega, a2, bad2, HR2.out, HG2.out, data_same HK.out HA2.out HAE.out⟩
  ·have HAE := hide hae
   go_wp2_with fail
   go_ret
   exact ⟨⟨#[]⟩, rfl, by decide, a2, true, HR2.out.setBad, grownBy_trans HG2.out (grownBy_setCell _ _ _ _), data_other HK.out HA2.out HAE.out _⟩
 ·have hk2 : named k = false := by simpa using hk
  have HK := hide hk2
  clear hk hk2
  by_cases hno : bad = true ∨ s.size < a + n
  ·have HN := hide hno
   clear hno
   have hcv := conv_none
   go_enter Tryz.func101, Tryz.ntmps101
   go_wp2_with fail
   refine (isNameType_any k w).mono ?_
   rintro e w1 ⟨rfl, rfl⟩
   rw [HK.out]
   go_wp2_with fail
   refine (take_no _ r b c s a bad n HR.out hn HN.out).mono ?_
   rintro e w2 ⟨rfl, H2⟩
   go_wp2_with fail
   go_ret
   refine ⟨⟨#[]⟩, rfl, by decide, a, true, H2.out.1, H2.out.2, ?_⟩
   rcases HN.out with h | h
   ·rw [h]; exact Ran.bad _ _
   ·cases bad
    ·refine Ran.fail ?_ _
     unfold pData pText
     rw [if_neg (by rw [HK.out]; decide), if_neg (by omega)]
    ·exact Ran.bad _ _
  ·have hb : bad = false := by cases bad; rfl; exact absurd (.inl rfl) hno
   subst hb
   have hn2 : a + n ≤ s.size := by by_cases h : a + n ≤ s.size; exact h; exact absurd (.inr (by omega)) hno
   clear hno
   go_enter Tryz.func101, Tryz.ntmps101
   go_wp2_with fail
   refine (isNameType_any k w).mono ?_
   rintro e w1 ⟨rfl, rfl⟩
   rw [HK.out]
   go_wp2_with fail
   refine (take_yes _ r b c s a n HR.out hn2).mono ?_
   rintro e w2 ⟨ad, c2, rfl, H2⟩
   have hcv := conv_cut w2 b s a n c2 ad H2.out.2.1.bytes hn2 H2.out.2.1.lt H2.out.1
   go_wp2_with fail
   go_ret
   refine ⟨_, rfl, ?_, a + n, false, H2.out.2.1, H2.out.2.2, Ran.good (r := ((⟨(cut s a (a + n)).toArray⟩ : ByteArray), a + n)) ?_⟩
   ·show (cut s a (a + n)).toArray.size ≤ 512
    rw [List.size_toArray, cut_length hn2]
    omega
   ·unfold pData pText
    rw [if_neg (by rw [HK.out]; decide), if_pos hn2]
theorem Rd.aside {w : World} {r b c : Nat} {s : ByteArray} {a : Nat} {bad : Bool} (h : Rd w r b c s a bad) {g : Nat} (j : Nat) (u : Value) (h1 : g ≠ r) (h2 : g ≠ b) : Rd (w.setCell ⟨g, j, none⟩ u) r b c s a bad :=
 ⟨(Below.heap_setCell _ _ _ _ (Ne.symm h1)).trans h.box, h.le, fun k hk => cell_of_heap (Below.heap_setCell _ _ _ _ (Ne.symm h2)) (h.bytes k hk), h.ne, by rw [show (w.setCell ⟨g, j, none⟩ u).heap.size = w.heap.size from by simp [World.setCell]]; exact h.lt, h.cap, h.small⟩
structure QS (w W : World) (r : Nat) (n : ByteArray) (t c : Int) : Prop where
 res : W.heap[w.heap.size]? = some (.cells #[.string ⟨#[]⟩, .int .u16 0, .int .u16 0] 41)
 box : W.heap[w.heap.size + 1]? = some (.cells #[.string n, .int .u16 t, .int .u16 c] 41)
 grown : w.grownBy W (some r)
theorem QS.move {w W W' : World} {r : Nat} {n : ByteArray} {t c : Int} (h : QS w W r n t c) (hr : r < w.heap.size) (hw : W.grownBy W' (some r)) : QS w W' r n t c :=
 ⟨(hw.block _ (heap_lt h.res) (fun e => by have := Option.some.inj e; omega)).trans h.res, (hw.block _ (heap_lt h.box) (fun e => by have := Option.some.inj e; omega)).trans h.box, grownBy_trans h.grown hw⟩
theorem QS.set {w W : World} {r : Nat} {n n' : ByteArray} {t c t' c' : Int} (h : QS w W r n t c) (j : Nat) (u : Value) (he : (#[Value.string n, .int .u16 t, .int .u16 c]).setIfInBounds j u = #[.string n', .int .u16 t', .int .u16 c']) : QS w (W.setCell ⟨w.heap.size + 1, j, none⟩ u) r n' t' c' := by
 refine ⟨?_, ?_, grownBy_trans' h.grown (grownBy_setCell _ _ _ _) (.inr ⟨_, rfl, by omega⟩)⟩
 ·rw [Below.heap_setCell _ _ _ _ (by simp)]
  exact h.res
 ·rw [heap_setCell_eq h.box, he]
theorem question_any (w : World) (r b c : Nat) (s : ByteArray) (a : Nat) (bad : Bool) (h : Rd w r b c s a bad) :
  Calls Tryz.prog 70 #[.pointer (some ⟨r, 0, none⟩)] w fun e w' => ∃ q : Qn, e = .returned (.agg q.cells.toArray) ∧ Hid (WfQ q ∧ Out (pQ s) w w' r b c s a bad q) := by
 have HR := hide h
 have hrl : r < w.heap.size := heap_lt h.box
 have hbl : b < w.heap.size := h.lt
 clear h
 go_enter Tryz.func70, Tryz.ntmps70
 go_wp2_with fail
 have HW0 : Hid (QS w ((w.alloc (Obj.cells #[.string ⟨#[]⟩, .int .u16 0, .int .u16 0] 41)).alloc (Obj.cells #[.string ⟨#[]⟩, .int .u16 0, .int .u16 0] 41)) r ⟨#[]⟩ 0 0) := by
  refine ⟨heap_old (heap_new _ _) _, ?_, grownBy_below (((Below.refl _ _).alloc (Nat.le_refl _) _).alloc (by rw [alloc_size]; omega) _) _⟩
  have := heap_new (w.alloc (Obj.cells #[.string ⟨#[]⟩, .int .u16 0, .int .u16 0] 41)) (Obj.cells #[.string ⟨#[]⟩, .int .u16 0, .int .u16 0] 41)
  rw [alloc_size] at this
  exact this
 have HR0 := hide (HR.out.set HW0.out.grown HR.out.le ((((Below.refl w.heap.size w).alloc (Nat.le_refl _) (Obj.cells #[.string ⟨#[]⟩, .int .u16 0, .int .u16 0] 41)).alloc (by rw [alloc_size]; omega) (Obj.cells #[.string ⟨#[]⟩, .int .u16 0, .int .u16 0] 41)).block r hrl |>.trans HR.out.box))
 generalize ((w.alloc (Obj.cells #[.string ⟨#[]⟩, .int .u16 0, .int .u16 0] 41)).alloc (Obj.cells #[.string ⟨#[]⟩, .int .u16 0, .int .u16 0] 41)) = W0 at HW0 HR0 ⊢
 refine (name_any W0 r b c s a bad HR0.out).mono ?_
 rintro e w1 ⟨x, rfl, H1⟩
 obtain ⟨hx, a1, bad1, R1, G1, Ra1⟩ := H1.out
 have HW1 := hide (HW0.out.move hrl G1)
 have hc1 := box_cells HW1.out.box
 have hf1 := frozen_of_block HW1.out.box
 have HW1b := hide (HW1.out.set 0 (.string x) (n' := x) (t' := 0) (c' := 0) rfl)
 have HR1 := hide (R1.aside 0 (.string x) (g := w.heap.size + 1) (by omega) (by omega))
 have HA1 := hide Ra1
 clear H1 R1 G1 Ra1
 go_wp2_with fail
 generalize (w1.setCell ⟨w.heap.size + 1, 0, none⟩ (.string x)) = W1 at HW1b HR1 ⊢
 clear hc1 hf1
 refine (short_any W1 r b c s a1 bad1 HR1.out).mono ?_
 rintro e w2 ⟨t, rfl, H2⟩
 obtain ⟨t0, t1, a2, bad2, R2, G2, Ra2⟩ := H2.out
 have HW2 := hide (HW1b.out.move hrl G2)
 have hc2 := box_cells HW2.out.box
 have hf2 := frozen_of_block HW2.out.box
 have HW2b := hide (HW2.out.set 1 (.int .u16 t) (n' := x) (t' := t) (c' := 0) rfl)
 have HR2 := hide (R2.aside 1 (.int .u16 t) (g := w.heap.size + 1) (by omega) (by omega))
 have HA2 := hide Ra2
 clear H2 R2 G2 Ra2
 go_wp2_with fail
 generalize (w2.setCell ⟨w.heap.size + 1, 1, none⟩ (.int .u16 t)) = W2 at HW2b HR2 ⊢
 clear hc2 hf2
 refine (short_any W2 r b c s a2 bad2 HR2.out).mono ?_
 rintro e w3 ⟨k, rfl, H3⟩
 obtain ⟨k0, k1, a3, bad3, R3, G3, Ra3⟩ := H3.out
 have HW3 := hide (HW2b.out.move hrl G3)
 have hc3 := box_cells HW3.out.box
 have hf3 := frozen_of_block HW3.out.box
 have HW3b := hide (HW3.out.set 2 (.int .u16 k) (n' := x) (t' := t) (c' := k) rfl)
 have HR3 := hide (R3.aside 2 (.int .u16 k) (g := w.heap.size + 1) (by omega) (by omega))
 have HA3 := hide Ra3
 clear H3 R3 G3 Ra3
 have hcr := box_cells HW3.out.res
 have hfr := frozen_of_block HW3.out.res
 go_wp2_with fail
 generalize (w3.setCell ⟨w.heap.size + 1, 2, none⟩ (.int .u16 k)) = W3 at HW3b HR3 ⊢
 have g0 := heap_setCell_eq (j := 0) HW3b.out.res (.string x)
 have g1 := heap_setCell_eq (j := 1) g0 (.int .u16 t)
 have g2 := heap_setCell_eq (j := 2) g1 (.int .u16 k)
 refine bodyPost_ret (results_cell_row rfl _ _ w.heap.size _ _ _ _ rfl g2 undQ rfl (by kernel_rfl)) rfl ?_
 refine ⟨⟨x, t, k⟩, rfl, ⟨by dsimp only; omega, t0, t1, k0, k1⟩, a3, bad3, ((HR3.out.aside 0 _ (by omega) (by omega)).aside 1 _ (by omega) (by omega)).aside 2 _ (by omega) (by omega), ?_, HA1.out.bind (HA2.out.bind (HA3.out.bind (Ran.pure _ _)))⟩
 have k0 := grownBy_trans' HW3b.out.grown (grownBy_setCell W3 w.heap.size 0 (.string x)) (.inr ⟨_, rfl, Nat.le_refl _⟩)
 have k1 := grownBy_trans' k0 (grownBy_setCell _ w.heap.size 1 (.int .u16 t)) (.inr ⟨_, rfl, Nat.le_refl _⟩)
 exact grownBy_trans' k1 (grownBy_setCell _ w.heap.size 2 (.int .u16 k)) (.inr ⟨_, rfl, Nat.le_refl _⟩)
theorem wrap_small {m : Int} (h0 : 0 ≤ m) (h1 : m ≤ 65535) : IntKind.i64.wrap m = ((m.toNat : Nat) : Int) := by
 rw [IntKind.wrap_i64]
 omega
structure RS (w W : World) (r : Nat) (n : ByteArray) (t c l : Int) (d : ByteArray) : Prop where
 res : W.heap[w.heap.size]? = some (.cells #[.string ⟨#[]⟩, .int .u16 0, .int .u16 0, .int .u32 0, .string ⟨#[]⟩] 69)
 box : W.heap[w.heap.size + 1]? = some (.cells #[.string n, .int .u16 t, .int .u16 c, .int .u32 l, .string d] 69)
 grown : w.grownBy W (some r)
theorem RS.move {w W W' : World} {r : Nat} {n d : ByteArray} {t c l : Int} (h : RS w W r n t c l d) (hr : r < w.heap.size) (hw : W.grownBy W' (some r)) : RS w W' r n t c l d :=
 ⟨(hw.block _ (heap_lt h.res) (fun e => by have := Option.some.inj e; omega)).trans h.res, (hw.block _ (heap_lt h.box) (fun e => by have := Option.some.inj e; omega)).trans h.box, grownBy_trans h.grown hw⟩
theorem RS.set {w W : World} {r : Nat} {n n' d d' : ByteArray} {t c l t' c' l' : Int} (h : RS w W r n t c l d) (j : Nat) (u : Value) (he : (#[Value.string n, .int .u16 t, .int .u16 c, .int .u32 l, .string d]).setIfInBounds j u = #[.string n', .int .u16 t', .int .u16 c', .int .u32 l', .string d']) : RS w (W.setCell ⟨w.heap.size + 1, j, none⟩ u) r n' t' c' l' d' := by
 refine ⟨?_, ?_, grownBy_trans' h.grown (grownBy_setCell _ _ _ _) (.inr ⟨_, rfl, by omega⟩)⟩
 ·rw [Below.heap_setCell _ _ _ _ (by simp)]
  exact h.res
 ·rw [heap_setCell_eq h.box, he]
theorem record_any (w : World) (r b c : Nat) (s : ByteArray) (a : Nat) (bad : Bool) (h : Rd w r b c s a bad) :
  Calls Tryz.prog 72 #[.pointer (some ⟨r, 0, none⟩)] w fun e w' => ∃ q : Rc, e = .returned (.agg q.cells.toArray) ∧ Hid (WfR q ∧ Out (pR s) w w' r b c s a bad q) := by
 have HR := hide h
 have hrl : r < w.heap.size := heap_lt h.box
 have hbl : b < w.heap.size := h.lt
 clear h
 go_enter Tryz.func72, Tryz.ntmps72
 go_wp2_with fail
 have HW0 : Hid (RS w ((w.alloc (Obj.cells #[.string ⟨#[]⟩, .int .u16 0, .int .u16 0, .int .u32 0, .string ⟨#[]⟩] 69)).alloc (Obj.cells #[.string ⟨#[]⟩, .int .u16 0, .int .u16 0, .int .u32 0, .string ⟨#[]⟩] 69)) r ⟨#[]⟩ 0 0 0 ⟨#[]⟩) := by
  refine ⟨heap_old (heap_new _ _) _, ?_, grownBy_below (((Below.refl _ _).alloc (Nat.le_refl _) _).alloc (by rw [alloc_size]; omega) _) _⟩
  have := heap_new (w.alloc (Obj.cells #[.string ⟨#[]⟩, .int .u16 0, .int .u16 0, .int .u32 0, .string ⟨#[]⟩] 69)) (Obj.cells #[.string ⟨#[]⟩, .int .u16 0, .int .u16 0, .int .u32 0, .string ⟨#[]⟩] 69)
  rw [alloc_size] at this
  exact this
 have HR0 := hide (HR.out.set HW0.out.grown HR.out.le ((((Below.refl w.heap.size w).alloc (Nat.le_refl _) (Obj.cells #[.string ⟨#[]⟩, .int .u16 0, .int .u16 0, .int .u32 0, .string ⟨#[]⟩] 69)).alloc (by rw [alloc_size]; omega) (Obj.cells #[.string ⟨#[]⟩, .int .u16 0, .int .u16 0, .int .u32 0, .string ⟨#[]⟩] 69)).block r hrl |>.trans HR.out.box))
 generalize ((w.alloc (Obj.cells #[.string ⟨#[]⟩, .int .u16 0, .int .u16 0, .int .u32 0, .string ⟨#[]⟩] 69)).alloc (Obj.cells #[.string ⟨#[]⟩, .int .u16 0, .int .u16 0, .int .u32 0, .string ⟨#[]⟩] 69)) = W0 at HW0 HR0 ⊢
 refine (name_any W0 r b c s a bad HR0.out).mono ?_
 rintro e w1 ⟨x, rfl, H1⟩
 obtain ⟨hx, a1, bad1, R1, G1, Ra1⟩ := H1.out
 have HW1 := hide (HW0.out.move hrl G1)
 have hc1 := box_cells HW1.out.box
 have hf1 := frozen_of_block HW1.out.box
 have HW1b := hide (HW1.out.set 0 (.string x) (n' := x) (t' := 0) (c' := 0) (l' := 0) (d' := ⟨#[]⟩) rfl)
 have HR1 := hide (R1.aside 0 (.string x) (g := w.heap.size + 1) (by omega) (by omega))
 have HA1 := hide Ra1
 clear H1 R1 G1 Ra1
 go_wp2_with fail
 generalize (w1.setCell ⟨w.heap.size + 1, 0, none⟩ (.string x)) = W1 at HW1b HR1 ⊢
 clear hc1 hf1
 refine (short_any W1 r b c s a1 bad1 HR1.out).mono ?_
 rintro e w2 ⟨t, rfl, H2⟩
 obtain ⟨t0, t1, a2, bad2, R2, G2, Ra2⟩ := H2.out
 have HW2 := hide (HW1b.out.move hrl G2)
 have hc2 := box_cells HW2.out.box
 have hf2 := frozen_of_block HW2.out.box
 have HW2b := hide (HW2.out.set 1 (.int .u16 t) (n' := x) (t' := t) (c' := 0) (l' := 0) (d' := ⟨#[]⟩) rfl)
 have HR2 := hide (R2.aside 1 (.int .u16 t) (g := w.heap.size + 1) (by omega) (by omega))
 have HA2 := hide Ra2
 clear H2 R2 G2 Ra2
 go_wp2_with fail
 generalize (w2.setCell ⟨w.heap.size + 1, 1, none⟩ (.int .u16 t)) = W2 at HW2b HR2 ⊢
 clear hc2 hf2
 refine (short_any W2 r b c s a2 bad2 HR2.out).mono ?_
 rintro e w3 ⟨k, rfl, H3⟩
 obtain ⟨k0, k1, a3, bad3, R3, G3, Ra3⟩ := H3.out
 have HW3 := hide (HW2b.out.move hrl G3)
 have hc3 := box_cells HW3.out.box
 have hf3 := frozen_of_block HW3.out.box
 have HW3b := hide (HW3.out.set 2 (.int .u16 k) (n' := x) (t' := t) (c' := k) (l' := 0) (d' := ⟨#[]⟩) rfl)
 have HR3 := hide (R3.aside 2 (.int .u16 k) (g := w.heap.size + 1) (by omega) (by omega))
 have HA3 := hide Ra3
 clear H3 R3 G3 Ra3
 go_wp2_with fail
 generalize (w3.setCell ⟨w.heap.size + 1, 2, none⟩ (.int .u16 k)) = W3 at HW3b HR3 ⊢
 clear hc3 hf3
 refine (long_any W3 r b c s a3 bad3 HR3.out).mono ?_
 rintro e w4 ⟨l, rfl, H4⟩
 obtain ⟨l0, l1, a4, bad4, R4, G4, Ra4⟩ := H4.out
 have HW4 := hide (HW3b.out.move hrl G4)
 have hc4 := box_cells HW4.out.box
 have hf4 := frozen_of_block HW4.out.box
 have HW4b := hide (HW4.out.set 3 (.int .u32 l) (n' := x) (t' := t) (c' := k) (l' := l) (d' := ⟨#[]⟩) rfl)
 have HR4 := hide (R4.aside 3 (.int .u32 l) (g := w.heap.size + 1) (by omega) (by omega))
 have HA4 := hide Ra4
 clear H4 R4 G4 Ra4
 go_wp2_with fail
 generalize (w4.setCell ⟨w.heap.size + 1, 3, none⟩ (.int .u32 l)) = W4 at HW4b HR4 ⊢
 clear hc4 hf4
 have hc5 := box_cells HW4b.out.box
 have HD := hide (HR4.out.keep (grownBy_drew W4 none))
 have HWD := hide (HW4b.out.move hrl (grownBy_drew W4 _))
 go_region_held3 (fun w' => w'.cell? ⟨w.heap.size + 1, 1, none⟩ = some (.int .u16 t)) (first | (go_keep; done) | (rw [hc8]; rfl))
  (first | (go_at_call 67; refine (short_any W4.drew r b c s a4 bad4 HD.out).mono ?_; rintro e w5 ⟨m, rfl, H5⟩; obtain ⟨m0, m1, a5, bad5, R5, G5, Ra5⟩ := H5.out; have HR5 := hide R5; have HA5 := hide Ra5; have HW5 := hide (HWD.out.move hrl G5); have hc6 := box_cells HW5.out.box; clear H5 R5 G5 Ra5) | (go_at_call 101; rw [wrap_small m0 m1]; refine (data_any w5 r b c s a5 bad5 t m.toNat (by omega) HR5.out).mono ?_; rintro e w6 ⟨d, rfl, H6⟩; obtain ⟨hd6, a6, bad6, R6, G6, Ra6⟩ := H6.out; have HR6 := hide R6; have HA6 := hide Ra6; have HW6 := hide (HW5.out.move hrl G6); have hc7 := box_cells HW6.out.box; have hf7 := frozen_of_block HW6.out.box; have hc8 := box_cells (HW6.out.set 4 (.string d) (n' := x) (t' := t) (c' := k) (l' := l) (d' := d) rfl).box; clear H6 R6 G6 Ra6))
 have hcr := box_cells HW6.out.res
 have hfr := frozen_of_block HW6.out.res
 have HW6b := hide (HW6.out.set 4 (.string d) (n' := x) (t' := t) (c' := k) (l' := l) (d' := d) rfl)
 have HR6b := hide (HR6.out.aside 4 (.string d) (g := w.heap.size + 1) (by omega) (by omega))
 go_wp2_with fail
 generalize (w6.setCell ⟨w.heap.size + 1, 4, none⟩ (.string d)) = W6 at HW6b HR6b ⊢
 have g0 := heap_setCell_eq (j := 0) HW6b.out.res (.string x)
 have g1 := heap_setCell_eq (j := 1) g0 (.int .u16 t)
 have g2 := heap_setCell_eq (j := 2) g1 (.int .u16 k)
 have g3 := heap_setCell_eq (j := 3) g2 (.int .u32 l)
 have g4 := heap_setCell_eq (j := 4) g3 (.string d)
 refine bodyPost_ret (results_cell_row rfl _ _ w.heap.size _ _ _ _ rfl g4 undR rfl (by kernel_rfl)) rfl ?_
 refine ⟨⟨x, t, k, l, d⟩, rfl, ⟨by dsimp only; omega, by dsimp only; omega, t0, t1, k0, k1, l0, l1⟩, a6, bad6, ((((HR6b.out.aside 0 _ (by omega) (by omega)).aside 1 _ (by omega) (by omega)).aside 2 _ (by omega) (by omega)).aside 3 _ (by omega) (by omega)).aside 4 _ (by omega) (by omega), ?_,
  HA1.out.bind (HA2.out.bind (HA3.out.bind (HA4.out.bind (HA5.out.bind (HA6.out.bind (Ran.pure _ _))))))⟩
 have q0 := grownBy_trans' HW6b.out.grown (grownBy_setCell W6 w.heap.size 0 (.string x)) (.inr ⟨_, rfl, Nat.le_refl _⟩)
 have q1 := grownBy_trans' q0 (grownBy_setCell _ w.heap.size 1 (.int .u16 t)) (.inr ⟨_, rfl, Nat.le_refl _⟩)
 have q2 := grownBy_trans' q1 (grownBy_setCell _ w.heap.size 2 (.int .u16 k)) (.inr ⟨_, rfl, Nat.le_refl _⟩)
 have q3 := grownBy_trans' q2 (grownBy_setCell _ w.heap.size 3 (.int .u32 l)) (.inr ⟨_, rfl, Nat.le_refl _⟩)
 exact grownBy_trans' q3 (grownBy_setCell _ w.heap.size 4 (.string d)) (.inr ⟨_, rfl, Nat.le_refl _⟩)
end Go.Proofs.YtafoepfhepdcoaaGreat
