import Derived.Test.YtafoepfhepdcoaaGreatM16
import Derived.Test.YtafoepfhepdcoaaGreatM17
set_option maxRecDepth 100000
set_option maxHeartbeats 8000000
namespace Go.Proofs.YtafoepfhepdcoaaGreat
open Go.RowKit Go.Trawl
structure In (w : World) (r : Nat) (s : ByteArray) (a : Nat) (bad : Bool) : Prop where
 box : w.heap[r]? = some (.cells #[.string s, .int .i64 a, .bool bad] 203)
 le : a ≤ s.size
 small : s.size ≤ 512
def OutI {α : Type} (p : Par α) (w w' : World) (r : Nat) (s : ByteArray) (a : Nat) (bad : Bool) (x : α) : Prop := ∃ a' bad', In w' r s a' bad' ∧ w.grownBy w' (some r) ∧ Ran p (stOf a bad) x (stOf a' bad')
theorem In.cell {w : World} {r : Nat} {s : ByteArray} {a : Nat} {bad : Bool} (h : In w r s a bad) : ∀ o, w.cell? ⟨r, o, none⟩ = #[Value.string s, .int .i64 a, .bool bad][o]? := bc_ h.box
theorem In.frozen {w : World} {r : Nat} {s : ByteArray} {a : Nat} {bad : Bool} (h : In w r s a bad) : ∀ o, w.frozen? ⟨r, o, none⟩ = false := fz_ h.box
theorem In.grow {w w' : World} {r : Nat} {s : ByteArray} {a : Nat} {bad : Bool} (h : In w r s a bad) {row : Option Nat} (hw : w.grownBy w' row) (h1 : row ≠ some r) : In w' r s a bad :=
 ⟨(hw.block r (hl_ h.box) (Ne.symm h1)).trans h.box, h.le, h.small⟩
theorem In.drewN {w : World} {r : Nat} {s : ByteArray} {a : Nat} {bad : Bool} (h : In w r s a bad) (n : Nat) : In (w.drewN n) r s a bad := h.grow (gd_ _ n none) (by simp)
theorem In.setBad {w : World} {r : Nat} {s : ByteArray} {a : Nat} {bad : Bool} (h : In w r s a bad) (b : Bool) : In (w.setCell ⟨r, 2, none⟩ (.bool b)) r s a b :=
 ⟨by rw [hs_ h.box]; rfl, h.le, h.small⟩
theorem In.setAt {w : World} {r : Nat} {s : ByteArray} {a a' : Nat} {bad : Bool} (h : In w r s a bad) (ha : a' ≤ s.size) : In (w.setCell ⟨r, 1, none⟩ (.int .i64 a')) r s a' bad :=
 ⟨by rw [hs_ h.box]; rfl, ha, h.small⟩
theorem idx (s : ByteArray) (i : Nat) (hi : i < s.size) (W : World) : (Instr.index 9 (.string s) (.int .i64 (i : Int))).run Tryz.prog W = .ok (.int .u8 (at8 s i)) W := by
 have hu : Tryz.prog.underlying 9 = some .string := by kernel_rfl
 have e : s[i]? = some s[i] := getElem?_pos s i hi
 have e2 : ((i : Int)).toNat = i := by omega
 rw [run_index_string (P := Tryz.prog) (h := hu)]
 simp [at8_eq s i hi]
 intro h
 omega
def be (s : ByteArray) (a : Nat) : Nat → Nat
 | 0 => 0
 | k + 1 => be s a k * 256 + at8 s (a + k)
def numB (s : ByteArray) (k : Nat) : Par Int := fun a => if a + k ≤ s.size then some ((be s a k : Int), a + k) else none
theorem numB_two (s : ByteArray) : numB s 2 = num2 s := by
 funext a
 unfold numB num2
 simp [be, n2]
theorem numB_four (s : ByteArray) : numB s 4 = num4 s := by
 funext a
 unfold numB num4
 have : be s a 4 = n4 s a := by simp only [be, n4, n2, Nat.add_assoc, Nat.add_zero, Nat.reduceAdd]; omega
 rw [this]
theorem be_le (s : ByteArray) (a : Nat) : ∀ k, k ≤ 4 → be s a k ≤ 4294967295 := by
 intro k hk
 have h0 := at8_lt s a
 have h1 := at8_lt s (a + 1)
 have h2 := at8_lt s (a + 2)
 have h3 := at8_lt s (a + 3)
 rcases (show k = 0 ∨ k = 1 ∨ k = 2 ∨ k = 3 ∨ k = 4 from by omega) with rfl | rfl | rfl | rfl | rfl <;> simp only [be, Nat.add_zero] <;> omega
theorem numberI (w : World) (r : Nat) (s : ByteArray) (a : Nat) (bad : Bool) (n : Nat) (hn : n ≤ 4) (h : In w r s a bad) :
  Calls Tryz.prog 127 #[.pointer (some ⟨r, 0, none⟩), .int .i64 n] w fun e w' => ∃ x : Nat, e = .returned (.int .i64 x) ∧ Hid ((x = 0 ∨ x = be s a n) ∧ OutI (numB s n) w w' r s a bad x) := by
 have HR := hide h
 have hs := h.small
 have ha := h.le
 have hcl := h.cell
 have hfr := h.frozen
 clear h
 have HF : Hid (∀ k, In ((w.drewN k).setCell ⟨r, 2, none⟩ (.bool true)) r s a true ∧ w.grownBy ((w.drewN k).setCell ⟨r, 2, none⟩ (.bool true)) (some r)) := fun k => ⟨(HR.out.drewN k).setBad true, gt_ (gd_ _ k _) (gs_ _ _ _ _)⟩
 cases bad
 ·by_cases hlt : s.size < a + n
  ·have hd : decide ((s.size : Int) < (a : Int) + (n : Int)) = true := by simp; omega
   go_enter Tryz.func127, Tryz.ntmps127
   go_wp2_with fail
   go_quiet (fail)
   go_wp2_with fail
   go_ret
   exact ⟨0, rfl, .inl rfl, a, true, (HF.out nq).1, (HF.out nq).2, Ran.fail (by unfold numB; rw [if_neg (by omega)]) _⟩
  ·have hd : decide ((s.size : Int) < (a : Int) + (n : Int)) = false := by simp; omega
   go_enter Tryz.func127, Tryz.ntmps127
   go_wp2_with fail
   go_quiet (fail)
   go_wp2_with fail
   go_loopw [5, 6] (fun v i wr => ∃ (k m : Nat), v = .int .i64 (be s a k) ∧ i = .int .i64 k ∧ k ≤ n ∧ wr = w.drewN m) (fun _ i _ => n - (intOf i).toNat)
   case atStart => exact ⟨0, nq, rfl, rfl, Nat.zero_le _, rfl⟩
   case round =>
    obtain ⟨k, m, rfl, rfl, hk, rfl⟩ := hrel
    have hbe := be_le s a k (by omega)
    by_cases hkn : k < n
    ·have hix : a + k < s.size := by omega
     have hix2 : (a : Int) + (k : Int) < (s.size : Int) := by omega
     have hw1 : IntKind.i64.wrap ((a : Int) + (k : Int)) = ((a + k : Nat) : Int) := by rw [IntKind.wrap_i64]; omega
     have hidx : ∀ W, (Instr.index 9 (.string s) (.int .i64 ((a : Int) + (k : Int)))).run Tryz.prog W = .ok (.int .u8 (at8 s (a + k))) W := fun W => by
      have := idx s (a + k) hix W
      rwa [Int.natCast_add] at this
     have hl8 := at8_lt s (a + k)
     have hw3 : IntKind.i64.wrap ((be s a k : Int) * 256 + (at8 s (a + k) : Int)) = ((be s a (k + 1) : Nat) : Int) := by rw [IntKind.wrap_i64]; simp only [be]; omega
     have hw2 : IntKind.i64.wrap ((be s a k : Int) * 256) = ((be s a k * 256 : Nat) : Int) := by rw [IntKind.wrap_i64]; omega
     go_wp2_with fail
     go_quiet (fail)
     go_wp2_with fail
     exact ⟨⟨k + 1, m + nq, rfl, by go_num, by omega, rfl⟩, by simp [intOf]; omega⟩
    ·go_wp2_with fail
     go_ret
     have e : k = n := by omega
     subst e
     exact ⟨be s a k, rfl, .inr rfl, a + k, false, (HR.out.drewN m).setAt (by omega), gt_ (gd_ _ m _) (gs_ _ _ _ _), Ran.good (r := ((be s a k : Int), a + k)) (by unfold numB; rw [if_pos (by omega)])⟩
 ·go_enter Tryz.func127, Tryz.ntmps127
  go_wp2_with fail
  go_quiet (fail)
  go_wp2_with fail
  go_ret
  exact ⟨0, rfl, .inl rfl, a, true, (HF.out nq).1, (HF.out nq).2, Ran.bad _ _⟩
theorem ext_cut (s : ByteArray) (i j : Nat) : s.extract i j = ⟨(cut s i j).toArray⟩ := by
 apply ByteArray.ext
 apply Array.ext'
 simp [cut, List.extract]
theorem slc (s : ByteArray) (i n : Nat) (hi : i + n ≤ s.size) (W : World) : (Instr.slice 9 (.string s) (some (.int .i64 (i : Int))) (some (.int .i64 ((i : Int) + (n : Int)))) none).run Tryz.prog W = .ok (.string ⟨(cut s i (i + n)).toArray⟩) W := by
 have hu : Tryz.prog.underlying 9 = some .string := by kernel_rfl
 have hr := run_slice_string (P := Tryz.prog) W 9 s .i64 .i64 (i : Int) ((i : Int) + (n : Int)) hu (by omega) (by omega) (by omega)
 rw [hr]
 have e1 : ((i : Int)).toNat = i := by omega
 have e2 : ((i : Int) + (n : Int)).toNat = i + n := by omega
 rw [e1, e2, ext_cut]
theorem textI (w : World) (r : Nat) (s : ByteArray) (a : Nat) (bad : Bool) (n : Nat) (hn : n ≤ 65535) (h : In w r s a bad) :
  Calls Tryz.prog 176 #[.pointer (some ⟨r, 0, none⟩), .int .i64 n] w fun e w' => ∃ x : ByteArray, e = .returned (.string x) ∧ Hid (x.size ≤ 512 ∧ OutI (pText s n) w w' r s a bad x) := by
 have HR := hide h
 have hs := h.small
 have ha := h.le
 have hcl := h.cell
 have hfr := h.frozen
 clear h
 have HF : Hid (∀ k, In ((w.drewN k).setCell ⟨r, 2, none⟩ (.bool true)) r s a true ∧ w.grownBy ((w.drewN k).setCell ⟨r, 2, none⟩ (.bool true)) (some r)) := fun k => ⟨(HR.out.drewN k).setBad true, gt_ (gd_ _ k _) (gs_ _ _ _ _)⟩
 cases bad
 ·by_cases hlt : s.size < a + n
  ·have hd : decide ((s.size : Int) < (a : Int) + (n : Int)) = true := by simp; omega
   go_enter Tryz.func176, Tryz.ntmps176
   go_wp2_with fail
   go_quiet (fail)
   go_wp2_with fail
   go_ret
   exact ⟨⟨#[]⟩, rfl, by decide, a, true, (HF.out nq).1, (HF.out nq).2, Ran.fail (by unfold pText; rw [if_neg (by omega)]) _⟩
  ·have hd : decide ((s.size : Int) < (a : Int) + (n : Int)) = false := by simp; omega
   have hsl := slc s a n (by omega)
   have hw1 : IntKind.i64.wrap ((a : Int) + (n : Int)) = (a : Int) + (n : Int) := by rw [IntKind.wrap_i64]; omega
   go_enter Tryz.func176, Tryz.ntmps176
   go_wp2_with fail
   go_quiet (fail)
   go_wp2_with fail
   go_quiet (fail)
   go_wp2_with fail
   go_ret
   refine ⟨_, rfl, ?_, a + n, false, (HR.out.drewN _).setAt (by omega), gt_ (gd_ _ _ _) (gs_ _ _ _ _), Ran.good (r := ((⟨(cut s a (a + n)).toArray⟩ : ByteArray), a + n)) ?_⟩
   ·show (cut s a (a + n)).toArray.size ≤ 512
    rw [List.size_toArray, cut_length (by omega)]
    omega
   ·unfold pText
    rw [if_pos (by omega)]
 ·go_enter Tryz.func176, Tryz.ntmps176
  go_wp2_with fail
  go_quiet (fail)
  go_wp2_with fail
  go_ret
  exact ⟨⟨#[]⟩, rfl, by decide, a, true, (HF.out nq).1, (HF.out nq).2, Ran.bad _ _⟩
theorem letter_any (c : Nat) (hc : c < 256) (w : World) :
  Calls Tryz.prog 133 #[.int .u8 c] w fun e w' => e = .returned (.int .u8 (low c)) ∧ w' = w := by
 by_cases h1 : 65 ≤ c
 ·by_cases h2 : c ≤ 90
  ·have HL : Hid (((low c : Nat) : Int) = (c : Int) + 32) := by unfold Hid low; rw [if_pos ⟨h1, h2⟩]; omega
   go_enter Tryz.func133, Tryz.ntmps133
   go_wp2
   go_ret
   exact ⟨ret_int (by rw [HL.out]), rfl⟩
  ·have HL : Hid (low c = c) := by unfold Hid low; rw [if_neg (by omega)]
   go_enter Tryz.func133, Tryz.ntmps133
   go_wp2
   go_ret
   exact ⟨ret_int (by rw [HL.out]), rfl⟩
 ·have HL : Hid (low c = c) := by unfold Hid low; rw [if_neg (by omega)]
  go_enter Tryz.func133, Tryz.ntmps133
  go_wp2
  go_ret
  exact ⟨ret_int (by rw [HL.out]), rfl⟩
theorem refSame_any (a b : ByteArray) (ha : a.size ≤ 2097152) (w : World) :
  Calls Tryz.prog 90 #[.string a, .string b] w fun e w' => e = .returned (.bool (sameB a b)) ∧ ∃ n, w' = w.drewN n := by
 by_cases hsz : a.size = b.size
 ·have HT : Hid ((∀ i, i < a.size → low (at8 a i) = low (at8 b i)) → sameB a b = true) := fun h => sameB_true hsz h
  go_enter Tryz.func90, Tryz.ntmps90
  go_wp2_with fail
  go_loopw [5] (fun i wr => ∃ k : Nat, i = .int .i64 k ∧ k ≤ a.size ∧ Hid (∃ n, wr = w.drewN n) ∧ Hid (∀ i, i < k → low (at8 a i) = low (at8 b i))) (fun i _ => a.size - (intOf i).toNat)
  case atStart => exact ⟨0, rfl, Nat.zero_le _, ⟨0, rfl⟩, fun i hi => by omega⟩
  case round =>
   obtain ⟨k, rfl, hk, HW, HE⟩ := hrel
   by_cases hlt : k < a.size
   ·have hidx := idx a k hlt
    have hidx2 := idx b k (by omega)
    have l1 := at8_lt a k
    have l2 := at8_lt b k
    have hltb : k < b.size := by omega
    go_wp2_with fail
    go_quiet ((go_at_call 133; exact Calls.quiet_of_same (letter_any _ (by omega) _)))
    by_cases he : low (at8 a k) = low (at8 b k)
    ·have HE2 := hide he
     go_wp2_with fail
     refine ⟨⟨k + 1, by go_num, by omega, ?_, fun i hi => ?_⟩, by simp [intOf]; omega⟩
     ·obtain ⟨n, hn⟩ := HW.out
      exact ⟨n + nq, by rw [hn, World.drewN_drewN]⟩
     ·by_cases hik : i = k
      ·rw [hik]; exact HE2.out
      ·exact HE.out i (by omega)
    ·have HF : Hid (sameB a b = false) := sameB_at hlt he
     have hb9 : ((low (at8 a k) : Int) != (low (at8 b k) : Int)) = true := by simp; omega
     go_wp2_with fail
     go_ret
     obtain ⟨n, hn⟩ := HW.out
     exact ⟨ret_bool HF.out.symm, n + nq, by rw [hn, World.drewN_drewN]⟩
   ·go_wp2_with fail
    go_ret
    exact ⟨ret_bool (HT.out (fun i hi => HE.out i (by omega))).symm, HW.out⟩
 ·have HF : Hid (sameB a b = false) := sameB_size hsz
  go_enter Tryz.func90, Tryz.ntmps90
  go_wp2_with fail
  go_ret
  exact ⟨ret_bool HF.out.symm, 0, rfl⟩
theorem liesN_step {name zone : ByteArray} {i : Nat} (h : NameAt name i) : liesN name zone name.size i = (sameB (from_ name i) zone || (decide (at8 name i ≠ 0) && liesN name zone name.size (i + 1 + at8 name i))) := by
 obtain ⟨m, hm⟩ : ∃ m, name.size = m + 1 := ⟨name.size - 1, by have := h.lt; omega⟩
 have e : liesN name zone name.size i = liesN name zone (m + 1) i := by rw [hm]
 rw [e]
 conv => lhs; unfold liesN
 by_cases h0 : at8 name i = 0
 ·simp [h0]
 ·have hx := (h.next h0).1
  rw [liesN_enough name zone m name.size _ hx (by omega) (by omega)]
theorem refLies_any (name zone : ByteArray) (hn : nameB name = true) (w : World) :
  Calls Tryz.prog 138 #[.string name, .string zone] w fun e w' => e = .returned (.bool (liesB name zone)) ∧ ∃ n, w' = w.drewN n := by
 have hsz := nameB_size hn
 have H0 : Hid (liesB name zone = liesN name zone name.size 0) := liesN_enough name zone _ _ _ (nameB_at hn) (by omega) (by omega)
 have HN0 := hide (nameB_at hn)
 clear hn
 go_enter Tryz.func138, Tryz.ntmps138
 go_wp2_with fail
 go_loopw [5] (fun i wr => ∃ k : Nat, i = .int .i64 k ∧ k < name.size ∧ Hid (NameAt name k) ∧ Hid (∃ n, wr = w.drewN n) ∧ Hid (liesB name zone = liesN name zone name.size k)) (fun i _ => name.size - (intOf i).toNat)
 case atStart => exact ⟨0, rfl, by omega, HN0.out, ⟨0, rfl⟩, H0.out⟩
 case round =>
  obtain ⟨k, rfl, hk, HN, HW, HL⟩ := hrel
  have hidx := idx name k hk
  have l1 := at8_lt name k
  go_wp2_with fail
  have HX : Hid ((name.extract k name.size).size ≤ 2097152) := by unfold Hid; rw [ByteArray.size_extract]; omega
  refine (refSame_any (name.extract k name.size) zone HX.out wr).mono ?_
  rintro e w1 ⟨rfl, n1, hw1⟩
  have HW1 : Hid (∃ n, w1 = w.drewN n) := by
   obtain ⟨n, hn⟩ := HW.out
   exact ⟨n + n1, by rw [hw1, hn, World.drewN_drewN]⟩
  have HS : Hid (liesB name zone = (sameB (name.extract k name.size) zone || (decide (at8 name k ≠ 0) && liesN name zone name.size (k + 1 + at8 name k)))) := HL.out.trans (liesN_step HN.out)
  clear hw1
  by_cases hsm : sameB (name.extract k name.size) zone = true
  ·rw [hsm]
   go_wp2_with fail
   go_ret
   exact ⟨ret_bool (by rw [HS.out, hsm]; rfl), HW1.out⟩
  ·have hsm2 : sameB (name.extract k name.size) zone = false := by simpa using hsm
   rw [hsm2]
   by_cases h0 : at8 name k = 0
   ·have hidx0 : ∀ W, (Instr.index 9 (.string name) (.int .i64 (k : Int))).run Tryz.prog W = .ok (.int .u8 0) W := fun W => by rw [hidx W, h0]; rfl
    clear hidx
    have HF : Hid (liesB name zone = false) := by unfold Hid; rw [HS.out, hsm2, h0]; rfl
    go_wp2_with fail
    go_ret
    exact ⟨ret_bool HF.out.symm, HW1.out⟩
   ·obtain ⟨hnx, h63⟩ := HN.out.next h0
    have HNX := hide hnx
    have hnl := hnx.lt
    have HF : Hid (liesB name zone = liesN name zone name.size (k + 1 + at8 name k)) := by
     unfold Hid
     rw [HS.out, hsm2, decide_eq_true h0, Bool.false_or, Bool.true_and]
    have hb9 : ((at8 name k : Int) == 0) = false := by simp; omega
    clear hnx
    go_wp2_with fail
    exact ⟨⟨k + 1 + at8 name k, by go_num, by omega, HNX.out, HW1.out, HF.out⟩, by simp [intOf]; omega⟩
end Go.Proofs.YtafoepfhepdcoaaGreat
namespace Go.Trawl
inductive NB : List UInt8 → Prop
 | stop : NB [0]
 | lab (n : UInt8) (xs rest : List UInt8) (h0 : 1 ≤ n.toNat) (h1 : n.toNat ≤ 63) (hx : xs.length = n.toNat) (h : NB rest) : NB (n :: (xs ++ rest))
theorem at8_list (pre : List UInt8) (x : UInt8) (rest : List UInt8) : at8 ⟨(pre ++ x :: rest).toArray⟩ pre.length = x.toNat := by
 unfold at8
 rw [Array.getD_eq_getD_getElem?, List.getElem?_toArray, List.getElem?_append_right (Nat.le_refl _), Nat.sub_self]
 rfl
theorem NB.at {l : List UInt8} (h : NB l) : ∀ pre : List UInt8, behind ⟨(pre ++ l).toArray⟩ pre.length + 1 = (pre ++ l).length ∧ at8 ⟨(pre ++ l).toArray⟩ (behind ⟨(pre ++ l).toArray⟩ pre.length) = 0 := by
 induction h with
 | stop =>
  intro pre
  have h0 : at8 ⟨(pre ++ [0]).toArray⟩ pre.length = 0 := at8_list pre 0 []
  rw [behind_stop _ _ (by omega)]
  exact ⟨by simp, h0⟩
 | lab n xs rest h0 h1 hx h ih =>
  intro pre
  have ha : at8 ⟨(pre ++ n :: (xs ++ rest)).toArray⟩ pre.length = n.toNat := at8_list pre n (xs ++ rest)
  have hs : (⟨(pre ++ n :: (xs ++ rest)).toArray⟩ : ByteArray).size = (pre ++ n :: (xs ++ rest)).length := rfl
  rw [behind_next _ _ (by rw [hs]; simp) (by omega) (by omega), ha]
  have e : pre ++ n :: (xs ++ rest) = (pre ++ n :: xs) ++ rest := by simp
  have hl : (pre ++ n :: xs).length = pre.length + 1 + n.toNat := by simp [hx]; omega
  have := ih (pre ++ n :: xs)
  rw [← e, hl] at this
  exact this
theorem NB.pos {l : List UInt8} (h : NB l) : 0 < l.length := by cases h <;> simp
theorem NB.name {l : List UInt8} (h : NB l) (hl : l.length ≤ 255) : nameB ⟨l.toArray⟩ = true := by
 obtain ⟨h1, h2⟩ := h.at []
 simp only [List.nil_append, List.length_nil] at h1 h2
 exact decide_eq_true ⟨hl, h1, h2⟩
theorem cut_one {s : ByteArray} {k j : Nat} (hk : k < s.size) (hj : k < j) : ∃ x : UInt8, x.toNat = at8 s k ∧ cut s k j = x :: cut s (k + 1) j := by
 have h' : k < s.data.toList.length := by rw [Array.length_toList]; exact hk
 refine ⟨s.data.toList[k], ?_, ?_⟩
 ·unfold at8
  have h2 : k < s.data.size := hk
  rw [Array.getD_eq_getD_getElem?, Array.getElem?_eq_getElem h2]
  rfl
 ·unfold cut
  rw [List.drop_eq_getElem_cons h']
  obtain ⟨m, hm⟩ : ∃ m, j - k = m + 1 := ⟨j - k - 1, by omega⟩
  rw [hm, List.take_succ_cons]
  congr 2
  omega
theorem NB.labels {s : ByteArray} {rest : List UInt8} (hr : NB rest) : ∀ n k, s.size - k ≤ n → behind s k ≤ s.size → NB (cut s k (behind s k) ++ rest)
 | 0, k, hn, hb => by
  have hk := le_behind s k
  have e : behind s k = k := behind_stop s k (by omega)
  rw [e, cut_nil]
  exact hr
 | n + 1, k, hn, hb => by
  by_cases hh : k < s.size ∧ 0 < at8 s k ∧ at8 s k ≤ 63
  ·have e := behind_next s k hh.1 hh.2.1 hh.2.2
   have hl := le_behind s (k + 1 + at8 s k)
   rw [e] at hb ⊢
   obtain ⟨x, hx, hc⟩ := cut_one (s := s) (k := k) (j := k + 1 + at8 s k) hh.1 (by omega)
   rw [← cut_join (s := s) (i := k) (j := k + 1 + at8 s k) (by omega) hl, hc, List.cons_append, List.cons_append, List.append_assoc]
   exact .lab x _ _ (by omega) (by omega) (by rw [cut_length (by omega)]; omega) (NB.labels hr n _ (by omega) hb)
  ·rw [behind_stop s k hh, cut_nil]
   exact hr
theorem whole_nb {s : ByteArray} {k : Nat} {r : List UInt8 × Nat} (h : whole s k = some r) : NB r.1 := by
 by_cases hh : behind s k < s.size ∧ (at8 s (behind s k) = 0 ∨ 192 ≤ at8 s (behind s k) ∧ behind s k + 1 < s.size ∧ ptr s (behind s k) < k)
 ·obtain ⟨h1, h2 | ⟨h2, h3, h4⟩⟩ := hh
  ·rw [whole_end h1 h2] at h
   cases h
   exact NB.labels .stop _ k (Nat.le_refl _) (by omega)
  ·rw [whole_on h1 h2 h3 h4] at h
   cases hr : whole s (ptr s (behind s k)) with
   | none => rw [hr] at h; cases h
   | some q =>
    have ih := whole_nb hr
    rw [hr] at h
    cases h
    exact NB.labels ih _ k (Nat.le_refl _) (by omega)
 ·rw [whole_no hh] at h
  cases h
termination_by k
decreasing_by exact h4
theorem pName_name {s : ByteArray} {a : Nat} {r : ByteArray × Nat} (h : pName s a = some r) : nameB r.1 = true := by
 unfold pName at h
 cases hw : whole s a with
 | none => rw [hw] at h; cases h
 | some q =>
  rw [hw] at h
  simp only [Option.bind_some] at h
  split at h
  ·rename_i hl
   cases h
   exact (whole_nb hw).name hl
  ·cases h
def Always {α : Type} (p : Par α) (P : α → Prop) : Prop := ∀ a r, p a = some r → P r.1
theorem Always.bind {α β : Type} {p : Par α} {f : α → Par β} {P : α → Prop} {Q : β → Prop} (h : Always p P) (k : ∀ x, P x → Always (f x) Q) : Always (p.bind f) Q := by
 intro a r hr
 unfold Par.bind at hr
 cases hp : p a with
 | none => rw [hp] at hr; cases hr
 | some q =>
  rw [hp] at hr
  exact k q.1 (h a q hp) q.2 r hr
theorem Always.any {α : Type} (p : Par α) : Always p fun _ => True := fun _ _ _ => trivial
theorem Always.pure {α : Type} {x : α} {P : α → Prop} (h : P x) : Always (Par.pure x) P := fun a r hr => by cases hr; exact h
theorem Always.many {α : Type} {p : Par α} {P : α → Prop} (h : Always p P) : ∀ n, Always (p.many n) fun xs => (∀ x ∈ xs, P x) ∧ xs.length = n
 | 0 => Always.pure ⟨(fun x hx => by cases hx), rfl⟩
 | n + 1 => (Always.many h n).bind fun xs hxs => h.bind fun x hx => Always.pure ⟨fun y hy => by
   rcases List.mem_append.1 hy with hy | hy
   ·exact hxs.1 y hy
   ·simp at hy; subst hy; exact hx, by simp [hxs.2]⟩
def NamedQ (q : Qn) : Prop := nameB q.name = true ∧ 0 ≤ q.kind ∧ q.kind ≤ 65535 ∧ 0 ≤ q.cls ∧ q.cls ≤ 65535
def NamedR (r : Rc) : Prop := nameB r.name = true ∧ (named r.kind = true → nameB r.data = true)
theorem num2_range (s : ByteArray) : Always (num2 s) fun x => 0 ≤ x ∧ x ≤ 65535 := by
 intro a r hr
 unfold num2 at hr
 split at hr
 ·cases hr
  have := n2_lt s a
  exact ⟨by omega, by omega⟩
 ·cases hr
theorem pQ_named (s : ByteArray) : Always (pQ s) NamedQ :=
 Always.bind (P := fun n => nameB n = true) (fun _ _ h => pName_name h) fun _ hn => (num2_range s).bind fun _ ht => (num2_range s).bind fun _ hc => Always.pure ⟨hn, ht.1, ht.2, hc.1, hc.2⟩
theorem pData_named (s : ByteArray) (k : Int) (n : Nat) : Always (pData s k n) fun d => named k = true → nameB d = true := by
 intro a r hr hk
 unfold pData at hr
 rw [if_pos hk] at hr
 cases hp : pName s a with
 | none => rw [hp] at hr; cases hr
 | some q =>
  rw [hp] at hr
  simp only [Option.bind_some] at hr
  split at hr
  ·cases hr
   exact pName_name hp
  ·cases hr
theorem pR_named (s : ByteArray) : Always (pR s) NamedR :=
 Always.bind (P := fun n => nameB n = true) (fun _ _ h => pName_name h) fun _ hn => (Always.any _).bind fun t _ => (Always.any _).bind fun _ _ => (Always.any _).bind fun _ _ => (Always.any _).bind fun k _ =>
  (pData_named s t k.toNat).bind fun _ hd => Always.pure ⟨hn, hd⟩
structure NamedM (m : Msg) : Prop where
 q : ∀ q ∈ m.qs, NamedQ q
 a : ∀ r ∈ m.an, NamedR r
 u : ∀ r ∈ m.au, NamedR r
 x : ∀ r ∈ m.ex, NamedR r
theorem pM_named (s : ByteArray) : Always (pM s) NamedM :=
 (Always.any _).bind fun _ _ => (Always.any _).bind fun _ _ => (Always.any _).bind fun _ _ => (Always.any _).bind fun _ _ => (Always.any _).bind fun _ _ => (Always.any _).bind fun _ _ =>
  ((pQ_named s).many _).bind fun _ hq => ((pR_named s).many _).bind fun _ ha => ((pR_named s).many _).bind fun _ hu => ((pR_named s).many _).bind fun _ hx => Always.pure ⟨hq.1, ha.1, hu.1, hx.1⟩
theorem unpack_named {s : ByteArray} {m : Msg} (h : unpack s = some m) : NamedM m := by
 unfold unpack at h
 split at h
 ·cases hp : pM s 0 with
  | none => rw [hp] at h; cases h
  | some r =>
   rw [hp] at h
   simp only [Option.bind_some] at h
   split at h
   ·cases h
    exact pM_named s 0 r hp
   ·cases h
 ·cases h
end Go.Trawl
namespace Go.Proofs.YtafoepfhepdcoaaGreat
open Go.RowKit Go.Trawl
def ofB (zone name : ByteArray) (kind : Int) (r : Rc) : Bool := liesB r.name zone && sameB r.name name && decide (r.kind = kind) && decide (r.cls = 1)
structure OL (w wr : World) (xs : List Rc) (v : Value) : Prop where
 below : Below w.heap.size w wr
 own : wr.ownsRow 0 69 5 v xs.length ((xs.map Rc.cells).flatten)
 new : ∀ g, v.ownBlock = some g → w.heap.size ≤ g
theorem OL.drewN {w wr : World} {xs : List Rc} {v : Value} (h : OL w wr xs v) (n : Nat) : OL w (wr.drewN n) xs v :=
 ⟨below_drewN h.below n, h.own.kept (gd_ _ n none) (by cases v.ownBlock <;> simp), h.new⟩
theorem OL.next {w w2 w5 : World} {xs : List Rc} {r : Rc} {v v5 : Value} {o : Obj} (h : OL w w2 xs v) (g : Grew 69 5 (w2.alloc o) w5 v v5 (xs.length + 1) ((xs.map Rc.cells).flatten ++ r.cells)) : OL w w5 (xs ++ [r]) v5 := by
 have hb : Below w2.heap.size w2 (w2.alloc o) := (Below.refl _ _).alloc (Nat.le_refl _) _
 have hg := g.below (B := w.heap.size) (Nat.le_trans h.below.size hb.size) h.new
 refine ⟨(h.below.trans (hb.mono h.below.size)).trans hg.1, ?_, hg.2⟩
 have e1 : (xs ++ [r]).length = xs.length + 1 := by simp
 have e2 : ((xs ++ [r]).map Rc.cells).flatten = (xs.map Rc.cells).flatten ++ r.cells := by simp
 rw [e1, e2]
 exact g.own
theorem of_any (w : World) (v : Value) (l : List Rc) (zone name : ByteArray) (kind : Int) (hl : l.length ≤ 65535) (hnm : ∀ r ∈ l, nameB r.name = true) (hv : Lies w 5 v (l.map Rc.cells)) :
  Calls Tryz.prog 134 #[v, .string zone, .string name, .int .u16 kind] w fun e w' => ∃ (a : Option Addr) (c : Nat), e = .returned (.slice a (l.filter (ofB zone name kind)).length c) ∧ Hid (OL w w' (l.filter (ofB zone name kind)) (.slice a (l.filter (ofB zone name kind)).length c)) := by
 obtain ⟨i0, hi, hz0, hz1, hz2⟩ := info_parts rI0
 obtain ⟨av, cv, rfl, -, hv⟩ := hv
 rw [List.length_map]
 have HV := hide hv
 have HNM := hide hnm
 have H0 : Hid (OL w w [] (.slice none 0 0)) := ⟨Below.refl _ _, World.ownsRow_nil _ _ _ _, fun g hg => by cases hg⟩
 clear hv hnm
 go_enter Tryz.func134, Tryz.ntmps134
 go_wp2_with fail
 go_loopw [9, 10] (fun u i wr => ∃ (k : Nat) (xs : List Rc) (a : Option Addr) (c : Nat), u = .slice a xs.length c ∧ i = .int .i64 k ∧ k ≤ l.length ∧ xs.length ≤ k ∧ Hid (xs = (l.take k).filter (ofB zone name kind)) ∧ Hid (OL w wr xs (.slice a xs.length c))) (fun _ i _ => l.length - (intOf i).toNat)
 case atStart => exact ⟨0, [], none, 0, rfl, rfl, Nat.zero_le _, by simp, rfl, H0.out⟩
 case round =>
  obtain ⟨k, xs, a, c, rfl, rfl, hk, hxl, HX, HO⟩ := hrel
  by_cases hin : k < l.length
  ·obtain ⟨r, hr⟩ : ∃ r, l[k]? = some r := ⟨_, List.getElem?_eq_getElem hin⟩
   rcases HV.out with he | ⟨b, off, rfl, hbl, hc⟩
   ·exfalso; have := congrArg List.length he; simp at this; subst this; simp at hin
   obtain ⟨c0, c1, c2, c3, c4⟩ := Lies.rat hc hr
   have HN1 := hide (HNM.out r (List.mem_of_getElem? hr))
   have HTK : Hid ((l.take (k + 1)).filter (ofB zone name kind) = xs ++ [r].filter (ofB zone name kind)) := by
    unfold Hid
    rw [take_snoc l k r hr, List.filter_append, HX.out]
   have t1 : ∀ o u, w.cell? ⟨b, o, none⟩ = some u → wr.cell? ⟨b, o, none⟩ = some u := fun o u => cell_of_heap (HO.out.below.block b hbl)
   replace c0 := t1 _ _ c0
   replace c1 := t1 _ _ c1
   replace c2 := t1 _ _ c2
   replace c3 := t1 _ _ c3
   replace c4 := t1 _ _ c4
   have hwz := HO.out.below.size
   obtain ⟨nm, kd, cl, tt, dt⟩ := r
   dsimp only at c0 c1 c2 c3 c4
   have HN2 : Hid (nameB nm = true) := HN1.out
   have hnz := (nameB_size HN2.out).2
   clear hc hr t1 HN1
   go_wp2_with fail
   refine (refLies_any nm zone HN2.out wr).mono ?_
   rintro e w1 ⟨rfl, n1, hw1⟩
   have hs1 : ∀ p, w1.cell? p = wr.cell? p := by rw [hw1]; intro p; rfl
   have HO1 : Hid (OL w w1 xs (.slice a xs.length c)) := by rw [hw1]; exact HO.out.drewN n1
   rw [← hs1] at c0 c1 c2 c3 c4
   clear hs1 hw1
   go_wp2_with fail
   refine (refSame_any nm name (by omega) _).mono ?_
   rintro e w2 ⟨rfl, n2, hw2⟩
   have hs2 : ∀ p, w2.cell? p = w1.cell? p := by rw [hw2]; intro p; rfl
   have HO2 : Hid (OL w w2 xs (.slice a xs.length c)) := by rw [hw2]; exact HO1.out.drewN n2
   have hwz2 := HO2.out.below.size
   rw [← hs2] at c0 c1 c2 c3 c4
   clear hs2 hw2
   by_cases q1 : liesB nm zone = true
   ·by_cases q2 : sameB nm name = true
    ·rw [q1, q2]
     have Q1 := hide q1
     have Q2 := hide q2
     clear q1 q2
     by_cases q3 : kd = kind
     ·subst q3
      by_cases q4 : cl = 1
      ·subst q4
       go_wp2_with (at_builtin; refine wpList_append_grew _ rfl _ _ 28 rfl 69 i0 _ 5 40 uRs hi hz0 hz1 hz2 rfl (by decide) (.slice a xs.length c) xs.length ((xs.map Rc.cells).flatten) rfl ⟨w2.heap.size, 0, none⟩ 1 1 [.string nm, .int .u16 kd, .int .u16 1, .int .u32 tt, .string dt] rfl rfl one_r5 (HO2.out.own.alloc _) (cells_new w2 #[.string nm, .int .u16 kd, .int .u16 1, .int .u32 tt, .string dt] _) (by unfold maxLen; omega) (by omega) ?_; intro v5 w5 g5; obtain ⟨a5, c5, rfl⟩ := os_ g5.own; have HG5 := hide g5; clear g5)
       have hlen : (xs ++ [(⟨nm, kd, 1, tt, dt⟩ : Rc)]).length = xs.length + 1 := by simp
       refine ⟨⟨k + 1, xs ++ [⟨nm, kd, 1, tt, dt⟩], a5, c5, by rw [hlen], by go_num, by omega, by rw [hlen]; omega, ?_, ?_⟩, by simp [intOf]; omega⟩
       ·unfold Hid
        rw [HTK.out, List.filter_cons_of_pos (by unfold ofB; dsimp only; rw [Q1.out, Q2.out]; simp), List.filter_nil]
       ·rw [hlen]
        exact HO2.out.next HG5.out
      ·have q5 : ((cl : Int) == 1) = false := by simp; exact q4
       go_wp2_with fail
       refine ⟨⟨k + 1, xs, a, c, rfl, by go_num, by omega, by omega, ?_, HO2.out⟩, by simp [intOf]; omega⟩
       unfold Hid
       rw [HTK.out, List.filter_cons_of_neg (by unfold ofB; dsimp only; simp [q4]), List.filter_nil, List.append_nil]
     ·have q5 : ((kd : Int) == kind) = false := by simp; exact q3
      go_wp2_with fail
      refine ⟨⟨k + 1, xs, a, c, rfl, by go_num, by omega, by omega, ?_, HO2.out⟩, by simp [intOf]; omega⟩
      unfold Hid
      rw [HTK.out, List.filter_cons_of_neg (by unfold ofB; dsimp only; simp [q3]), List.filter_nil, List.append_nil]
    ·have q3 : sameB nm name = false := by simpa using q2
     rw [q1, q3]
     clear q1 q2
     have Q3 := hide q3
     clear q3
     go_wp2_with fail
     refine ⟨⟨k + 1, xs, a, c, rfl, by go_num, by omega, by omega, ?_, HO2.out⟩, by simp [intOf]; omega⟩
     unfold Hid
     rw [HTK.out, List.filter_cons_of_neg (by unfold ofB; dsimp only; rw [Q3.out]; simp), List.filter_nil, List.append_nil]
   ·have q2 : liesB nm zone = false := by simpa using q1
    rw [q2]
    clear q1
    have Q2 := hide q2
    clear q2
    go_wp2_with fail
    refine ⟨⟨k + 1, xs, a, c, rfl, by go_num, by omega, by omega, ?_, HO2.out⟩, by simp [intOf]; omega⟩
    unfold Hid
    rw [HTK.out, List.filter_cons_of_neg (by unfold ofB; dsimp only; rw [Q2.out]; simp), List.filter_nil, List.append_nil]
  ·go_wp2_with fail
   go_ret
   have e : xs = l.filter (ofB zone name kind) := by rw [HX.out, List.take_of_length_le (by omega)]
   subst e
   exact ⟨_, _, rfl, HO.out⟩
end Go.Proofs.YtafoepfhepdcoaaGreat
