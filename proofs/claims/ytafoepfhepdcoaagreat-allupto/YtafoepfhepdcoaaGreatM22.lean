import Derived.Test.YtafoepfhepdcoaaGreatM18
set_option maxRecDepth 100000
set_option maxHeartbeats 8000000
namespace Go.Proofs.YtafoepfhepdcoaaGreat
open Go.RowKit Go.Trawl
theorem whole_len {s : ByteArray} {k : Nat} {r : List UInt8 × Nat} (h : whole s k = some r) : behind s k + 1 ≤ r.1.length + k ∧ behind s k < s.size := by
 have hk := le_behind s k
 by_cases hh : behind s k < s.size ∧ (at8 s (behind s k) = 0 ∨ 192 ≤ at8 s (behind s k) ∧ behind s k + 1 < s.size ∧ ptr s (behind s k) < k)
 ·obtain ⟨h1, h2 | ⟨h2, h3, h4⟩⟩ := hh
  ·rw [whole_end h1 h2] at h
   cases h
   rw [List.length_append, cut_length (by omega)]
   simp only [List.length_cons, List.length_nil]
   omega
  ·rw [whole_on h1 h2 h3 h4] at h
   cases hr : whole s (ptr s (behind s k)) with
   | none => rw [hr] at h; cases h
   | some q =>
    have := whole_ends hr
    rw [hr] at h
    cases h
    rw [List.length_append, cut_length (by omega)]
    omega
 ·rw [whole_no hh] at h
  cases h
theorem drewN_two (w : World) (n m : Nat) : (w.drewN n).drewN m = w.drewN (n + m) := by
 show ({ w with drawn := w.drawn + n + m } : World) = { w with drawn := w.drawn + (n + m) }
 rw [Nat.add_assoc]
theorem In.after {w w1 : World} {r : Nat} {s : ByteArray} {a : Nat} {bad : Bool} {n : Nat} (h : In w r s a bad) (e : w1 = w.drew.drewN n) : In w1 r s a bad := by
 rw [e]
 exact (h.grow (grownBy_drew w none) (by simp)).drewN n
theorem grown_after {w w1 : World} {n : Nat} (e : w1 = w.drew.drewN n) (r : Option Nat) : w.grownBy w1 r := by
 rw [e]
 exact gt_ (grownBy_drew _ _) (gd_ _ n _)
def Long (s : ByteArray) (a : Nat) : Prop := ∀ r, whole s a = some r → 255 < r.1.length
theorem long_no {s : ByteArray} {a : Nat} (h : whole s a = none) : Long s a := fun r hr => by rw [h] at hr; cases hr
theorem ext_join {s : ByteArray} {a k j : Nat} (h1 : a ≤ k) (h2 : k ≤ j) : (⟨(cut s a k).toArray⟩ : ByteArray) ++ s.extract k j = ⟨(cut s a j).toArray⟩ := by
 rw [ext_cut, ← cut_join h1 h2]
 apply ByteArray.ext
 simp
structure Lab (s : ByteArray) (a : Nat) (t : ByteArray) (k : Nat) (ok : Bool) : Prop where
 yes : ok = true → whole s a = some (t.data.toList, k)
 no : ok = false → Long s a
 size : t.size ≤ 600 * (a + 1)
 le : k ≤ s.size
theorem Lab.bad {s : ByteArray} {a : Nat} (h : Long s a) : Lab s a ⟨#[]⟩ 0 false := ⟨(fun h => by cases h), fun _ => h, Nat.zero_le _, Nat.zero_le _⟩
theorem labels_any (s : ByteArray) (hs : s.size ≤ 512) (a : Nat) : a ≤ s.size → ∀ w, Calls Tryz.prog 164 #[.string s, .int .i64 a] w fun e w' =>
  ∃ (t : ByteArray) (k : Nat) (ok : Bool), e = .returned (.tuple #[.string t, .int .i64 k, .bool ok]) ∧ Hid (Lab s a t k ok ∧ ∃ n, w' = w.drewN n) := by
 induction a using Nat.strongRecOn with
 | _ a ih =>
  intro ha w
  have IH := hide ih
  clear ih
  go_enter Tryz.func164, Tryz.ntmps164
  go_wp2_with fail
  go_loopw [7, 8] (fun v i wr => ∃ (k : Nat) (o : ByteArray), v = .string o ∧ i = .int .i64 k ∧ a ≤ k ∧ k ≤ s.size ∧ o.size = k - a ∧ k - a ≤ 255 ∧ Hid (o = ⟨(cut s a k).toArray⟩) ∧ Hid (behind s a = behind s k) ∧ wr = w) (fun _ i _ => 1000 - (intOf i).toNat)
  case atStart => exact ⟨a, ⟨#[]⟩, rfl, rfl, Nat.le_refl _, ha, by rw [Nat.sub_self]; rfl, by omega, by unfold Hid; rw [cut_nil], rfl, rfl⟩
  case round =>
   obtain ⟨k, o, rfl, rfl, hak, hk, hos, ho255, HO, HB, rfl⟩ := hrel
   by_cases hlt : k < s.size
   ·have hidx := idx s k hlt
    have hl8 := at8_lt s k
    by_cases h1 : 0 < at8 s k
    ·by_cases h2 : at8 s k ≤ 63
     ·have HE : Hid (behind s k = behind s (k + 1 + at8 s k)) := behind_next s k hlt h1 h2
      by_cases h3 : k + 1 + at8 s k ≤ s.size
      ·have hmin : min (k + (1 + at8 s k)) s.size = k + (1 + at8 s k) := by omega
       go_wp2_with fail
       ·go_ret3
        refine ⟨_, _, _, rfl, Lab.bad (fun r hr => ?_), 0, rfl⟩
        have h7 := whole_len hr
        have h8 := le_behind s (k + 1 + at8 s k)
        rw [HB.out, HE.out] at h7
        omega
       ·refine ⟨⟨k + (1 + at8 s k), _, rfl, by go_num, by omega, by omega, ?_, by omega, ?_, ?_, trivial⟩, by simp [intOf]; omega⟩
        ·rw [ByteArray.size_append, hos, ByteArray.size_extract, hmin]
         omega
        ·unfold Hid
         rw [HO.out, ext_join hak (by omega)]
        ·unfold Hid
         rw [HB.out, HE.out, Nat.add_assoc]
      ·go_wp2_with fail
       go_ret3
       refine ⟨_, _, _, rfl, Lab.bad (fun r hr => ?_), 0, rfl⟩
       have h7 := whole_len hr
       have h8 := le_behind s (k + 1 + at8 s k)
       rw [HB.out, HE.out] at h7
       omega
     ·have HE : Hid (behind s a = k) := HB.out.trans (behind_stop s k (by omega))
      by_cases h3 : at8 s k < 192
      ·go_wp2_with fail
       go_ret3
       exact ⟨_, _, _, rfl, Lab.bad (long_no (whole_no (by rw [HE.out]; omega))), 0, rfl⟩
      ·by_cases h4 : k + 1 < s.size
       ·have hidx2 := idx s (k + 1) h4
        have hl9 := at8_lt s (k + 1)
        obtain ⟨t, ht⟩ : ∃ t, t = ptr s k := ⟨_, rfl⟩
        have ht2 : (t : Int) = ((at8 s k : Int) - 192) * 256 + (at8 s (k + 1) : Int) := by rw [ht]; unfold ptr; omega
        have HT := hide ht
        clear ht
        have hidx3 : ∀ W, (Instr.index 9 (.string s) (.int .i64 ((k : Int) + 1))).run Tryz.prog W = .ok (.int .u8 (at8 s (k + 1))) W := fun W => by
         have := idx s (k + 1) h4 W
         rwa [Int.natCast_add] at this
        clear hidx2
        have hw1 : IntKind.i64.wrap ((k : Int) + 1) = (k : Int) + 1 := by rw [IntKind.wrap_i64]; omega
        have hw2 : IntKind.i64.wrap ((at8 s k : Int) - 192) = (at8 s k : Int) - 192 := by rw [IntKind.wrap_i64]; omega
        have hw3 : IntKind.i64.wrap (((at8 s k : Int) - 192) * 256) = ((at8 s k : Int) - 192) * 256 := by rw [IntKind.wrap_i64]; omega
        have hw4 : IntKind.i64.wrap (((at8 s k : Int) - 192) * 256 + (at8 s (k + 1) : Int)) = (t : Int) := by rw [IntKind.wrap_i64]; omega
        clear ht2
        go_wp2_with fail
        go_quiet (fail)
        by_cases h5 : t < a
        ·go_wp2_with fail
         refine (IH.out t h5 (by omega) _).mono ?_
         rintro e w2 ⟨t2, k2, ok, rfl, H2⟩
         have ht2 := H2.out.1.size
         go_wp2_with fail
         go_ret3
         obtain ⟨L2, n2', hw2'⟩ := H2.out
         have h7 := HE.out
         have hon := whole_on (s := s) (k := a) (by omega) (by rw [h7]; omega) (by omega) (by rw [h7, ← HT.out]; exact h5)
         rw [h7, ← HT.out] at hon
         refine ⟨o ++ t2, k + 2, ok, rfl, ⟨fun hok => ?_, fun hok r hr => ?_, ?_, by omega⟩, nq + n2', by rw [hw2']; exact drewN_two _ _ _⟩
         ·rw [hon, L2.yes hok, HO.out]
          simp
         ·rw [hon] at hr
          cases hq : whole s t with
          | none => rw [hq] at hr; cases hr
          | some q =>
           have := L2.no hok q hq
           rw [hq] at hr
           cases hr
           rw [List.length_append]
           omega
         ·rw [ByteArray.size_append, hos]
          omega
        ·go_wp2_with fail
         go_ret3
         exact ⟨_, _, _, rfl, Lab.bad (long_no (whole_no (by rw [HE.out, ← HT.out]; omega))), nq, rfl⟩
       ·go_wp2_with fail
        go_ret3
        exact ⟨_, _, _, rfl, Lab.bad (long_no (whole_no (by rw [HE.out]; omega))), 0, rfl⟩
    ·have HE : Hid (behind s a = k) := HB.out.trans (behind_stop s k (by omega))
     have h0 : at8 s k = 0 := by omega
     have hidx0 : ∀ W, (Instr.index 9 (.string s) (.int .i64 (k : Int))).run Tryz.prog W = .ok (.int .u8 0) W := fun W => by rw [hidx W, h0]; rfl
     clear hidx
     go_wp2_with fail
     go_ret3
     refine ⟨o ++ ⟨#[0]⟩, k + 1, true, rfl, ⟨fun _ => ?_, (fun h => by cases h), ?_, by omega⟩, 0, rfl⟩
     ·rw [whole_end (by rw [HE.out]; exact hlt) (by rw [HE.out]; exact h0), HE.out, HO.out]
      simp
     ·rw [ByteArray.size_append, hos]
      have : (⟨#[0]⟩ : ByteArray).size = 1 := rfl
      omega
   ·have HE : Hid (behind s a = k) := HB.out.trans (behind_stop s k (by omega))
    go_wp2_with fail
    go_ret3
    exact ⟨_, _, _, rfl, Lab.bad (long_no (whole_no (by rw [HE.out]; omega))), 0, rfl⟩
theorem pName_yes {s : ByteArray} {a : Nat} {t : ByteArray} {k : Nat} {ok : Bool} (h : Lab s a t k ok) (h1 : ok = true) (h2 : t.size ≤ 255) : pName s a = some (t, k) := by
 unfold pName
 rw [h.yes h1]
 simp only [Option.bind_some]
 rw [if_pos (by rw [Array.length_toList]; exact h2)]
theorem pName_no {s : ByteArray} {a : Nat} {t : ByteArray} {k : Nat} {ok : Bool} (h : Lab s a t k ok) (h1 : ok = false ∨ ¬ t.size ≤ 255) : pName s a = none := by
 unfold pName
 cases ok with
 | true =>
  rcases h1 with h1 | h1
  ·cases h1
  ·rw [h.yes rfl]
   simp only [Option.bind_some]
   rw [if_neg (by rw [Array.length_toList]; exact h1)]
 | false =>
  cases hw : whole s a with
  | none => rfl
  | some r =>
   have := h.no rfl r hw
   simp only [Option.bind_some]
   rw [if_neg (by omega)]
theorem nameI (w : World) (r : Nat) (s : ByteArray) (a : Nat) (bad : Bool) (h : In w r s a bad) :
  Calls Tryz.prog 128 #[.pointer (some ⟨r, 0, none⟩)] w fun e w' => ∃ x : ByteArray, e = .returned (.string x) ∧ Hid (x.size ≤ 255 ∧ OutI (pName s) w w' r s a bad x) := by
 have HR := hide h
 have hs := h.small
 have ha := h.le
 have hcl := h.cell
 have hfr := h.frozen
 clear h
 cases bad
 ·go_enter Tryz.func128, Tryz.ntmps128
  go_wp2_with fail
  go_region_held3 (fun w' => w'.cell? ⟨r, 0, none⟩ = some (.string s) ∧ w'.cell? ⟨r, 1, none⟩ = some (.int .i64 a)) (go_keep)
   (first | (go_at_call 164; refine (labels_any s hs a ha w.drew).mono ?_; rintro e w1 ⟨t, k, ok, rfl, H1⟩; obtain ⟨L1, n1, hw1⟩ := H1.out; have HL := hide L1; have hks := L1.le; have HI1 := hide (HR.out.after hw1); have HG1 := hide (grown_after hw1 (some r)); have hcl1 := HI1.out.cell; have hfr1 := HI1.out.frozen; clear H1 L1 hw1))
  have hts : t.size ≤ 307800 := by have := HL.out.size; omega
  cases ok
  ·go_wp2_with fail
   go_ret
   exact ⟨⟨#[0]⟩, rfl, by decide, a, true, HI1.out.setBad true, gt_ HG1.out (gs_ _ _ _ _), Ran.fail (pName_no HL.out (.inl rfl)) _⟩
  ·by_cases ht : t.size ≤ 255
   ·go_wp2_with fail
    go_ret
    exact ⟨t, rfl, ht, k, false, HI1.out.setAt hks, gt_ HG1.out (gs_ _ _ _ _), Ran.good (r := (t, k)) (pName_yes HL.out rfl ht)⟩
   ·go_wp2_with fail
    go_ret
    exact ⟨⟨#[0]⟩, rfl, by decide, a, true, HI1.out.setBad true, gt_ HG1.out (gs_ _ _ _ _), Ran.fail (pName_no HL.out (.inr ht)) _⟩
 ·go_enter Tryz.func128, Tryz.ntmps128
  go_wp2_with fail
  go_region_held3 (fun w' => w'.cell? ⟨r, 0, none⟩ = some (.string s) ∧ w'.cell? ⟨r, 1, none⟩ = some (.int .i64 a)) (go_keep)
   (first | (go_at_call 164; refine (labels_any s hs a ha w.drew).mono ?_; rintro e w1 ⟨t, k, ok, rfl, H1⟩; obtain ⟨L1, n1, hw1⟩ := H1.out; have HL := hide L1; have hks := L1.le; have HI1 := hide (HR.out.after hw1); have HG1 := hide (grown_after hw1 (some r)); have hcl1 := HI1.out.cell; have hfr1 := HI1.out.frozen; clear H1 L1 hw1))
  have hts : t.size ≤ 307800 := by have := HL.out.size; omega
  go_wp2_with fail
  go_ret
  exact ⟨⟨#[0]⟩, rfl, by decide, a, true, HI1.out.setBad true, gt_ HG1.out (gs_ _ _ _ _), Ran.bad _ _⟩
theorem buildRz (W : World) : (Instr.build 69 #[]).run Tryz.prog W = .ok (.agg #[Value.string { data := #[] }, Value.int IntKind.u16 0, Value.int IntKind.u16 0, Value.int IntKind.u32 0, Value.string { data := #[] }]) W := run_build W _ _ _ (by kernel_rfl)
attribute [local go_sem] buildRz
theorem be2 (s : ByteArray) (a : Nat) : be s a 2 ≤ 65535 := by
 have h0 := at8_lt s a
 have h1 := at8_lt s (a + 1)
 simp only [be, Nat.add_zero]
 omega
theorem num2I (w : World) (r : Nat) (s : ByteArray) (a : Nat) (bad : Bool) (h : In w r s a bad) :
  Calls Tryz.prog 127 #[.pointer (some ⟨r, 0, none⟩), .int .i64 2] w fun e w' => ∃ x : Nat, e = .returned (.int .i64 x) ∧ x ≤ 65535 ∧ Hid (OutI (num2 s) w w' r s a bad x) := by
 refine (numberI w r s a bad 2 (by decide) h).mono ?_
 rintro e w' ⟨x, rfl, hx, ho⟩
 rw [numB_two] at ho
 exact ⟨x, rfl, by have := be2 s a; omega, ho⟩
theorem num4I (w : World) (r : Nat) (s : ByteArray) (a : Nat) (bad : Bool) (h : In w r s a bad) :
  Calls Tryz.prog 127 #[.pointer (some ⟨r, 0, none⟩), .int .i64 4] w fun e w' => ∃ x : Nat, e = .returned (.int .i64 x) ∧ x ≤ 4294967295 ∧ Hid (OutI (num4 s) w w' r s a bad x) := by
 refine (numberI w r s a bad 4 (by decide) h).mono ?_
 rintro e w' ⟨x, rfl, hx, ho⟩
 rw [numB_four] at ho
 exact ⟨x, rfl, by have := be_le s a 4 (by decide); omega, ho⟩
theorem In.aside {w : World} {r : Nat} {s : ByteArray} {a : Nat} {bad : Bool} (h : In w r s a bad) {g : Nat} (j : Nat) (u : Value) (h1 : g ≠ r) : In (w.setCell ⟨g, j, none⟩ u) r s a bad :=
 h.grow (gs_ _ _ _ _) (fun e => h1 (Option.some.inj e))
theorem In.new {w w' : World} {r : Nat} {s : ByteArray} {a : Nat} {bad : Bool} (h : In w r s a bad) {B : Nat} (hB : w.heap.size ≤ B) (hw : Below B w w') : In w' r s a bad :=
 h.grow (row := none) ⟨hw.os, hw.tape, hw.output, hw.size, fun i hi _ => hw.block i (by omega)⟩ (by simp)
def put5 (w : World) (N : Nat) (v0 v1 v2 v3 v4 : Value) : World := ((((w.setCell ⟨N, 0, none⟩ v0).setCell ⟨N, 1, none⟩ v1).setCell ⟨N, 2, none⟩ v2).setCell ⟨N, 3, none⟩ v3).setCell ⟨N, 4, none⟩ v4
theorem put5_grown (w : World) (N : Nat) (v0 v1 v2 v3 v4 : Value) : w.grownBy (put5 w N v0 v1 v2 v3 v4) (some N) := by
 unfold put5
 iterate 4 refine gt_ ?_ (gs_ _ _ _ _)
 exact gs_ _ _ _ _
theorem rec_end {w W : World} {r : Nat} {n d : ByteArray} {t c l : Int} {s : ByteArray} {a : Nat} {bad : Bool} (h : RS w W r n t c l d) (hi : In W r s a bad) (hrl : r < w.heap.size) (B : Bool) :
  (put5 (W.setCell ⟨r, 2, none⟩ (.bool B)) w.heap.size (.string n) (.int .u16 t) (.int .u16 c) (.int .u32 l) (.string d)).heap[w.heap.size]? = some (.cells #[.string n, .int .u16 t, .int .u16 c, .int .u32 l, .string d] 69) ∧
  In (put5 (W.setCell ⟨r, 2, none⟩ (.bool B)) w.heap.size (.string n) (.int .u16 t) (.int .u16 c) (.int .u32 l) (.string d)) r s a B ∧
  w.grownBy (put5 (W.setCell ⟨r, 2, none⟩ (.bool B)) w.heap.size (.string n) (.int .u16 t) (.int .u16 c) (.int .u32 l) (.string d)) (some r) := by
 have hz : (W.setCell ⟨r, 2, none⟩ (.bool B)).heap[w.heap.size]? = some (.cells #[.string ⟨#[]⟩, .int .u16 0, .int .u16 0, .int .u32 0, .string ⟨#[]⟩] 69) := by
  rw [Below.heap_setCell _ _ _ _ (by simp; omega)]
  exact h.res
 refine ⟨?_, (hi.setBad B).grow (put5_grown _ _ _ _ _ _ _) (fun e => by have := Option.some.inj e; omega), grownBy_trans' (gt_ h.grown (gs_ _ _ _ _)) (put5_grown _ _ _ _ _ _ _) (.inr ⟨_, rfl, Nat.le_refl _⟩)⟩
 unfold put5
 rw [hs_ (hs_ (hs_ (hs_ (hs_ hz _) _) _) _) _]
 rfl
theorem data_bad {s : ByteArray} {k : Int} {n a : Nat} {bad : Bool} {x : ByteArray} (hk : named k = true) (h : Ran (pName s) (stOf a bad) x none) (y : ByteArray) : Ran (pData s k n) (stOf a bad) y none := by
 cases bad with
 | true => exact Ran.bad _ _
 | false =>
  rw [stOf_false] at h ⊢
  refine Ran.fail ?_ _
  unfold pData
  rw [if_pos hk]
  cases hp : pName s a with
  | none => rfl
  | some r =>
   have h1 := h.1
   simp only [Option.bind_some, hp, Option.map_some] at h1
   cases h1
theorem data_text {s : ByteArray} {k : Int} {n : Nat} (hk : named k = false) : pData s k n = pText s n := by
 funext a
 unfold pData
 rw [if_neg (by rw [hk]; decide)]
theorem text_end {s : ByteArray} {n a a' : Nat} {bad : Bool} {x : ByteArray} (h : Ran (pText s n) (stOf a bad) x (some a')) : a' = a + n ∧ bad = false := by
 obtain ⟨a0, h1, h2⟩ := h.le a' rfl
 cases bad with
 | true => cases h1
 | false =>
  cases h1
  unfold pText at h2
  split at h2
  ·cases h2; exact ⟨rfl, rfl⟩
  ·cases h2
theorem recordI (w : World) (r : Nat) (s : ByteArray) (a : Nat) (bad : Bool) (h : In w r s a bad) :
  Calls Tryz.prog 165 #[.pointer (some ⟨r, 0, none⟩)] w fun e w' => ∃ q : Rc, e = .returned (.agg q.cells.toArray) ∧ Hid (WfR q ∧ OutI (pR s) w w' r s a bad q) := by
 have HR := hide h
 have hrl : r < w.heap.size := hl_ h.box
 have hs := h.small
 clear h
 go_enter Tryz.func165, Tryz.ntmps165
 go_wp2_with fail
 have HW0 : Hid (RS w ((w.alloc (Obj.cells #[.string ⟨#[]⟩, .int .u16 0, .int .u16 0, .int .u32 0, .string ⟨#[]⟩] 69)).alloc (Obj.cells #[.string ⟨#[]⟩, .int .u16 0, .int .u16 0, .int .u32 0, .string ⟨#[]⟩] 69)) r ⟨#[]⟩ 0 0 0 ⟨#[]⟩) := by
  refine ⟨heap_old (hn_ _ _) _, ?_, grownBy_below (((Below.refl _ _).alloc (Nat.le_refl _) _).alloc (by rw [as_]; omega) _) _⟩
  have := hn_ (w.alloc (Obj.cells #[.string ⟨#[]⟩, .int .u16 0, .int .u16 0, .int .u32 0, .string ⟨#[]⟩] 69)) (Obj.cells #[.string ⟨#[]⟩, .int .u16 0, .int .u16 0, .int .u32 0, .string ⟨#[]⟩] 69)
  rw [as_] at this
  exact this
 have HR0 := hide (HR.out.new (Nat.le_refl _) (((Below.refl w.heap.size w).alloc (Nat.le_refl _) (Obj.cells #[.string ⟨#[]⟩, .int .u16 0, .int .u16 0, .int .u32 0, .string ⟨#[]⟩] 69)).alloc (by rw [as_]; omega) (Obj.cells #[.string ⟨#[]⟩, .int .u16 0, .int .u16 0, .int .u32 0, .string ⟨#[]⟩] 69)))
 generalize ((w.alloc (Obj.cells #[.string ⟨#[]⟩, .int .u16 0, .int .u16 0, .int .u32 0, .string ⟨#[]⟩] 69)).alloc (Obj.cells #[.string ⟨#[]⟩, .int .u16 0, .int .u16 0, .int .u32 0, .string ⟨#[]⟩] 69)) = W0 at HW0 HR0 ⊢
 refine (nameI W0 r s a bad HR0.out).mono ?_
 rintro e w1 ⟨x, rfl, H1⟩
 obtain ⟨hx, a1, bad1, R1, G1, Ra1⟩ := H1.out
 have HW1 := hide (HW0.out.move hrl G1)
 have hc1 := bc_ HW1.out.box
 have hf1 := fz_ HW1.out.box
 have HW1b := hide (HW1.out.set 0 (.string x) (n' := x) (t' := 0) (c' := 0) (l' := 0) (d' := ⟨#[]⟩) rfl)
 have HR1 := hide (R1.aside 0 (.string x) (g := w.heap.size + 1) (by omega))
 have HA1 := hide Ra1
 clear H1 R1 G1 Ra1
 go_wp2_with fail
 generalize (w1.setCell ⟨w.heap.size + 1, 0, none⟩ (.string x)) = W1 at HW1b HR1 ⊢
 clear hc1 hf1
 refine (num2I W1 r s a1 bad1 HR1.out).mono ?_
 rintro e w2 ⟨t, rfl, ht, H2⟩
 obtain ⟨a2, bad2, R2, G2, Ra2⟩ := H2.out
 have HW2 := hide (HW1b.out.move hrl G2)
 have HR2 := hide R2
 have HA2 := hide Ra2
 clear H2 R2 G2 Ra2
 go_wp2_with fail
 refine (num2I w2 r s a2 bad2 HR2.out).mono ?_
 rintro e w3 ⟨k, rfl, hk, H3⟩
 obtain ⟨a3, bad3, R3, G3, Ra3⟩ := H3.out
 have HW3 := hide (HW2.out.move hrl G3)
 have HR3 := hide R3
 have HA3 := hide Ra3
 clear H3 R3 G3 Ra3
 go_wp2_with fail
 refine (num4I w3 r s a3 bad3 HR3.out).mono ?_
 rintro e w4 ⟨l, rfl, hl, H4⟩
 obtain ⟨a4, bad4, R4, G4, Ra4⟩ := H4.out
 have HW4 := hide (HW3.out.move hrl G4)
 have HR4 := hide R4
 have HA4 := hide Ra4
 clear H4 R4 G4 Ra4
 have hc4 := bc_ HW4.out.box
 have hf4 := fz_ HW4.out.box
 go_wp2_with fail
 have HW4b := hide (((HW4.out.set 1 (.int .u16 t) (n' := x) (t' := t) (c' := 0) (l' := 0) (d' := ⟨#[]⟩) rfl).set 2 (.int .u16 k) (n' := x) (t' := t) (c' := k) (l' := 0) (d' := ⟨#[]⟩) rfl).set 3 (.int .u32 l) (n' := x) (t' := t) (c' := k) (l' := l) (d' := ⟨#[]⟩) rfl)
 have HR4b := hide (((HR4.out.aside 1 (.int .u16 t) (g := w.heap.size + 1) (by omega)).aside 2 (.int .u16 k) (g := w.heap.size + 1) (by omega)).aside 3 (.int .u32 l) (g := w.heap.size + 1) (by omega))
 clear hc4 hf4
 generalize (((w4.setCell ⟨w.heap.size + 1, 1, none⟩ (.int .u16 t)).setCell ⟨w.heap.size + 1, 2, none⟩ (.int .u16 k)).setCell ⟨w.heap.size + 1, 3, none⟩ (.int .u32 l)) = W4 at HW4b HR4b ⊢
 refine (num2I W4 r s a4 bad4 HR4b.out).mono ?_
 rintro e w5 ⟨m, rfl, hm, H5⟩
 obtain ⟨a5, bad5, R5, G5, Ra5⟩ := H5.out
 have HW5 := hide (HW4b.out.move hrl G5)
 have HR5 := hide R5
 have HA5 := hide Ra5
 clear H5 R5 G5 Ra5
 have hc5 := bc_ HW5.out.box
 have hcr5 := HR5.out.cell
 have ha5 := HR5.out.le
 go_wp2_with fail
 refine (isNamed_any t w5).mono ?_
 rintro e w5' ⟨rfl, rfl⟩
 by_cases hnm : named t = true
 ·have HNM := hide hnm
  rw [hnm]
  clear hnm
  go_wp2_with fail
  refine (nameI _ r s a5 bad5 HR5.out).mono ?_
  rintro e w6 ⟨d, rfl, H6⟩
  obtain ⟨hd, a6, bad6, R6, G6, Ra6⟩ := H6.out
  have HW6 := hide (HW5.out.move hrl G6)
  have HA6 := hide Ra6
  have HR6b := hide (R6.aside 4 (.string d) (g := w.heap.size + 1) (by omega))
  have HW6b := hide (HW6.out.set 4 (.string d) (n' := x) (t' := t) (c' := k) (l' := l) (d' := d) rfl)
  have hc6 := bc_ HW6.out.box
  have hf6 := fz_ HW6.out.box
  clear H6 R6 G6 Ra6 hc5 hcr5
  have hcr6 := HR6b.out.cell
  have hfr6 := HR6b.out.frozen
  have hc7 := bc_ HW6b.out.box
  have hcz := bc_ HW6b.out.res
  have hfz := fz_ HW6b.out.res
  have ha6 := HR6b.out.le
  cases bad6
  ·by_cases hae : a6 = a5 + m
   ·have HAE := hide hae
    go_wp2_with fail
    clear hc6 hf6 hcr6 hfr6 hc7 hcz hfz
    generalize (w6.setCell ⟨w.heap.size + 1, 4, none⟩ (.string d)) = W6 at HW6b HR6b ⊢
    obtain ⟨e1, e2, e3⟩ := rec_end HW6b.out HR6b.out hrl false
    refine bodyPost_ret (results_cell_row rfl _ _ w.heap.size _ _ _ _ rfl e1 undR rfl (by kernel_rfl)) rfl ?_
    refine ⟨⟨x, t, k, l, d⟩, rfl, ⟨by dsimp only; omega, by dsimp only; omega, by dsimp only; omega, by dsimp only; omega, by dsimp only; omega, by dsimp only; omega, by dsimp only; omega, by dsimp only; omega⟩, a6, false, e2, e3, HA1.out.bind (HA2.out.bind (HA3.out.bind (HA4.out.bind (HA5.out.bind ((show Ran (pData s t m) (stOf a5 bad5) d (stOf a6 false) from data_same HNM.out HA6.out HAE.out).bind (Ran.pure _ _))))))⟩
   ·have HAE := hide hae
    have hb9 : ((a6 : Int) != (a5 : Int) + (m : Int)) = true := by simp; omega
    go_wp2_with fail
    clear hc6 hf6 hcr6 hfr6 hc7 hcz hfz
    generalize (w6.setCell ⟨w.heap.size + 1, 4, none⟩ (.string d)) = W6 at HW6b HR6b ⊢
    obtain ⟨e1, e2, e3⟩ := rec_end HW6b.out HR6b.out hrl true
    refine bodyPost_ret (results_cell_row rfl _ _ w.heap.size _ _ _ _ rfl e1 undR rfl (by kernel_rfl)) rfl ?_
    refine ⟨⟨x, t, k, l, d⟩, rfl, ⟨by dsimp only; omega, by dsimp only; omega, by dsimp only; omega, by dsimp only; omega, by dsimp only; omega, by dsimp only; omega, by dsimp only; omega, by dsimp only; omega⟩, a6, true, e2, e3, HA1.out.bind (HA2.out.bind (HA3.out.bind (HA4.out.bind (HA5.out.bind ((show Ran (pData s t m) (stOf a5 bad5) d (stOf a6 true) from data_other HNM.out HA6.out HAE.out _).bind (Ran.pure _ _))))))⟩
  ·go_wp2_with fail
   clear hc6 hf6 hcr6 hfr6 hc7 hcz hfz
   generalize (w6.setCell ⟨w.heap.size + 1, 4, none⟩ (.string d)) = W6 at HW6b HR6b ⊢
   obtain ⟨e1, e2, e3⟩ := rec_end HW6b.out HR6b.out hrl true
   refine bodyPost_ret (results_cell_row rfl _ _ w.heap.size _ _ _ _ rfl e1 undR rfl (by kernel_rfl)) rfl ?_
   refine ⟨⟨x, t, k, l, d⟩, rfl, ⟨by dsimp only; omega, by dsimp only; omega, by dsimp only; omega, by dsimp only; omega, by dsimp only; omega, by dsimp only; omega, by dsimp only; omega, by dsimp only; omega⟩, a6, true, e2, e3, HA1.out.bind (HA2.out.bind (HA3.out.bind (HA4.out.bind (HA5.out.bind ((show Ran (pData s t m) (stOf a5 bad5) d (stOf a6 true) from data_bad HNM.out HA6.out _).bind (Ran.pure _ _))))))⟩
 ·have hnm2 : named t = false := by simpa using hnm
  have HNM := hide hnm2
  rw [hnm2]
  clear hnm hnm2
  go_wp2_with fail
  refine (textI _ r s a5 bad5 m hm HR5.out).mono ?_
  rintro e w6 ⟨d, rfl, H6⟩
  obtain ⟨hd, a6, bad6, R6, G6, Ra6⟩ := H6.out
  have HW6 := hide (HW5.out.move hrl G6)
  have HA6 := hide Ra6
  have HR6b := hide (R6.aside 4 (.string d) (g := w.heap.size + 1) (by omega))
  have HW6b := hide (HW6.out.set 4 (.string d) (n' := x) (t' := t) (c' := k) (l' := l) (d' := d) rfl)
  have hc6 := bc_ HW6.out.box
  have hf6 := fz_ HW6.out.box
  clear H6 R6 G6 Ra6 hc5 hcr5
  have hcr6 := HR6b.out.cell
  have hfr6 := HR6b.out.frozen
  have hc7 := bc_ HW6b.out.box
  have hcz := bc_ HW6b.out.res
  have hfz := fz_ HW6b.out.res
  have ha6 := HR6b.out.le
  rw [← data_text HNM.out] at HA6
  cases bad6
  ·have hae : a6 = a5 + m := (text_end (data_text (n := m) HNM.out ▸ HA6.out)).1
   have HAE := hide hae
   go_wp2_with fail
   clear hc6 hf6 hcr6 hfr6 hc7 hcz hfz
   generalize (w6.setCell ⟨w.heap.size + 1, 4, none⟩ (.string d)) = W6 at HW6b HR6b ⊢
   obtain ⟨e1, e2, e3⟩ := rec_end HW6b.out HR6b.out hrl false
   refine bodyPost_ret (results_cell_row rfl _ _ w.heap.size _ _ _ _ rfl e1 undR rfl (by kernel_rfl)) rfl ?_
   refine ⟨⟨x, t, k, l, d⟩, rfl, ⟨by dsimp only; omega, by dsimp only; omega, by dsimp only; omega, by dsimp only; omega, by dsimp only; omega, by dsimp only; omega, by dsimp only; omega, by dsimp only; omega⟩, a6, false, e2, e3, HA1.out.bind (HA2.out.bind (HA3.out.bind (HA4.out.bind (HA5.out.bind ((show Ran (pData s t m) (stOf a5 bad5) d (stOf a6 false) from HA6.out).bind (Ran.pure _ _))))))⟩
  ·go_wp2_with fail
   clear hc6 hf6 hcr6 hfr6 hc7 hcz hfz
   generalize (w6.setCell ⟨w.heap.size + 1, 4, none⟩ (.string d)) = W6 at HW6b HR6b ⊢
   obtain ⟨e1, e2, e3⟩ := rec_end HW6b.out HR6b.out hrl true
   refine bodyPost_ret (results_cell_row rfl _ _ w.heap.size _ _ _ _ rfl e1 undR rfl (by kernel_rfl)) rfl ?_
   refine ⟨⟨x, t, k, l, d⟩, rfl, ⟨by dsimp only; omega, by dsimp only; omega, by dsimp only; omega, by dsimp only; omega, by dsimp only; omega, by dsimp only; omega, by dsimp only; omega, by dsimp only; omega⟩, a6, true, e2, e3, HA1.out.bind (HA2.out.bind (HA3.out.bind (HA4.out.bind (HA5.out.bind ((show Ran (pData s t m) (stOf a5 bad5) d (stOf a6 true) from HA6.out).bind (Ran.pure _ _))))))⟩
end Go.Proofs.YtafoepfhepdcoaaGreat
namespace Go.Proofs.YtafoepfhepdcoaaGreat
open Go.RowKit Go.Trawl
structure IL (w wr : World) (r : Nat) (s : ByteArray) (a : Nat) (bad : Bool) (k ar : Nat) (br : Bool) (qs : List Rc) (v : Value) : Prop where
 rd : In wr r s ar br
 grown : w.grownBy wr (some r)
 ran : Ran ((pR s).many k) (stOf a bad) qs (stOf ar br)
 own : wr.ownsRow 0 69 5 v qs.length ((qs.map Rc.cells).flatten)
 new : ∀ g, v.ownBlock = some g → w.heap.size ≤ g
 wf : ∀ q ∈ qs, WfR q
theorem IL.next {w wr w1 w5 : World} {r : Nat} {s : ByteArray} {a : Nat} {bad : Bool} {k ar a1 : Nat} {br bad1 : Bool} {qs : List Rc} {q : Rc} {v v5 : Value} (h : IL w wr r s a bad k ar br qs v) (hrl : r < w.heap.size)
  (G1 : wr.grownBy w1 (some r)) (R1 : In w1 r s a1 bad1) (A1 : Ran (pR s) (stOf ar br) q (stOf a1 bad1)) (wq : WfR q) (o1 o2 : Obj)
  (g : Grew 69 5 ((w1.alloc o1).alloc o2) w5 v v5 (qs.length + 1) ((qs.map Rc.cells).flatten ++ q.cells)) : IL w w5 r s a bad (k + 1) a1 bad1 (qs ++ [q]) v5 := by
 have hb2 : Below w1.heap.size w1 ((w1.alloc o1).alloc o2) := ((Below.refl _ _).alloc (Nat.le_refl _) _).alloc (by rw [as_]; omega) _
 have hz : w.heap.size ≤ ((w1.alloc o1).alloc o2).heap.size := Nat.le_trans (Nat.le_trans h.grown.size G1.size) hb2.size
 refine ⟨(R1.new (Nat.le_refl _) hb2).grow g.grown (ne_row h.new hrl), ?_, h.ran.more A1, ?_, row_new h.new g hz, ?_⟩
 ·exact grownBy_row (gt_ (gt_ h.grown G1) (grownBy_below hb2 _)) g.grown h.new
 ·have e1 : (qs ++ [q]).length = qs.length + 1 := by simp
  have e2 : ((qs ++ [q]).map Rc.cells).flatten = (qs.map Rc.cells).flatten ++ q.cells := by simp
  rw [e1, e2]
  exact g.own
 ·intro y hy
  rcases List.mem_append.1 hy with hy | hy
  ·exact h.wf y hy
  ·simp at hy
   subst hy
   exact wq
theorem recordsI (w : World) (r : Nat) (s : ByteArray) (a : Nat) (bad : Bool) (n : Nat) (hn : n ≤ 65535) (h : In w r s a bad) :
  Calls Tryz.prog 129 #[.pointer (some ⟨r, 0, none⟩), .int .i64 n] w fun e w' =>
   ∃ (qs : List Rc) (al : Option Addr) (cl : Nat), e = .returned (.slice al qs.length cl) ∧ Hid (OutI ((pR s).many n) w w' r s a bad qs ∧ w'.ownsRow 0 69 5 (.slice al qs.length cl) qs.length ((qs.map Rc.cells).flatten) ∧ (∀ g, (Value.slice al qs.length cl).ownBlock = some g → w.heap.size ≤ g) ∧ (∀ q ∈ qs, WfR q) ∧ qs.length ≤ 65535) := by
 obtain ⟨i0, hi, hz0, hz1, hz2⟩ := info_parts rI0
 have hrl : r < w.heap.size := hl_ h.box
 have H0 : Hid (IL w w r s a bad 0 a bad [] (.slice none 0 0)) := ⟨h, grownBy_refl _ _, Ran.pure _ _, World.ownsRow_nil _ _ _ _, (fun g hg => by cases hg), (fun q hq => by cases hq)⟩
 clear h
 go_enter Tryz.func129, Tryz.ntmps129
 go_wp2_with fail
 go_loopw [5, 6] (fun v i wr => ∃ (k ar : Nat) (br : Bool) (qs : List Rc) (al : Option Addr) (cl : Nat), v = .slice al qs.length cl ∧ i = .int .i64 k ∧ k ≤ n ∧ qs.length ≤ k ∧ Hid (IL w wr r s a bad k ar br qs (.slice al qs.length cl))) (fun _ i _ => n - (intOf i).toNat)
 case atStart => exact ⟨0, a, bad, [], none, 0, rfl, rfl, Nat.zero_le _, by simp, H0.out⟩
 case round =>
  obtain ⟨k, ar, br, qs, al, cl, rfl, rfl, hk, hql, HQ⟩ := hrel
  have hcr := HQ.out.rd.cell
  by_cases hlt : k < n
  ·have HLT := hide hlt
   cases br
   ·have hwz := HQ.out.grown.size
    go_wp2_with fail
    refine (recordI wr r s ar false HQ.out.rd).mono ?_
    rintro e w1 ⟨q, rfl, H1⟩
    obtain ⟨wq, a1, bad1, R1, G1, Ra1⟩ := H1.out
    have hw1 := G1.size
    have HR1 := hide R1
    have HG1 := hide G1
    have HA1 := hide Ra1
    have HWF := hide wq
    have HO1 := hide (HQ.out.own.kept G1 (own_apart HQ.out.new hrl))
    clear H1 R1 G1 Ra1 wq hcr
    obtain ⟨nm, ty, cs, tl, dt⟩ := q
    simp only [Rc.cells]
    go_wp2_with (at_builtin; refine wpList_append_grew _ rfl _ _ 28 rfl 69 i0 _ 5 40 uRs hi hz0 hz1 hz2 rfl (by decide) (.slice al qs.length cl) qs.length ((qs.map Rc.cells).flatten) rfl ⟨w1.heap.size + 1, 0, none⟩ 1 1 [.string nm, .int .u16 ty, .int .u16 cs, .int .u32 tl, .string dt] rfl rfl one_r5 ((HO1.out.alloc _).alloc _) (cells_new2 w1 _ #[.string nm, .int .u16 ty, .int .u16 cs, .int .u32 tl, .string dt] _) (by unfold maxLen; omega) (by omega) ?_; intro v5 w5 g5; obtain ⟨a5, c5, rfl⟩ := os_ g5.own; have HG5 := hide g5; clear g5)
    refine ⟨⟨k + 1, a1, bad1, qs ++ [⟨nm, ty, cs, tl, dt⟩], a5, c5, by rw [List.length_append]; rfl, by go_num, by omega, by rw [List.length_append]; simp; omega, ?_⟩, by simp [intOf]; omega⟩
    rw [List.length_append]
    exact HQ.out.next hrl HG1.out HR1.out HA1.out HWF.out _ _ HG5.out
   ·go_wp2_with fail
    go_ret
    exact ⟨qs, _, _, rfl, ⟨ar, true, HQ.out.rd, HQ.out.grown, HQ.out.ran.stop (by omega) _⟩, HQ.out.own, HQ.out.new, HQ.out.wf, by omega⟩
  ·go_wp2_with fail
   go_ret
   have e : k = n := by omega
   subst e
   exact ⟨qs, _, _, rfl, ⟨ar, br, HQ.out.rd, HQ.out.grown, HQ.out.ran⟩, HQ.out.own, HQ.out.new, HQ.out.wf, by omega⟩
end Go.Proofs.YtafoepfhepdcoaaGreat
