/- The reference's names. -/
import Derived.Test.YtafoepfhepdcoaaGreatUIn
namespace Go.Proofs.YtafoepfhepdcoaaGreat
open Go.RowKit Go.Trawl

theorem whole_len {s : ByteArray} {k : Nat} {r : List UInt8 × Nat} (h : whole s k = some r) : behind s k + 1 ≤ r.1.length + k ∧ behind s k < s.size := by
  have hk := le_behind s k
  by_cases hh : behind s k < s.size ∧ (at8 s (behind s k) = 0 ∨ 192 ≤ at8 s (behind s k) ∧ behind s k + 1 < s.size ∧ ptr s (behind s k) < k)
  · obtain ⟨h1, h2 | ⟨h2, h3, h4⟩⟩ := hh
    · rw [whole_end h1 h2] at h
      cases h
      rw [List.length_append, cut_length (by omega)]
      simp only [List.length_cons, List.length_nil]
      omega
    · rw [whole_on h1 h2 h3 h4] at h
      cases hr : whole s (ptr s (behind s k)) with
      | none => rw [hr] at h; cases h
      | some q =>
        have := whole_ends hr
        rw [hr] at h
        cases h
        rw [List.length_append, cut_length (by omega)]
        omega
  · rw [whole_no hh] at h
    cases h
theorem drewN_two (w : World) (n m : Nat) : (w.drewN n).drewN m = w.drewN (n + m) := by
  show ({ w with drawn := w.drawn + n + m } : World) = { w with drawn := w.drawn + (n + m) }
  rw [Nat.add_assoc]
theorem In.after {w w1 : World} {r : Nat} {s : ByteArray} {a : Nat} {bad : Bool} {n : Nat} (h : In w r s a bad) (e : w1 = w.drew.drewN n) : In w1 r s a bad := by
  rw [e]
  exact (h.grow (grownBy_drew w none) (by simp)).drewN n
theorem grown_after {w w1 : World} {n : Nat} (e : w1 = w.drew.drewN n) (r : Option Nat) : w.grownBy w1 r := by
  rw [e]
  exact grownBy_trans (grownBy_drew _ _) (grownBy_drewN _ n _)
/-- It is no name, or a longer one. -/
def Long (s : ByteArray) (a : Nat) : Prop := ∀ r, whole s a = some r → 255 < r.1.length
theorem long_no {s : ByteArray} {a : Nat} (h : whole s a = none) : Long s a := fun r hr => by rw [h] at hr; cases hr
theorem ext_join {s : ByteArray} {a k j : Nat} (h1 : a ≤ k) (h2 : k ≤ j) : (⟨(cut s a k).toArray⟩ : ByteArray) ++ s.extract k j = ⟨(cut s a j).toArray⟩ := by
  rw [ext_cut, ← cut_join h1 h2]
  apply ByteArray.ext
  simp
structure Lab (s : ByteArray) (a : Nat) (t : ByteArray) (k : Nat) (ok : Bool) : Prop where
  yes : ok = true → whole s a = some (t.data.toList, k)
  no : ok = false → Long s a
  size : t.size ≤ 600 * (a + 1)
  le : k ≤ s.size
theorem Lab.bad {s : ByteArray} {a : Nat} (h : Long s a) : Lab s a ⟨#[]⟩ 0 false := ⟨(fun h => by cases h), fun _ => h, Nat.zero_le _, Nat.zero_le _⟩

set_option maxRecDepth 10000 in
set_option maxHeartbeats 4000000 in
theorem labels_any (s : ByteArray) (hs : s.size ≤ 512) (a : Nat) : a ≤ s.size → ∀ w, Calls Tryz.prog 164 #[.string s, .int .i64 a] w fun e w' =>
    ∃ (t : ByteArray) (k : Nat) (ok : Bool), e = .returned (.tuple #[.string t, .int .i64 k, .bool ok]) ∧ Hid (Lab s a t k ok ∧ ∃ n, w' = w.drewN n) := by
  induction a using Nat.strongRecOn with
  | _ a ih =>
    intro ha w
    have IH := hide ih
    clear ih
    go_enter Tryz.func164, Tryz.ntmps164
    go_wp2_with fail
    go_loopw [7, 8] (fun v i wr => ∃ (k : Nat) (o : ByteArray), v = .string o ∧ i = .int .i64 k ∧ a ≤ k ∧ k ≤ s.size ∧ o.size = k - a ∧ k - a ≤ 255 ∧ Hid (o = ⟨(cut s a k).toArray⟩) ∧ Hid (behind s a = behind s k) ∧ wr = w) (fun _ i _ => 1000 - (intOf i).toNat)
    case atStart => exact ⟨a, ⟨#[]⟩, rfl, rfl, Nat.le_refl _, ha, by rw [Nat.sub_self]; rfl, by omega, by unfold Hid; rw [cut_nil], rfl, rfl⟩
    case round =>
      obtain ⟨k, o, rfl, rfl, hak, hk, hos, ho255, HO, HB, rfl⟩ := hrel
      by_cases hlt : k < s.size
      · have hidx := idx s k hlt
        have hl8 := at8_lt s k
        by_cases h1 : 0 < at8 s k
        · by_cases h2 : at8 s k ≤ 63
          · have HE : Hid (behind s k = behind s (k + 1 + at8 s k)) := behind_next s k hlt h1 h2
            by_cases h3 : k + 1 + at8 s k ≤ s.size
            · have hmin : min (k + (1 + at8 s k)) s.size = k + (1 + at8 s k) := by omega
              go_wp2_with fail
              · go_ret3
                refine ⟨_, _, _, rfl, Lab.bad (fun r hr => ?_), 0, rfl⟩
                have h7 := whole_len hr
                have h8 := le_behind s (k + 1 + at8 s k)
                rw [HB.out, HE.out] at h7
                omega
              · refine ⟨⟨k + (1 + at8 s k), _, rfl, by go_num, by omega, by omega, ?_, by omega, ?_, ?_, trivial⟩, by simp [intOf]; omega⟩
                · rw [ByteArray.size_append, hos, ByteArray.size_extract, hmin]
                  omega
                · unfold Hid
                  rw [HO.out, ext_join hak (by omega)]
                · unfold Hid
                  rw [HB.out, HE.out, Nat.add_assoc]
            · go_wp2_with fail
              go_ret3
              refine ⟨_, _, _, rfl, Lab.bad (fun r hr => ?_), 0, rfl⟩
              have h7 := whole_len hr
              have h8 := le_behind s (k + 1 + at8 s k)
              rw [HB.out, HE.out] at h7
              omega
          · have HE : Hid (behind s a = k) := HB.out.trans (behind_stop s k (by omega))
            by_cases h3 : at8 s k < 192
            · go_wp2_with fail
              go_ret3
              exact ⟨_, _, _, rfl, Lab.bad (long_no (whole_no (by rw [HE.out]; omega))), 0, rfl⟩
            · by_cases h4 : k + 1 < s.size
              · have hidx2 := idx s (k + 1) h4
                have hl9 := at8_lt s (k + 1)
                obtain ⟨t, ht⟩ : ∃ t, t = ptr s k := ⟨_, rfl⟩
                have ht2 : (t : Int) = ((at8 s k : Int) - 192) * 256 + (at8 s (k + 1) : Int) := by rw [ht]; unfold ptr; omega
                have HT := hide ht
                clear ht
                have hidx3 : ∀ W, (Instr.index 9 (.string s) (.int .i64 ((k : Int) + 1))).run Tryz.prog W = .ok (.int .u8 (at8 s (k + 1))) W := fun W => by
                  have := idx s (k + 1) h4 W
                  rwa [Int.natCast_add] at this
                clear hidx2
                have hw1 : IntKind.i64.wrap ((k : Int) + 1) = (k : Int) + 1 := by rw [IntKind.wrap_i64]; omega
                have hw2 : IntKind.i64.wrap ((at8 s k : Int) - 192) = (at8 s k : Int) - 192 := by rw [IntKind.wrap_i64]; omega
                have hw3 : IntKind.i64.wrap (((at8 s k : Int) - 192) * 256) = ((at8 s k : Int) - 192) * 256 := by rw [IntKind.wrap_i64]; omega
                have hw4 : IntKind.i64.wrap (((at8 s k : Int) - 192) * 256 + (at8 s (k + 1) : Int)) = (t : Int) := by rw [IntKind.wrap_i64]; omega
                clear ht2
                go_wp2_with fail
                go_quiet (fail)
                by_cases h5 : t < a
                · go_wp2_with fail
                  refine (IH.out t h5 (by omega) _).mono ?_
                  rintro e w2 ⟨t2, k2, ok, rfl, H2⟩
                  have ht2 := H2.out.1.size
                  go_wp2_with fail
                  go_ret3
                  obtain ⟨L2, n2', hw2'⟩ := H2.out
                  have h7 := HE.out
                  have hon := whole_on (s := s) (k := a) (by omega) (by rw [h7]; omega) (by omega) (by rw [h7, ← HT.out]; exact h5)
                  rw [h7, ← HT.out] at hon
                  refine ⟨o ++ t2, k + 2, ok, rfl, ⟨fun hok => ?_, fun hok r hr => ?_, ?_, by omega⟩, nq + n2', by rw [hw2']; exact drewN_two _ _ _⟩
                  · rw [hon, L2.yes hok, HO.out]
                    simp
                  · rw [hon] at hr
                    cases hq : whole s t with
                    | none => rw [hq] at hr; cases hr
                    | some q =>
                      have := L2.no hok q hq
                      rw [hq] at hr
                      cases hr
                      rw [List.length_append]
                      omega
                  · rw [ByteArray.size_append, hos]
                    omega
                · go_wp2_with fail
                  go_ret3
                  exact ⟨_, _, _, rfl, Lab.bad (long_no (whole_no (by rw [HE.out, ← HT.out]; omega))), nq, rfl⟩
              · go_wp2_with fail
                go_ret3
                exact ⟨_, _, _, rfl, Lab.bad (long_no (whole_no (by rw [HE.out]; omega))), 0, rfl⟩
        · have HE : Hid (behind s a = k) := HB.out.trans (behind_stop s k (by omega))
          have h0 : at8 s k = 0 := by omega
          have hidx0 : ∀ W, (Instr.index 9 (.string s) (.int .i64 (k : Int))).run Tryz.prog W = .ok (.int .u8 0) W := fun W => by rw [hidx W, h0]; rfl
          clear hidx
          go_wp2_with fail
          go_ret3
          refine ⟨o ++ ⟨#[0]⟩, k + 1, true, rfl, ⟨fun _ => ?_, (fun h => by cases h), ?_, by omega⟩, 0, rfl⟩
          · rw [whole_end (by rw [HE.out]; exact hlt) (by rw [HE.out]; exact h0), HE.out, HO.out]
            simp
          · rw [ByteArray.size_append, hos]
            have : (⟨#[0]⟩ : ByteArray).size = 1 := rfl
            omega
      · have HE : Hid (behind s a = k) := HB.out.trans (behind_stop s k (by omega))
        go_wp2_with fail
        go_ret3
        exact ⟨_, _, _, rfl, Lab.bad (long_no (whole_no (by rw [HE.out]; omega))), 0, rfl⟩

theorem pName_yes {s : ByteArray} {a : Nat} {t : ByteArray} {k : Nat} {ok : Bool} (h : Lab s a t k ok) (h1 : ok = true) (h2 : t.size ≤ 255) : pName s a = some (t, k) := by
  unfold pName
  rw [h.yes h1]
  simp only [Option.bind_some]
  rw [if_pos (by rw [Array.length_toList]; exact h2)]
theorem pName_no {s : ByteArray} {a : Nat} {t : ByteArray} {k : Nat} {ok : Bool} (h : Lab s a t k ok) (h1 : ok = false ∨ ¬ t.size ≤ 255) : pName s a = none := by
  unfold pName
  cases ok with
  | true =>
    rcases h1 with h1 | h1
    · cases h1
    · rw [h.yes rfl]
      simp only [Option.bind_some]
      rw [if_neg (by rw [Array.length_toList]; exact h1)]
  | false =>
    cases hw : whole s a with
    | none => rfl
    | some r =>
      have := h.no rfl r hw
      simp only [Option.bind_some]
      rw [if_neg (by omega)]

set_option maxRecDepth 10000 in
set_option maxHeartbeats 1000000 in
theorem nameI (w : World) (r : Nat) (s : ByteArray) (a : Nat) (bad : Bool) (h : In w r s a bad) :
    Calls Tryz.prog 128 #[.pointer (some ⟨r, 0, none⟩)] w fun e w' => ∃ x : ByteArray, e = .returned (.string x) ∧ Hid (x.size ≤ 255 ∧ OutI (pName s) w w' r s a bad x) := by
  have HR := hide h
  have hs := h.small
  have ha := h.le
  have hcl := h.cell
  have hfr := h.frozen
  clear h
  cases bad
  · go_enter Tryz.func128, Tryz.ntmps128
    go_wp2_with fail
    go_region_held3 (fun w' => w'.cell? ⟨r, 0, none⟩ = some (.string s) ∧ w'.cell? ⟨r, 1, none⟩ = some (.int .i64 a)) (go_keep)
      (first | (go_at_call 164; refine (labels_any s hs a ha w.drew).mono ?_; rintro e w1 ⟨t, k, ok, rfl, H1⟩; obtain ⟨L1, n1, hw1⟩ := H1.out; have HL := hide L1; have hks := L1.le; have HI1 := hide (HR.out.after hw1); have HG1 := hide (grown_after hw1 (some r)); have hcl1 := HI1.out.cell; have hfr1 := HI1.out.frozen; clear H1 L1 hw1))
    have hts : t.size ≤ 307800 := by have := HL.out.size; omega
    cases ok
    · go_wp2_with fail
      go_ret
      exact ⟨⟨#[0]⟩, rfl, by decide, a, true, HI1.out.setBad true, grownBy_trans HG1.out (grownBy_setCell _ _ _ _), Ran.fail (pName_no HL.out (.inl rfl)) _⟩
    · by_cases ht : t.size ≤ 255
      · go_wp2_with fail
        go_ret
        exact ⟨t, rfl, ht, k, false, HI1.out.setAt hks, grownBy_trans HG1.out (grownBy_setCell _ _ _ _), Ran.good (r := (t, k)) (pName_yes HL.out rfl ht)⟩
      · go_wp2_with fail
        go_ret
        exact ⟨⟨#[0]⟩, rfl, by decide, a, true, HI1.out.setBad true, grownBy_trans HG1.out (grownBy_setCell _ _ _ _), Ran.fail (pName_no HL.out (.inr ht)) _⟩
  · go_enter Tryz.func128, Tryz.ntmps128
    go_wp2_with fail
    go_region_held3 (fun w' => w'.cell? ⟨r, 0, none⟩ = some (.string s) ∧ w'.cell? ⟨r, 1, none⟩ = some (.int .i64 a)) (go_keep)
      (first | (go_at_call 164; refine (labels_any s hs a ha w.drew).mono ?_; rintro e w1 ⟨t, k, ok, rfl, H1⟩; obtain ⟨L1, n1, hw1⟩ := H1.out; have HL := hide L1; have hks := L1.le; have HI1 := hide (HR.out.after hw1); have HG1 := hide (grown_after hw1 (some r)); have hcl1 := HI1.out.cell; have hfr1 := HI1.out.frozen; clear H1 L1 hw1))
    have hts : t.size ≤ 307800 := by have := HL.out.size; omega
    go_wp2_with fail
    go_ret
    exact ⟨⟨#[0]⟩, rfl, by decide, a, true, HI1.out.setBad true, grownBy_trans HG1.out (grownBy_setCell _ _ _ _), Ran.bad _ _⟩
end Go.Proofs.YtafoepfhepdcoaaGreat
