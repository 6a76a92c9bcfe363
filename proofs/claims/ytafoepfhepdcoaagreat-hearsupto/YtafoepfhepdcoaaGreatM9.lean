import Derived.Test.YtafoepfhepdcoaaGreatM4
import Derived.Test.YtafoepfhepdcoaaGreatM8
set_option maxRecDepth 100000
set_option maxHeartbeats 8000000
namespace Go.Proofs.YtafoepfhepdcoaaGreat
open Go.RowKit Go.Trawl
attribute [local go_sem] equalQ equalR guardQ guardR buildQ buildR buildQ0 buildR0 Stg.upon
theorem own_type_ne {w : World} {e t : TypeId} {sz : Nat} {v : Value} {n : Nat} {x : List Value} {b : Nat} {cs : Array Value} (h : w.ownsRow 0 e sz v n x) (hb : w.heap[b]? = some (.cells cs t)) (hne : e ≠ t) : v.ownBlock ≠ some b := by
 rcases h.2 with ⟨rfl, _⟩ | ⟨g, cap, cur, rfl, _, hg, _⟩
 ·simp [Value.ownBlock]
 ·intro e1
  have := Option.some.inj e1
  simp only at this
  subst this
  rw [hb] at hg
  injection hg with h1
  injection h1 with _ h2
  exact hne h2.symm
def mixB (mk : Int) (k : Nat) (xb : List Value) : List Value := (List.range k).map (bM mk) ++ xb.drop k
theorem mixB_set (mk : Int) (k : Nat) (xb : List Value) (h : k < xb.length) : (mixB mk k xb).set k (bM mk k) = mixB mk (k + 1) xb := by
 unfold mixB
 rw [List.set_append_right _ _ (by simp)]
 simp only [List.length_map, List.length_range, Nat.sub_self, List.range_succ, List.map_append, List.map_cons, List.map_nil, List.append_assoc]
 congr 1
 rw [List.drop_eq_getElem_cons h]
 rfl
def two2 (A B : World) (j : Nat) : World := if j = 0 then A else B
theorem marksB (w : World) (hb : Nat) (g cap : Nat) (mk : Int) (lb : Nat) (xb : List Value) (h0 : 1 ≤ mk) (h1 : mk ≤ 100000000) (hl : lb ≤ 4194304)
  (hbox : w.heap[hb]? = some (.cells #[.slice (some ⟨g, 0, none⟩) lb cap, .slice none 0 0, .slice none 0 0, .slice none 0 0, .int .i64 mk] 121))
  (hown : w.ownsRow 0 5 1 (.slice (some ⟨g, 0, none⟩) lb cap) lb xb) :
  Calls Tryz.prog 92 #[.pointer (some ⟨hb, 0, none⟩)] w fun e w' => e = .returned (.tuple #[]) ∧ w'.ownsRow 0 5 1 (.slice (some ⟨g, 0, none⟩) lb cap) lb ((List.range lb).map (bM mk)) ∧ w.grownBy w' (some g) := by
 have hne : g ≠ hb := by
  have := own_type_ne hown hbox (by decide)
  simp [Value.ownBlock] at this
  exact this
 have hxl : xb.length = lb := by simpa using hown.1
 have HBX := hide hbox
 have hcb := box_cells hbox
 clear hbox
 go_enter Tryz.func92, Tryz.ntmps92
 go_wp2_with fail
 clear hcb
 go_loopw [2] (fun i wr => ∃ k : Nat, i = .int .i64 k ∧ k ≤ lb ∧ Hid (wr.ownsRow 0 5 1 (.slice (some ⟨g, 0, none⟩) lb cap) lb (mixB mk k xb)) ∧ Hid (w.grownBy wr (some g))) (fun i _ => lb - (intOf i).toNat)
 case atStart => exact ⟨0, rfl, Nat.zero_le _, by show World.ownsRow _ _ _ _ _ _ _; simpa [mixB] using hown, grownBy_refl _ _⟩
 case round =>
  obtain ⟨k, rfl, hk, HO, HG⟩ := hrel
  have hbx : wr.heap[hb]? = _ := (HG.out.block hb (Array.getElem?_eq_some_iff.1 HBX.out).1 (by simp; omega)).trans HBX.out
  have hcr := box_cells hbx
  clear hbx
  by_cases hlt : k < lb
  ·have hx : xb[k]? = some xb[k] := List.getElem?_eq_getElem (by omega)
   have hold : ∃ u, wr.cell? ⟨g, k, none⟩ = some u := by
    have := HO.out.cellAt k (by omega)
    rw [this]
    exact ⟨_, List.getElem?_eq_getElem (by have := HO.out.1; omega)⟩
   obtain ⟨u, hu⟩ := hold
   have hfz : wr.frozen? ⟨g, k, none⟩ = false := HO.out.frozenAt k
   clear hx
   go_wp2_with fail
   refine Stg.wp_region_stage [12] (fun j w' => ∃ n, w' = (two2 wr (wr.setCell ⟨g, k, none⟩ (bM mk k)) j).drewN n) (by kernel_rfl) (by kernel_rfl) ⟨1, rfl⟩ ?_
   refine Stg.lex_uptoC 12 (by decide) (by kernel_rfl) ?_
   simp only [List.take_succ_cons, List.take_zero, List.drop_succ_cons, List.drop_zero]
   rw [show two2 wr (wr.setCell ⟨g, k, none⟩ (bM mk k)) 0 = wr from rfl]
   repeat (first | go_big_quiet_step ((go_at_call 94; exact Calls.quiet_of_same (sign_any _ _ (by omega) (by omega) _))) | quiet_step ((go_at_call 94; exact Calls.quiet_of_same (sign_any _ _ (by omega) (by omega) _))))
   refine wpQuiet_nil ?_
   refine Stg.lex_move 0 (by kernel_rfl) undef ?_ ?_
   ·rintro w' ⟨n, rfl⟩
    rw [show two2 wr (wr.setCell ⟨g, k, none⟩ (bM mk k)) 0 = wr from rfl, show two2 wr (wr.setCell ⟨g, k, none⟩ (bM mk k)) (0 + 1) = wr.setCell ⟨g, k, none⟩ (bM mk k) from rfl]
    go_simp
    exact ⟨n, rfl⟩
   refine Stg.lex_nil ?_
   rintro w3 ⟨nq, rfl⟩
   rw [show two2 wr (wr.setCell ⟨g, k, none⟩ (bM mk k)) [12].length = wr.setCell ⟨g, k, none⟩ (bM mk k) from rfl]
   have hst := HO.out.stored k (bM mk k)
   rw [mixB_set mk k xb (by omega)] at hst
   have H1 := hide (hst.1.kept (grownBy_drewN _ nq none) (.inr (by simp [Value.ownBlock])))
   have H2 := hide (grownBy_trans (grownBy_trans HG.out hst.2) (grownBy_drewN _ nq (some g)))
   clear hst
   go_wp2_with fail
   exact ⟨⟨k + 1, by go_num, by omega, H1, H2⟩, by simp [intOf]; omega⟩
  ·have hkl : k = lb := by omega
   subst hkl
   have hmx : mixB mk k xb = (List.range k).map (bM mk) := by unfold mixB; rw [List.drop_of_length_le (by omega), List.append_nil]
   rw [hmx] at HO
   clear hmx
   go_wp2_with fail
   refine wp_loop_rounds 1 ?_
   rw [rounds_succ]
   go_wp2_with fail
   refine wp_loop_rounds 1 ?_
   rw [rounds_succ]
   go_wp2_with fail
   refine wp_loop_rounds 1 ?_
   rw [rounds_succ]
   go_wp2_with fail
   go_end0
   exact ⟨rfl, HO.out, HG.out⟩
def mixG (f : List Value) (sz k : Nat) (xs : List Value) : List Value := (List.replicate k f).flatten ++ xs.drop (k * sz)
theorem flat_rep_len (f : List Value) (k : Nat) : (List.replicate k f).flatten.length = k * f.length := by
 induction k with
 | zero => simp
 | succ k ih => rw [List.replicate_succ, List.flatten_cons, List.length_append, ih, Nat.add_mul, Nat.one_mul, Nat.add_comm]
theorem flat_rep_succ (f : List Value) (k : Nat) : (List.replicate (k + 1) f).flatten = (List.replicate k f).flatten ++ f := by
 rw [List.replicate_succ', List.flatten_append]; simp
theorem drop1 {xs : List Value} {n : Nat} (h : n + 1 ≤ xs.length) : ∃ a R, xs.drop n = a :: R ∧ xs.drop (n + 1) = R := by
 refine ⟨xs[n], xs.drop (n + 1), ?_, rfl⟩
 rw [List.drop_eq_getElem_cons (by omega)]
theorem mixG_set1 (a : Value) (k : Nat) (xs : List Value) (h : k + 1 ≤ xs.length) : (mixG [a] 1 k xs).set k a = mixG [a] 1 (k + 1) xs := by
 unfold mixG
 obtain ⟨x, R, h1, h2⟩ := drop1 h
 have hl := flat_rep_len [a] k
 simp only [List.length_cons, List.length_nil, Nat.zero_add, Nat.mul_one] at hl
 rw [Nat.mul_one, Nat.mul_one, h1, h2, flat_rep_succ, List.set_append_right _ _ (by omega), hl, Nat.sub_self]
 simp
theorem mixG_set3 (a b c : Value) (k : Nat) (xs : List Value) (h : (k + 1) * 3 ≤ xs.length) : (((mixG [a, b, c] 3 k xs).set (k * 3) a).set (k * 3 + 1) b).set (k * 3 + 2) c = mixG [a, b, c] 3 (k + 1) xs := by
 unfold mixG
 obtain ⟨x, R, h1, h2⟩ := drop1 (xs := xs) (n := k * 3) (by omega)
 obtain ⟨x2, R2, h3, h4⟩ := drop1 (xs := xs) (n := k * 3 + 1) (by omega)
 obtain ⟨x3, R3, h5, h6⟩ := drop1 (xs := xs) (n := k * 3 + 2) (by omega)
 have hl := flat_rep_len [a, b, c] k
 simp only [List.length_cons, List.length_nil, Nat.zero_add] at hl
 have e : (k + 1) * 3 = k * 3 + 2 + 1 := by omega
 have d1 : R = x2 :: x3 :: R3 := by rw [← h2, h3, ← h4, h5, ← h6]
 rw [e, h6, h1, d1, flat_rep_succ, List.set_append_right _ _ (by omega), List.set_append_right _ _ (by omega), List.set_append_right _ _ (by omega), hl, Nat.sub_self, show k * 3 + 1 - k * (1 + 1 + 1) = 1 from by omega, show k * 3 + 2 - k * (1 + 1 + 1) = 2 from by omega]
 simp
theorem mixG_set5 (a b c d f : Value) (k : Nat) (xs : List Value) (h : (k + 1) * 5 ≤ xs.length) : (((((mixG [a, b, c, d, f] 5 k xs).set (k * 5) a).set (k * 5 + 1) b).set (k * 5 + 2) c).set (k * 5 + 3) d).set (k * 5 + 4) f = mixG [a, b, c, d, f] 5 (k + 1) xs := by
 unfold mixG
 obtain ⟨x, R, h1, h2⟩ := drop1 (xs := xs) (n := k * 5) (by omega)
 obtain ⟨x2, R2, h3, h4⟩ := drop1 (xs := xs) (n := k * 5 + 1) (by omega)
 obtain ⟨x3, R3, h5, h6⟩ := drop1 (xs := xs) (n := k * 5 + 2) (by omega)
 obtain ⟨x4, R4, h7, h8⟩ := drop1 (xs := xs) (n := k * 5 + 3) (by omega)
 obtain ⟨x5, R5, h9, h10⟩ := drop1 (xs := xs) (n := k * 5 + 4) (by omega)
 have hl := flat_rep_len [a, b, c, d, f] k
 simp only [List.length_cons, List.length_nil, Nat.zero_add] at hl
 have e : (k + 1) * 5 = k * 5 + 4 + 1 := by omega
 have d1 : R = x2 :: x3 :: x4 :: x5 :: R5 := by rw [← h2, h3, ← h4, h5, ← h6, h7, ← h8, h9, ← h10]
 rw [e, h10, h1, d1, flat_rep_succ, List.set_append_right _ _ (by omega), List.set_append_right _ _ (by omega), List.set_append_right _ _ (by omega), List.set_append_right _ _ (by omega), List.set_append_right _ _ (by omega), hl, Nat.sub_self, show k * 5 + 1 - k * (1 + 1 + 1 + 1 + 1) = 1 from by omega, show k * 5 + 2 - k * (1 + 1 + 1 + 1 + 1) = 2 from by omega, show k * 5 + 3 - k * (1 + 1 + 1 + 1 + 1) = 3 from by omega, show k * 5 + 4 - k * (1 + 1 + 1 + 1 + 1) = 4 from by omega]
 simp
theorem marks0 (w : World) (hb : Nat) (mk : Int)
  (hbox : w.heap[hb]? = some (.cells #[.slice none 0 0, .slice none 0 0, .slice none 0 0, .slice none 0 0, .int .i64 mk] 121)) :
  Calls Tryz.prog 92 #[.pointer (some ⟨hb, 0, none⟩)] w fun e w' => e = .returned (.tuple #[]) ∧ w' = w := by
 have hcb := box_cells hbox
 clear hbox
 go_enter Tryz.func92, Tryz.ntmps92
 go_wp2_with fail
 refine wp_loop_rounds 1 ?_
 rw [rounds_succ]
 go_wp2_with fail
 refine wp_loop_rounds 1 ?_
 rw [rounds_succ]
 go_wp2_with fail
 refine wp_loop_rounds 1 ?_
 rw [rounds_succ]
 go_wp2_with fail
 refine wp_loop_rounds 1 ?_
 rw [rounds_succ]
 go_wp2_with fail
 go_end0
 exact ⟨rfl, rfl⟩
theorem marksR (w : World) (hb : Nat) (g cap : Nat) (mk : Int) (ln : Nat) (xs : List Value) (h0 : 1 ≤ mk) (h1 : mk ≤ 100000000) (hl : ln ≤ 4194304)
    (hbox : w.heap[hb]? = some (.cells #[.slice none 0 0, .slice (some ⟨g, 0, none⟩) ln cap, .slice none 0 0, .slice none 0 0, .int .i64 mk] 121))
    (hown : w.ownsRow 0 54 1 (.slice (some ⟨g, 0, none⟩) ln cap) ln xs) :
    Calls Tryz.prog 92 #[.pointer (some ⟨hb, 0, none⟩)] w fun e w' => e = .returned (.tuple #[]) ∧ w'.ownsRow 0 54 1 (.slice (some ⟨g, 0, none⟩) ln cap) ln (List.replicate ln [rM mk]).flatten ∧ w.grownBy w' (some g) := by
  have hne : g ≠ hb := by
    have := own_type_ne hown hbox (by decide)
    simp [Value.ownBlock] at this
    exact this
  have hxl : xs.length = ln * 1 := hown.1
  have HBX := hide hbox
  have hcb := box_cells hbox
  clear hbox
  go_enter Tryz.func92, Tryz.ntmps92
  go_wp2_with fail
  refine wp_loop_rounds 1 ?_
  rw [rounds_succ]
  go_wp2_with fail
  clear hcb
  go_loopw [3] (fun i wr => ∃ k : Nat, i = .int .i64 k ∧ k ≤ ln ∧ Hid (wr.ownsRow 0 54 1 (.slice (some ⟨g, 0, none⟩) ln cap) ln (mixG [rM mk] 1 k xs)) ∧ Hid (w.grownBy wr (some g))) (fun i _ => ln - (intOf i).toNat)
  case atStart => exact ⟨0, rfl, Nat.zero_le _, by show World.ownsRow _ _ _ _ _ _ _; simpa [mixG] using hown, grownBy_refl _ _⟩
  case round =>
    obtain ⟨k, rfl, hk, HO, HG⟩ := hrel
    have hbx : wr.heap[hb]? = _ := (HG.out.block hb (Array.getElem?_eq_some_iff.1 HBX.out).1 (by simp; omega)).trans HBX.out
    have hcr := box_cells hbx
    clear hbx
    by_cases hlt : k < ln
    · have hmem : ∀ o, o < ln * 1 → ∃ u, wr.cell? ⟨g, o, none⟩ = some u := fun o ho => by
        have := HO.out.cellAt o ho
        rw [this]
        exact ⟨_, List.getElem?_eq_getElem (by have := HO.out.1; omega)⟩
      obtain ⟨u0, hu0⟩ := hmem (k) (by omega)
      have hf0 : wr.frozen? ⟨g, k, none⟩ = false := HO.out.frozenAt _
      clear hmem
      go_wp2_with fail
      refine Stg.wp_region_stage [12] (fun j w' => ∃ n, w' = (two2 wr (wr.setCell ⟨g, k, none⟩ (rM mk)) j).drewN n) (by kernel_rfl) (by kernel_rfl) ⟨1, rfl⟩ ?_
      refine Stg.lex_uptoC 12 (by decide) (by kernel_rfl) ?_
      simp only [List.take_succ_cons, List.take_zero, List.drop_succ_cons, List.drop_zero]
      rw [show two2 wr (wr.setCell ⟨g, k, none⟩ (rM mk)) 0 = wr from rfl]
      repeat (first | go_big_quiet_step (fail) | quiet_step (fail))
      refine wpQuiet_nil ?_
      refine Stg.lex_move 0 (by kernel_rfl) undef ?_ ?_
      · rintro w' ⟨n, rfl⟩
        rw [show two2 wr (wr.setCell ⟨g, k, none⟩ (rM mk)) 0 = wr from rfl, show two2 wr (wr.setCell ⟨g, k, none⟩ (rM mk)) (0 + 1) = wr.setCell ⟨g, k, none⟩ (rM mk) from rfl]
        go_simp
        exact ⟨n, rfl⟩
      refine Stg.lex_nil ?_
      rintro w3 ⟨nq, rfl⟩
      rw [show two2 wr (wr.setCell ⟨g, k, none⟩ (rM mk)) [12].length = wr.setCell ⟨g, k, none⟩ (rM mk) from rfl]
      have hst0 := (HO.out).stored (k) (rM mk)
      have hlast := hst0.1
      rw [mixG_set1 _ k xs (by omega)] at hlast
      have H1 := hide (hlast.kept (grownBy_drewN _ nq none) (.inr (by simp [Value.ownBlock])))
      have H2 := hide (grownBy_trans (grownBy_trans HG.out hst0.2) (grownBy_drewN _ nq (some g)))
      clear hlast hst0
      go_wp2_with fail
      exact ⟨⟨k + 1, by go_num, by omega, H1, H2⟩, by simp [intOf]; omega⟩
    · have hkl : k = ln := by omega
      subst hkl
      have hmx : mixG [rM mk] 1 k xs = (List.replicate k [rM mk]).flatten := by unfold mixG; rw [List.drop_of_length_le (by omega), List.append_nil]
      rw [hmx] at HO
      clear hmx
      go_wp2_with fail
      refine wp_loop_rounds 1 ?_
      rw [rounds_succ]
      go_wp2_with fail
      refine wp_loop_rounds 1 ?_
      rw [rounds_succ]
      go_wp2_with fail
      go_end0
      exact ⟨rfl, HO.out, HG.out⟩
theorem marksQ (w : World) (hb : Nat) (g cap : Nat) (mk : Int) (ln : Nat) (xs : List Value) (_h0 : 1 ≤ mk) (_h1 : mk ≤ 100000000) (hl : ln ≤ 4194304)
    (hbox : w.heap[hb]? = some (.cells #[.slice none 0 0, .slice none 0 0, .slice (some ⟨g, 0, none⟩) ln cap, .slice none 0 0, .int .i64 mk] 121))
    (hown : w.ownsRow 0 41 3 (.slice (some ⟨g, 0, none⟩) ln cap) ln xs) :
    Calls Tryz.prog 92 #[.pointer (some ⟨hb, 0, none⟩)] w fun e w' => e = .returned (.tuple #[]) ∧ w'.ownsRow 0 41 3 (.slice (some ⟨g, 0, none⟩) ln cap) ln (List.replicate ln [.string ⟨#[109, 97, 114, 107]⟩, .int .u16 (IntKind.u16.wrap mk), .int .u16 0]).flatten ∧ w.grownBy w' (some g) := by
  have hne : g ≠ hb := by
    have := own_type_ne hown hbox (by decide)
    simp [Value.ownBlock] at this
    exact this
  have hxl : xs.length = ln * 3 := hown.1
  have HBX := hide hbox
  have hcb := box_cells hbox
  clear hbox
  go_enter Tryz.func92, Tryz.ntmps92
  go_wp2_with fail
  refine wp_loop_rounds 1 ?_
  rw [rounds_succ]
  go_wp2_with fail
  refine wp_loop_rounds 1 ?_
  rw [rounds_succ]
  go_wp2_with fail
  clear hcb
  go_loopw [4] (fun i wr => ∃ k : Nat, i = .int .i64 k ∧ k ≤ ln ∧ Hid (wr.ownsRow 0 41 3 (.slice (some ⟨g, 0, none⟩) ln cap) ln (mixG [.string ⟨#[109, 97, 114, 107]⟩, .int .u16 (IntKind.u16.wrap mk), .int .u16 0] 3 k xs)) ∧ Hid (w.grownBy wr (some g))) (fun i _ => ln - (intOf i).toNat)
  case atStart => exact ⟨0, rfl, Nat.zero_le _, by show World.ownsRow _ _ _ _ _ _ _; simpa [mixG] using hown, grownBy_refl _ _⟩
  case round =>
    obtain ⟨k, rfl, hk, HO, HG⟩ := hrel
    have hbx : wr.heap[hb]? = _ := (HG.out.block hb (Array.getElem?_eq_some_iff.1 HBX.out).1 (by simp; omega)).trans HBX.out
    have hcr := box_cells hbx
    clear hbx
    by_cases hlt : k < ln
    · have hmem : ∀ o, o < ln * 3 → ∃ u, wr.cell? ⟨g, o, none⟩ = some u := fun o ho => by
        have := HO.out.cellAt o ho
        rw [this]
        exact ⟨_, List.getElem?_eq_getElem (by have := HO.out.1; omega)⟩
      obtain ⟨u0, hu0⟩ := hmem (k * 3) (by omega)
      have hf0 : wr.frozen? ⟨g, k * 3, none⟩ = false := HO.out.frozenAt _
      obtain ⟨u1, hu1⟩ := hmem (k * 3 + 1) (by omega)
      have hf1 : wr.frozen? ⟨g, k * 3 + 1, none⟩ = false := HO.out.frozenAt _
      obtain ⟨u2, hu2⟩ := hmem (k * 3 + 2) (by omega)
      have hf2 : wr.frozen? ⟨g, k * 3 + 2, none⟩ = false := HO.out.frozenAt _
      clear hmem
      go_wp2_with fail
      refine Stg.wp_region_stage [12] (fun j w' => ∃ n, w' = (two2 wr ((((wr.setCell ⟨g, k * 3, none⟩ (.string ⟨#[109, 97, 114, 107]⟩)).setCell ⟨g, k * 3 + 1, none⟩ (.int .u16 (IntKind.u16.wrap mk))).setCell ⟨g, k * 3 + 2, none⟩ (.int .u16 0))) j).drewN n) (by kernel_rfl) (by kernel_rfl) ⟨1, rfl⟩ ?_
      refine Stg.lex_uptoC 12 (by decide) (by kernel_rfl) ?_
      simp only [List.take_succ_cons, List.take_zero, List.drop_succ_cons, List.drop_zero]
      rw [show two2 wr ((((wr.setCell ⟨g, k * 3, none⟩ (.string ⟨#[109, 97, 114, 107]⟩)).setCell ⟨g, k * 3 + 1, none⟩ (.int .u16 (IntKind.u16.wrap mk))).setCell ⟨g, k * 3 + 2, none⟩ (.int .u16 0))) 0 = wr from rfl]
      repeat (first | go_big_quiet_step (fail) | quiet_step (fail))
      refine wpQuiet_nil ?_
      refine Stg.lex_move 0 (by kernel_rfl) undef ?_ ?_
      · rintro w' ⟨n, rfl⟩
        rw [show two2 wr ((((wr.setCell ⟨g, k * 3, none⟩ (.string ⟨#[109, 97, 114, 107]⟩)).setCell ⟨g, k * 3 + 1, none⟩ (.int .u16 (IntKind.u16.wrap mk))).setCell ⟨g, k * 3 + 2, none⟩ (.int .u16 0))) 0 = wr from rfl, show two2 wr ((((wr.setCell ⟨g, k * 3, none⟩ (.string ⟨#[109, 97, 114, 107]⟩)).setCell ⟨g, k * 3 + 1, none⟩ (.int .u16 (IntKind.u16.wrap mk))).setCell ⟨g, k * 3 + 2, none⟩ (.int .u16 0))) (0 + 1) = (((wr.setCell ⟨g, k * 3, none⟩ (.string ⟨#[109, 97, 114, 107]⟩)).setCell ⟨g, k * 3 + 1, none⟩ (.int .u16 (IntKind.u16.wrap mk))).setCell ⟨g, k * 3 + 2, none⟩ (.int .u16 0)) from rfl]
        go_simp
        exact ⟨n, rfl⟩
      refine Stg.lex_nil ?_
      rintro w3 ⟨nq, rfl⟩
      rw [show two2 wr ((((wr.setCell ⟨g, k * 3, none⟩ (.string ⟨#[109, 97, 114, 107]⟩)).setCell ⟨g, k * 3 + 1, none⟩ (.int .u16 (IntKind.u16.wrap mk))).setCell ⟨g, k * 3 + 2, none⟩ (.int .u16 0))) [12].length = (((wr.setCell ⟨g, k * 3, none⟩ (.string ⟨#[109, 97, 114, 107]⟩)).setCell ⟨g, k * 3 + 1, none⟩ (.int .u16 (IntKind.u16.wrap mk))).setCell ⟨g, k * 3 + 2, none⟩ (.int .u16 0)) from rfl]
      have hst0 := (HO.out).stored (k * 3) (.string ⟨#[109, 97, 114, 107]⟩)
      have hst1 := (hst0.1).stored (k * 3 + 1) (.int .u16 (IntKind.u16.wrap mk))
      have hst2 := (hst1.1).stored (k * 3 + 2) (.int .u16 0)
      have hlast := hst2.1
      rw [mixG_set3 _ _ _ k xs (by omega)] at hlast
      have H1 := hide (hlast.kept (grownBy_drewN _ nq none) (.inr (by simp [Value.ownBlock])))
      have H2 := hide (grownBy_trans (grownBy_trans (grownBy_trans (grownBy_trans HG.out hst0.2) hst1.2) hst2.2) (grownBy_drewN _ nq (some g)))
      clear hlast hst2 hst1 hst0
      go_wp2_with fail
      exact ⟨⟨k + 1, by go_num, by omega, H1, H2⟩, by simp [intOf]; omega⟩
    · have hkl : k = ln := by omega
      subst hkl
      have hmx : mixG [.string ⟨#[109, 97, 114, 107]⟩, .int .u16 (IntKind.u16.wrap mk), .int .u16 0] 3 k xs = (List.replicate k [.string ⟨#[109, 97, 114, 107]⟩, .int .u16 (IntKind.u16.wrap mk), .int .u16 0]).flatten := by unfold mixG; rw [List.drop_of_length_le (by omega), List.append_nil]
      rw [hmx] at HO
      clear hmx
      go_wp2_with fail
      refine wp_loop_rounds 1 ?_
      rw [rounds_succ]
      go_wp2_with fail
      go_end0
      exact ⟨rfl, HO.out, HG.out⟩
theorem marksC (w : World) (hb : Nat) (g cap : Nat) (mk : Int) (ln : Nat) (xs : List Value) (h0 : 1 ≤ mk) (h1 : mk ≤ 100000000) (hl : ln ≤ 4194304)
    (hbox : w.heap[hb]? = some (.cells #[.slice none 0 0, .slice none 0 0, .slice none 0 0, .slice (some ⟨g, 0, none⟩) ln cap, .int .i64 mk] 121))
    (hown : w.ownsRow 0 69 5 (.slice (some ⟨g, 0, none⟩) ln cap) ln xs) :
    Calls Tryz.prog 92 #[.pointer (some ⟨hb, 0, none⟩)] w fun e w' => e = .returned (.tuple #[]) ∧ w'.ownsRow 0 69 5 (.slice (some ⟨g, 0, none⟩) ln cap) ln (List.replicate ln [.string ⟨#[109, 97, 114, 107]⟩, .int .u16 0, .int .u16 0, .int .u32 mk, .string ⟨#[]⟩]).flatten ∧ w.grownBy w' (some g) := by
  have hne : g ≠ hb := by
    have := own_type_ne hown hbox (by decide)
    simp [Value.ownBlock] at this
    exact this
  have hxl : xs.length = ln * 5 := hown.1
  have HBX := hide hbox
  have hcb := box_cells hbox
  clear hbox
  go_enter Tryz.func92, Tryz.ntmps92
  go_wp2_with fail
  refine wp_loop_rounds 1 ?_
  rw [rounds_succ]
  go_wp2_with fail
  refine wp_loop_rounds 1 ?_
  rw [rounds_succ]
  go_wp2_with fail
  refine wp_loop_rounds 1 ?_
  rw [rounds_succ]
  go_wp2_with fail
  clear hcb
  go_loopw [5] (fun i wr => ∃ k : Nat, i = .int .i64 k ∧ k ≤ ln ∧ Hid (wr.ownsRow 0 69 5 (.slice (some ⟨g, 0, none⟩) ln cap) ln (mixG [.string ⟨#[109, 97, 114, 107]⟩, .int .u16 0, .int .u16 0, .int .u32 mk, .string ⟨#[]⟩] 5 k xs)) ∧ Hid (w.grownBy wr (some g))) (fun i _ => ln - (intOf i).toNat)
  case atStart => exact ⟨0, rfl, Nat.zero_le _, by show World.ownsRow _ _ _ _ _ _ _; simpa [mixG] using hown, grownBy_refl _ _⟩
  case round =>
    obtain ⟨k, rfl, hk, HO, HG⟩ := hrel
    have hbx : wr.heap[hb]? = _ := (HG.out.block hb (Array.getElem?_eq_some_iff.1 HBX.out).1 (by simp; omega)).trans HBX.out
    have hcr := box_cells hbx
    clear hbx
    by_cases hlt : k < ln
    · have hmem : ∀ o, o < ln * 5 → ∃ u, wr.cell? ⟨g, o, none⟩ = some u := fun o ho => by
        have := HO.out.cellAt o ho
        rw [this]
        exact ⟨_, List.getElem?_eq_getElem (by have := HO.out.1; omega)⟩
      obtain ⟨u0, hu0⟩ := hmem (k * 5) (by omega)
      have hf0 : wr.frozen? ⟨g, k * 5, none⟩ = false := HO.out.frozenAt _
      obtain ⟨u1, hu1⟩ := hmem (k * 5 + 1) (by omega)
      have hf1 : wr.frozen? ⟨g, k * 5 + 1, none⟩ = false := HO.out.frozenAt _
      obtain ⟨u2, hu2⟩ := hmem (k * 5 + 2) (by omega)
      have hf2 : wr.frozen? ⟨g, k * 5 + 2, none⟩ = false := HO.out.frozenAt _
      obtain ⟨u3, hu3⟩ := hmem (k * 5 + 3) (by omega)
      have hf3 : wr.frozen? ⟨g, k * 5 + 3, none⟩ = false := HO.out.frozenAt _
      obtain ⟨u4, hu4⟩ := hmem (k * 5 + 4) (by omega)
      have hf4 : wr.frozen? ⟨g, k * 5 + 4, none⟩ = false := HO.out.frozenAt _
      clear hmem
      go_wp2_with fail
      refine Stg.wp_region_stage [12] (fun j w' => ∃ n, w' = (two2 wr ((((((wr.setCell ⟨g, k * 5, none⟩ (.string ⟨#[109, 97, 114, 107]⟩)).setCell ⟨g, k * 5 + 1, none⟩ (.int .u16 0)).setCell ⟨g, k * 5 + 2, none⟩ (.int .u16 0)).setCell ⟨g, k * 5 + 3, none⟩ (.int .u32 mk)).setCell ⟨g, k * 5 + 4, none⟩ (.string ⟨#[]⟩))) j).drewN n) (by kernel_rfl) (by kernel_rfl) ⟨1, rfl⟩ ?_
      refine Stg.lex_uptoC 12 (by decide) (by kernel_rfl) ?_
      simp only [List.take_succ_cons, List.take_zero, List.drop_succ_cons, List.drop_zero]
      rw [show two2 wr ((((((wr.setCell ⟨g, k * 5, none⟩ (.string ⟨#[109, 97, 114, 107]⟩)).setCell ⟨g, k * 5 + 1, none⟩ (.int .u16 0)).setCell ⟨g, k * 5 + 2, none⟩ (.int .u16 0)).setCell ⟨g, k * 5 + 3, none⟩ (.int .u32 mk)).setCell ⟨g, k * 5 + 4, none⟩ (.string ⟨#[]⟩))) 0 = wr from rfl]
      repeat (first | go_big_quiet_step (fail) | quiet_step (fail))
      refine wpQuiet_nil ?_
      refine Stg.lex_move 0 (by kernel_rfl) undef ?_ ?_
      · rintro w' ⟨n, rfl⟩
        rw [show two2 wr ((((((wr.setCell ⟨g, k * 5, none⟩ (.string ⟨#[109, 97, 114, 107]⟩)).setCell ⟨g, k * 5 + 1, none⟩ (.int .u16 0)).setCell ⟨g, k * 5 + 2, none⟩ (.int .u16 0)).setCell ⟨g, k * 5 + 3, none⟩ (.int .u32 mk)).setCell ⟨g, k * 5 + 4, none⟩ (.string ⟨#[]⟩))) 0 = wr from rfl, show two2 wr ((((((wr.setCell ⟨g, k * 5, none⟩ (.string ⟨#[109, 97, 114, 107]⟩)).setCell ⟨g, k * 5 + 1, none⟩ (.int .u16 0)).setCell ⟨g, k * 5 + 2, none⟩ (.int .u16 0)).setCell ⟨g, k * 5 + 3, none⟩ (.int .u32 mk)).setCell ⟨g, k * 5 + 4, none⟩ (.string ⟨#[]⟩))) (0 + 1) = (((((wr.setCell ⟨g, k * 5, none⟩ (.string ⟨#[109, 97, 114, 107]⟩)).setCell ⟨g, k * 5 + 1, none⟩ (.int .u16 0)).setCell ⟨g, k * 5 + 2, none⟩ (.int .u16 0)).setCell ⟨g, k * 5 + 3, none⟩ (.int .u32 mk)).setCell ⟨g, k * 5 + 4, none⟩ (.string ⟨#[]⟩)) from rfl]
        go_simp
        exact ⟨n, rfl⟩
      refine Stg.lex_nil ?_
      rintro w3 ⟨nq, rfl⟩
      rw [show two2 wr ((((((wr.setCell ⟨g, k * 5, none⟩ (.string ⟨#[109, 97, 114, 107]⟩)).setCell ⟨g, k * 5 + 1, none⟩ (.int .u16 0)).setCell ⟨g, k * 5 + 2, none⟩ (.int .u16 0)).setCell ⟨g, k * 5 + 3, none⟩ (.int .u32 mk)).setCell ⟨g, k * 5 + 4, none⟩ (.string ⟨#[]⟩))) [12].length = (((((wr.setCell ⟨g, k * 5, none⟩ (.string ⟨#[109, 97, 114, 107]⟩)).setCell ⟨g, k * 5 + 1, none⟩ (.int .u16 0)).setCell ⟨g, k * 5 + 2, none⟩ (.int .u16 0)).setCell ⟨g, k * 5 + 3, none⟩ (.int .u32 mk)).setCell ⟨g, k * 5 + 4, none⟩ (.string ⟨#[]⟩)) from rfl]
      have hst0 := (HO.out).stored (k * 5) (.string ⟨#[109, 97, 114, 107]⟩)
      have hst1 := (hst0.1).stored (k * 5 + 1) (.int .u16 0)
      have hst2 := (hst1.1).stored (k * 5 + 2) (.int .u16 0)
      have hst3 := (hst2.1).stored (k * 5 + 3) (.int .u32 mk)
      have hst4 := (hst3.1).stored (k * 5 + 4) (.string ⟨#[]⟩)
      have hlast := hst4.1
      rw [mixG_set5 _ _ _ _ _ k xs (by omega)] at hlast
      have H1 := hide (hlast.kept (grownBy_drewN _ nq none) (.inr (by simp [Value.ownBlock])))
      have H2 := hide (grownBy_trans (grownBy_trans (grownBy_trans (grownBy_trans (grownBy_trans (grownBy_trans HG.out hst0.2) hst1.2) hst2.2) hst3.2) hst4.2) (grownBy_drewN _ nq (some g)))
      clear hlast hst4 hst3 hst2 hst1 hst0
      go_wp2_with fail
      exact ⟨⟨k + 1, by go_num, by omega, H1, H2⟩, by simp [intOf]; omega⟩
    · have hkl : k = ln := by omega
      subst hkl
      have hmx : mixG [.string ⟨#[109, 97, 114, 107]⟩, .int .u16 0, .int .u16 0, .int .u32 mk, .string ⟨#[]⟩] 5 k xs = (List.replicate k [.string ⟨#[109, 97, 114, 107]⟩, .int .u16 0, .int .u16 0, .int .u32 mk, .string ⟨#[]⟩]).flatten := by unfold mixG; rw [List.drop_of_length_le (by omega), List.append_nil]
      rw [hmx] at HO
      clear hmx
      go_wp2_with fail
      go_end0
      exact ⟨rfl, HO.out, HG.out⟩
end Go.Proofs.YtafoepfhepdcoaaGreat
namespace Go.Proofs.YtafoepfhepdcoaaGreat
open Go.RowKit Go.Trawl
def One (vb vr vq vc : Value) : Prop :=
 (vr = .slice none 0 0 ∧ vq = .slice none 0 0 ∧ vc = .slice none 0 0) ∨ (vb = .slice none 0 0 ∧ vq = .slice none 0 0 ∧ vc = .slice none 0 0) ∨
 (vb = .slice none 0 0 ∧ vr = .slice none 0 0 ∧ vc = .slice none 0 0) ∨ (vb = .slice none 0 0 ∧ vr = .slice none 0 0 ∧ vq = .slice none 0 0)
structure HoldP (w : World) (hb : Nat) (vb vr vq vc : Value) (mk : Int) (lb lr lq lc : Nat) : Prop where
 box : w.heap[hb]? = some (.cells #[vb, vr, vq, vc, .int .i64 mk] 121)
 b : ∃ x, w.ownsRow 0 5 1 vb lb x
 r : ∃ x, w.ownsRow 0 54 1 vr lr x
 q : ∃ x, w.ownsRow 0 41 3 vq lq x
 c : ∃ x, w.ownsRow 0 69 5 vc lc x
theorem own_none {w : World} {e : TypeId} {sz n : Nat} {x : List Value} (h : w.ownsRow 0 e sz (.slice none 0 0) n x) : n = 0 := by
 rcases h.2 with ⟨_, h⟩ | ⟨g, cap, cur, h, _⟩
 ·exact h
 ·cases h
theorem own_nil0 (w : World) (e : TypeId) (sz : Nat) {x : List Value} (h : x = []) : w.ownsRow 0 e sz (.slice none 0 0) 0 x := by
 subst h; exact World.ownsRow_nil _ _ _ _
structure Marked (w w' : World) (hb : Nat) (vb vr vq vc : Value) (mk : Int) (lb lr lq lc : Nat) : Prop where
 hold : HoldO w' hb vb vr vq vc mk lb lr lq lc
 os : w'.os = w.os
 tape : w'.tape = w.tape
 output : w'.output = w.output
 size : w.heap.size ≤ w'.heap.size
 frame : ∀ k, k < w.heap.size → vb.ownBlock ≠ some k → vr.ownBlock ≠ some k → vq.ownBlock ≠ some k → vc.ownBlock ≠ some k → w'.heap[k]? = w.heap[k]?
theorem marks_any (w : World) (hb : Nat) (vb vr vq vc : Value) (mk : Int) (lb lr lq lc : Nat) (h0 : 1 ≤ mk) (h1 : mk ≤ 100000000) (b1 : lb ≤ 4194304) (b2 : lr ≤ 4194304) (b3 : lq ≤ 4194304) (b4 : lc ≤ 4194304)
  (hone : One vb vr vq vc) (h : HoldP w hb vb vr vq vc mk lb lr lq lc) :
  Calls Tryz.prog 92 #[.pointer (some ⟨hb, 0, none⟩)] w fun e w' => e = .returned (.tuple #[]) ∧ Marked w w' hb vb vr vq vc mk lb lr lq lc := by
 obtain ⟨hbox, ⟨xb, ob⟩, ⟨xr, or⟩, ⟨xq, oq⟩, ⟨xc, oc⟩⟩ := h
 have nilcase : vb = .slice none 0 0 → vr = .slice none 0 0 → vq = .slice none 0 0 → vc = .slice none 0 0 → Calls Tryz.prog 92 #[.pointer (some ⟨hb, 0, none⟩)] w fun e w' => e = .returned (.tuple #[]) ∧ Marked w w' hb vb vr vq vc mk lb lr lq lc := by
  rintro rfl rfl rfl rfl
  have e1 := own_none ob
  have e2 := own_none or
  have e3 := own_none oq
  have e4 := own_none oc
  subst e1 e2 e3 e4
  refine (marks0 w hb mk hbox).mono fun e w' ⟨he, hw⟩ => ⟨he, ?_⟩
  subst hw
  exact ⟨⟨hbox, own_nil0 _ _ _ rfl, own_nil0 _ _ _ rfl, own_nil0 _ _ _ rfl, own_nil0 _ _ _ rfl⟩, rfl, rfl, rfl, Nat.le_refl _, fun _ _ _ _ _ _ => rfl⟩
 rcases hone with ⟨e1, e2, e3⟩ | ⟨e1, e2, e3⟩ | ⟨e1, e2, e3⟩ | ⟨e1, e2, e3⟩
 ·rcases ob.2 with ⟨e4, _⟩ | ⟨g, cap, cur, e4, _, hg, _⟩
  ·exact nilcase e4 e1 e2 e3
  ·clear nilcase
   subst e1 e2 e3 e4
   have e2 := own_none or
   have e3 := own_none oq
   have e4 := own_none oc
   subst e2 e3 e4
   have hne := own_type_ne ob hbox (by decide)
   refine (marksB w hb g cap mk lb xb h0 h1 b1 hbox ob).mono fun e w' ⟨he, ho, hgr⟩ => ⟨he, ?_⟩
   exact ⟨⟨(hgr.block hb (heap_lt hbox) (Ne.symm hne)).trans hbox, ho, own_nil0 _ _ _ rfl, own_nil0 _ _ _ rfl, own_nil0 _ _ _ rfl⟩, hgr.os, hgr.tape, hgr.output, hgr.size, fun k hk n1 _ _ _ => hgr.block k hk (Ne.symm n1)⟩
 ·rcases or.2 with ⟨e4, _⟩ | ⟨g, cap, cur, e4, _, hg, _⟩
  ·exact nilcase e1 e4 e2 e3
  ·clear nilcase
   subst e1 e2 e3 e4
   have e2 := own_none ob
   have e3 := own_none oq
   have e4 := own_none oc
   subst e2 e3 e4
   have hne := own_type_ne or hbox (by decide)
   refine (marksR w hb g cap mk lr xr h0 h1 b2 hbox or).mono fun e w' ⟨he, ho, hgr⟩ => ⟨he, ?_⟩
   exact ⟨⟨(hgr.block hb (heap_lt hbox) (Ne.symm hne)).trans hbox, own_nil0 _ _ _ rfl, ho, own_nil0 _ _ _ rfl, own_nil0 _ _ _ rfl⟩, hgr.os, hgr.tape, hgr.output, hgr.size, fun k hk _ n1 _ _ => hgr.block k hk (Ne.symm n1)⟩
 ·rcases oq.2 with ⟨e4, _⟩ | ⟨g, cap, cur, e4, _, hg, _⟩
  ·exact nilcase e1 e2 e4 e3
  ·clear nilcase
   subst e1 e2 e3 e4
   have e2 := own_none ob
   have e3 := own_none or
   have e4 := own_none oc
   subst e2 e3 e4
   have hne := own_type_ne oq hbox (by decide)
   refine (marksQ w hb g cap mk lq xq h0 h1 b3 hbox oq).mono fun e w' ⟨he, ho, hgr⟩ => ⟨he, ?_⟩
   exact ⟨⟨(hgr.block hb (heap_lt hbox) (Ne.symm hne)).trans hbox, own_nil0 _ _ _ rfl, own_nil0 _ _ _ rfl, ho, own_nil0 _ _ _ rfl⟩, hgr.os, hgr.tape, hgr.output, hgr.size, fun k hk _ _ n1 _ => hgr.block k hk (Ne.symm n1)⟩
 ·rcases oc.2 with ⟨e4, _⟩ | ⟨g, cap, cur, e4, _, hg, _⟩
  ·exact nilcase e1 e2 e3 e4
  ·clear nilcase
   subst e1 e2 e3 e4
   have e2 := own_none ob
   have e3 := own_none or
   have e4 := own_none oq
   subst e2 e3 e4
   have hne := own_type_ne oc hbox (by decide)
   refine (marksC w hb g cap mk lc xc h0 h1 b4 hbox oc).mono fun e w' ⟨he, ho, hgr⟩ => ⟨he, ?_⟩
   exact ⟨⟨(hgr.block hb (heap_lt hbox) (Ne.symm hne)).trans hbox, own_nil0 _ _ _ rfl, own_nil0 _ _ _ rfl, own_nil0 _ _ _ rfl, ho⟩, hgr.os, hgr.tape, hgr.output, hgr.size, fun k hk _ _ _ n1 => hgr.block k hk (Ne.symm n1)⟩
end Go.Proofs.YtafoepfhepdcoaaGreat
