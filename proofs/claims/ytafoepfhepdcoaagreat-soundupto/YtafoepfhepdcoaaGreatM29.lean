import Derived.Test.YtafoepfhepdcoaaGreatM28
import Derived.Test.YtafoepfhepdcoaaGreatM27
set_option maxRecDepth 100000
set_option maxHeartbeats 8000000
namespace Go.Proofs.YtafoepfhepdcoaaGreat
open Go.RowKit Go.Trawl
def shorter (best : Option Nat) (i : Nat) : Bool := match best with
 | none => true
 | some b => decide ((nm i).size < (nm b).size)
def belStep (t : Tr) (n : ByteArray) (zone : Nat) (best : Option Nat) (i : Nat) : Option Nat :=
 if zoneB t i && liesS n (nm i) && (decide ((nm zone).size < (nm i).size) && liesS (nm i) (nm zone)) && shorter best i then some i else best
def belN (t : Tr) (n : ByteArray) (zone : Nat) : Option Nat := (List.range 12).foldl (belStep t n zone) none
theorem bel_or (t : Tr) (n : ByteArray) (zone : Nat) (best : Option Nat) (k : Nat) : belStep t n zone best k = some k ∨ belStep t n zone best k = best := by
 unfold belStep
 split
 ·exact .inl rfl
 ·exact .inr rfl
theorem bel_lt (t : Tr) (n : ByteArray) (zone : Nat) : ∀ k, k ≤ 12 → ∀ b, (List.range k).foldl (belStep t n zone) none = some b → b < 12
 | 0, _, b, h => by simp at h
 | k + 1, hk, b, h => by
  have ih := bel_lt t n zone k (by omega)
  rw [List.range_succ, fold_snoc] at h
  generalize (List.range k).foldl (belStep t n zone) none = best at h ih
  rcases bel_or t n zone best k with e | e
  ·rw [e] at h; cases h; omega
  ·rw [e] at h; exact ih b h
theorem kBelow_any (w : World) (t : Tr) (v : Value) (n : ByteArray) (zone : Nat) (ht : TrOk t) (hv : NmAt w v) (hn : n.size ≤ 1000) (hzn : zone < 12) :
  Calls Tryz.prog 37 #[.agg (trA t v), .string n, .int .i64 zone] w fun e w' => e = .returned (.int .i64 (optI (belN t n zone))) ∧ Hid (Below w.heap.size w w') := by
 have HB1 := hide ((Below.refl w.heap.size w).alloc (Nat.le_refl _) (.cells (trA t v) 49))
 have HT1 := hide (TrAt.start (t := t) hv)
 have HT := hide ht
 obtain ⟨g, c, rfl, -, -⟩ := hv.is
 clear hv ht
 go_enter Tryz.func37, Tryz.ntmps37
 go_wp2_with fail
 generalize w.alloc _ = W1 at HB1 HT1 ⊢
 go_loopw [7, 8] (fun vb vi wr => ∃ (i : Nat) (best : Option Nat), vi = .int .i64 i ∧ i ≤ 12 ∧ vb = .int .i64 (optI best) ∧ Hid ((List.range i).foldl (belStep t n zone) none = best) ∧ Hid (TrAt wr w.heap.size t (.slice (some ⟨g, 0, none⟩) 12 c)) ∧ Hid (Below w.heap.size w wr)) (fun _ vi _ => 12 - (intOf vi).toNat)
 case atStart => exact ⟨0, none, rfl, by omega, rfl, rfl, HT1.out, HB1.out⟩
 case round =>
  obtain ⟨i, best, rfl, hi, rfl, HN, HTR, HB⟩ := hrel
  have hn48 : wr.cell? ⟨w.heap.size, 48, none⟩ = some (.slice (some ⟨g, 0, none⟩) 12 c) := (box_cells HTR.out.box 48).trans (tr_names HT.out _)
  by_cases hlt : i < 12
  ·go_upto_region 5 with fail
   go_upto_region 6 with (refine wpList_load_cells _ rfl 49 _ rfl ⟨w.heap.size, 0, none⟩ rfl (trA t (.slice (some ⟨g, 0, none⟩) 12 c)) _ undTr rfl (trI' HT.out _) HTR.out.all ?_)
   refine (kZone_any wr t _ i HT.out hlt).mono ?_
   rintro e w2 ⟨rfl, H2⟩
   have HT2 := hide (HTR.out.below H2.out)
   have HB2 := hide (HB.out.trans (H2.out.mono HB.out.size))
   clear H2 HTR HB hn48
   have hn48 : w2.cell? ⟨w.heap.size, 48, none⟩ = some (.slice (some ⟨g, 0, none⟩) 12 c) := (box_cells HT2.out.box 48).trans (tr_names HT.out _)
   have hgi : w2.cell? ⟨g, i, none⟩ = some (.string (nm i)) := by
    obtain ⟨g', c', e', _, hgc⟩ := HT2.out.names.is
    cases e'
    exact hgc i hlt
   have l2 := nm_size i
   go_wp2_with fail
   refine (kLies_any w2 n (nm i) (by omega) (by omega)).mono ?_
   rintro e w3 ⟨rfl, hw⟩
   have hw := hw.symm
   subst hw
   clear hn48 hgi
   have hn48 : w2.cell? ⟨w.heap.size, 48, none⟩ = some (.slice (some ⟨g, 0, none⟩) 12 c) := (box_cells HT2.out.box 48).trans (tr_names HT.out _)
   have hgc : ∀ j, j < 12 → w2.cell? ⟨g, j, none⟩ = some (.string (nm j)) := by
    obtain ⟨g', c', e', _, hgc⟩ := HT2.out.names.is
    cases e'
    exact hgc
   have hgi := hgc i hlt
   have hgz := hgc zone hzn
   have l5 := nm_size zone
   clear hgc
   have HST : Hid ((List.range (i + 1)).foldl (belStep t n zone) none = belStep t n zone best i) := by
    unfold Hid
    rw [List.range_succ, fold_snoc, HN.out]
   have HBL : Hid (∀ b, best = some b → b < 12) := fun b hb => bel_lt t n zone i (by omega) b (HN.out.trans hb)
   have HDS : Hid (belStep t n zone best i = if zoneB t i && liesS n (nm i) && (decide ((nm zone).size < (nm i).size) && liesS (nm i) (nm zone)) && shorter best i then some i else best) := rfl
   obtain ⟨dn, hdn⟩ : ∃ dn, dn = (decide ((nm zone).size < (nm i).size) && liesS (nm i) (nm zone)) := ⟨_, rfl⟩
   rw [← hdn] at HDS
   have HDN := hide hdn
   clear hdn
   generalize zoneB t i = bz at HDS ⊢
   generalize liesS n (nm i) = bi at HDS ⊢
   go_upto_region 7 with fail
   go_cut [11] from 12 to 81 (fun v11 wx => v11 = .bool dn ∧ ∃ nq, wx = w2.drewN nq)
   case first =>
    by_cases hsz : (nm zone).size < (nm i).size
    ·have hsz' : decide (((nm zone).size : Int) < ((nm i).size : Int)) = true := by simp; omega
     go_quiet ((go_at_call 80; exact Calls.quiet_of_same (kLies_any _ _ _ (by omega) (by omega))))
     go_wp2_with fail
     go_meet
     case rel => exact ⟨by rw [HDN.out, decide_eq_true hsz, Bool.true_and], _, rfl⟩
    ·have hsz' : decide (((nm zone).size : Int) < ((nm i).size : Int)) = false := by simp; omega
     go_quiet (fail)
     go_wp2_with fail
     go_meet
     case rel => exact ⟨by rw [HDN.out, decide_eq_false hsz, Bool.false_and], _, rfl⟩
   case rest =>
    obtain ⟨rfl, nq0, rfl⟩ := hcut
    have HT5 := hide (HT2.out.below (below_drewN (Below.refl _ _) nq0))
    have HB5 := hide (below_drewN HB2.out nq0)
    clear HT2 HB2 hn48 hgi hgz
    generalize w2.drewN nq0 = W5 at HT5 HB5 ⊢
    have hn48 : W5.cell? ⟨w.heap.size, 48, none⟩ = some (.slice (some ⟨g, 0, none⟩) 12 c) := (box_cells HT5.out.box 48).trans (tr_names HT.out _)
    have hgc : ∀ j, j < 12 → W5.cell? ⟨g, j, none⟩ = some (.string (nm j)) := by
     obtain ⟨g', c', e', _, hgc⟩ := HT5.out.names.is
     cases e'
     exact hgc
    have hgi := hgc i hlt
    have HGC := hide hgc
    clear hgc
    cases bz
    ·skip
     go_wp2_with fail
     go_quiet (fail)
     have HT6 := hide (HT5.out.below (below_drewN (Below.refl _ _) nq))
     have HB6 := hide (below_drewN HB5.out nq)
     go_wp2_with fail
     have HNX : Hid ((List.range (i + 1)).foldl (belStep t n zone) none = best) := by
      unfold Hid
      rw [HST.out, HDS.out]
      simp
     go_roundw
     case rel => exact ⟨i + 1, best, by go_num, by omega, rfl, HNX, HT6, HB6⟩
     case measure => simp [intOf]; omega
    cases bi
    ·skip
     go_wp2_with fail
     go_quiet (fail)
     have HT6 := hide (HT5.out.below (below_drewN (Below.refl _ _) nq))
     have HB6 := hide (below_drewN HB5.out nq)
     go_wp2_with fail
     have HNX : Hid ((List.range (i + 1)).foldl (belStep t n zone) none = best) := by
      unfold Hid
      rw [HST.out, HDS.out]
      simp
     go_roundw
     case rel => exact ⟨i + 1, best, by go_num, by omega, rfl, HNX, HT6, HB6⟩
     case measure => simp [intOf]; omega
    cases dn
    ·skip
     go_wp2_with fail
     go_quiet (fail)
     have HT6 := hide (HT5.out.below (below_drewN (Below.refl _ _) nq))
     have HB6 := hide (below_drewN HB5.out nq)
     go_wp2_with fail
     have HNX : Hid ((List.range (i + 1)).foldl (belStep t n zone) none = best) := by
      unfold Hid
      rw [HST.out, HDS.out]
      simp
     go_roundw
     case rel => exact ⟨i + 1, best, by go_num, by omega, rfl, HNX, HT6, HB6⟩
     case measure => simp [intOf]; omega
    cases best with
    | none =>
     unfold optI
     go_wp2_with fail
     go_quiet (fail)
     have HT6 := hide (HT5.out.below (below_drewN (Below.refl _ _) nq))
     have HB6 := hide (below_drewN HB5.out nq)
     go_wp2_with fail
     have HNX : Hid ((List.range (i + 1)).foldl (belStep t n zone) none = some i) := by
      unfold Hid
      rw [HST.out, HDS.out]
      simp [shorter]
     go_roundw
     case rel => exact ⟨i + 1, some i, by go_num, by omega, rfl, HNX, HT6, HB6⟩
     case measure => simp [intOf]; omega
    | some b =>
     have hb12 := HBL.out b rfl
     have hgb := HGC.out b hb12
     have l4 := nm_size b
     unfold optI
     have hb0 : decide ((b : Int) < 0) = false := by simp
     by_cases hsz : (nm i).size < (nm b).size
     ·have hsz' : decide (((nm i).size : Int) < ((nm b).size : Int)) = true := by simp; omega
      go_wp2_with fail
      go_quiet (fail)
      have HT6 := hide (HT5.out.below (below_drewN (Below.refl _ _) nq))
      have HB6 := hide (below_drewN HB5.out nq)
      go_wp2_with fail
      have HNX : Hid ((List.range (i + 1)).foldl (belStep t n zone) none = some i) := by
       unfold Hid
       rw [HST.out, HDS.out]
       simp [hsz, shorter]
      go_roundw
      case rel => exact ⟨i + 1, some i, by go_num, by omega, rfl, HNX, HT6, HB6⟩
      case measure => simp [intOf]; omega
     ·have hsz' : decide (((nm i).size : Int) < ((nm b).size : Int)) = false := by simp; omega
      go_wp2_with fail
      go_quiet (fail)
      have HT6 := hide (HT5.out.below (below_drewN (Below.refl _ _) nq))
      have HB6 := hide (below_drewN HB5.out nq)
      go_wp2_with fail
      have HNX : Hid ((List.range (i + 1)).foldl (belStep t n zone) none = some b) := by
       unfold Hid
       rw [HST.out, HDS.out]
       simp [hsz, shorter]
      go_roundw
      case rel => exact ⟨i + 1, some b, by go_num, by omega, rfl, HNX, HT6, HB6⟩
      case measure => simp [intOf]; omega
  ·have h12 : i = 12 := by omega
   subst h12
   go_wp2_with fail
   go_ret
   exact ⟨by unfold belN; rw [HN.out]; rfl, HB.out⟩
def nnL (x : Nat) : List UInt8 := if x < 12 then nmL.getD x [] else if x < 24 then [1, 122] ++ nmL.getD (x - 12) [] else [1, 110] ++ nmL.getD (x - 24) []
def nn (x : Nat) : ByteArray := str (nnL x)
theorem nn_nm {i : Nat} (h : i < 12) : nn i = nm i := by unfold nn nnL nm; rw [if_pos h]
theorem nn_below {i : Nat} (h : i < 12) : nn (12 + i) = str ([1, 122] ++ nmL.getD i []) := by unfold nn nnL; rw [if_neg (by omega), if_pos (by omega), Nat.add_sub_cancel_left]
theorem nn_srv {i : Nat} (h : i < 12) : nn (24 + i) = srv i := by unfold nn nnL srv srvL; rw [if_neg (by omega), if_neg (by omega), Nat.add_sub_cancel_left]
theorem nn_name {x : Nat} (h : x < 36) : nameB (nn x) = true := (by decide +kernel : ∀ x : Fin 36, nameB (nn x.val) = true) ⟨x, h⟩
theorem nn_size {x : Nat} (h : x < 36) : (nn x).size ≤ 9 := (by decide +kernel : ∀ x : Fin 36, (nn x.val).size ≤ 9) ⟨x, h⟩
theorem nn_same {x y : Nat} (h : x < 36) (h2 : y < 36) : sameB (nn x) (nn y) = decide (x = y) := by
 have := (by decide +kernel : ∀ x y : Fin 36, sameB (nn x.val) (nn y.val) = decide (x.val = y.val)) ⟨x, h⟩ ⟨y, h2⟩
 exact this
theorem nn_inj {x y : Nat} (h : x < 36) (h2 : y < 36) (e : nn x = nn y) : x = y := by
 have h3 := nn_same h h2
 have h4 := nn_same h2 h2
 rw [e, h4] at h3
 simpa using h3.symm
theorem lies_S {x i : Nat} (h : x < 36) (hi : i < 12) : liesS (nn x) (nm i) = (nmL.getD i []).isSuffixOf (nnL x) := (by decide +kernel : ∀ (x : Fin 36) (i : Fin 12), liesS (nn x.val) (nm i.val) = (nmL.getD i.val []).isSuffixOf (nnL x.val)) ⟨x, h⟩ ⟨i, hi⟩
theorem lies_B {x i : Nat} (h : x < 36) (hi : i < 12) : liesB (nn x) (nm i) = (nmL.getD i []).isSuffixOf (nnL x) := (by decide +kernel : ∀ (x : Fin 36) (i : Fin 12), liesB (nn x.val) (nm i.val) = (nmL.getD i.val []).isSuffixOf (nnL x.val)) ⟨x, h⟩ ⟨i, hi⟩
theorem lies_BS {x i : Nat} (h : x < 36) (hi : i < 12) : liesB (nn x) (nm i) = liesS (nn x) (nm i) := by rw [lies_S h hi, lies_B h hi]
def dep (i : Nat) : Nat := (nmL.getD i []).length / 2
theorem dep_size {i : Nat} (h : i < 12) : (nm i).size = 2 * dep i + 1 := (by decide +kernel : ∀ i : Fin 12, (nm i.val).size = 2 * dep i.val + 1) ⟨i, h⟩
theorem dep_le {i : Nat} (h : i < 12) : dep i ≤ 3 := (by decide +kernel : ∀ i : Fin 12, dep i.val ≤ 3) ⟨i, h⟩
theorem lies_iff {x i : Nat} (h : x < 36) (hi : i < 12) : liesS (nn x) (nm i) = true ↔ nmL.getD i [] <:+ nnL x := by rw [lies_S h hi]; exact List.isSuffixOf_iff_suffix
theorem lies_two {x i j : Nat} (h : x < 36) (hi : i < 12) (hj : j < 12) (h1 : liesS (nn x) (nm i) = true) (h2 : liesS (nn x) (nm j) = true) (hs : (nm i).size ≤ (nm j).size) : liesS (nm j) (nm i) = true := by
 have h3 := (lies_iff h hi).1 h1
 have h4 := (lies_iff h hj).1 h2
 have h5 := List.suffix_of_suffix_length_le h3 h4 hs
 have h6 : nnL j = nmL.getD j [] := by unfold nnL; rw [if_pos hj]
 rw [← nn_nm hj, lies_iff (by omega) hi, h6]
 exact h5
theorem lies_trans {x i j : Nat} (h : x < 36) (hi : i < 12) (hj : j < 12) (h1 : liesS (nn x) (nm j) = true) (h2 : liesS (nm j) (nm i) = true) : liesS (nn x) (nm i) = true := by
 rw [← nn_nm hj] at h2
 have h3 := (lies_iff h hj).1 h1
 have h4 := (lies_iff (by omega) hi).1 h2
 have h6 : nnL j = nmL.getD j [] := by unfold nnL; rw [if_pos hj]
 rw [h6] at h4
 exact (lies_iff h hi).2 (h4.trans h3)
theorem lies_root {x : Nat} (h : x < 36) : liesS (nn x) (nm 0) = true := (by decide +kernel : ∀ x : Fin 36, liesS (nn x.val) (nm 0) = true) ⟨x, h⟩
theorem lies_srv {i : Nat} (h : i < 12) : liesS (nn (24 + i)) (nm i) = true := (by decide +kernel : ∀ x : Fin 12, liesS (nn (24 + x.val)) (nm x.val) = true) ⟨i, h⟩
theorem lies_low {k i : Nat} (h1 : 1 ≤ k) (h3 : k ≤ 3) (hi : i < 12) (h : liesS (nn (24 + k)) (nm i) = true) : i = 0 ∨ i = k := by
 have := (by decide +kernel : ∀ (k : Fin 4) (i : Fin 12), 1 ≤ k.val → liesS (nn (24 + k.val)) (nm i.val) = true → i.val = 0 ∨ i.val = k.val) ⟨k, by omega⟩ ⟨i, hi⟩ h1 h
 exact this
theorem dep_low {k : Nat} (h1 : 1 ≤ k) (h3 : k ≤ 3) : dep k = 1 := (by decide +kernel : ∀ k : Fin 4, 1 ≤ k.val → dep k.val = 1) ⟨k, by omega⟩ h1
theorem dep_zero : dep 0 = 0 := by decide +kernel
theorem host_zero (t : Tr) : hostN t 0 = 0 := by unfold hostN; rw [if_pos rfl]
theorem host_is (t : Tr) {i : Nat} (h0 : i ≠ 0) : hostN t i = i ∨ (1 ≤ hostN t i ∧ hostN t i ≤ 3 ∧ hostN t i ≠ i ∧ zoneB t (hostN t i) = true ∧ hostN t (hostN t i) = hostN t i) := by
 generalize hk : hostN t i = k
 unfold hostN at hk
 rw [if_neg h0] at hk
 generalize pkN (t.server.getD i 0) 5 = s at hk
 split at hk
 ·exact .inl hk.symm
 ·rename_i h1
  split at hk
  ·exact .inl hk.symm
  ·rename_i h2
   subst hk
   refine .inr ⟨by omega, by omega, by omega, ?_, ?_⟩
   ·cases hz : zoneB t s with
    | true => rfl
    | false => exact absurd (.inl hz) h2
   ·unfold hostN
    rw [if_neg (by omega), if_pos]
    refine Classical.byContradiction fun hn => h2 (.inr (.inl ?_))
    omega
theorem host_lt (t : Tr) {i : Nat} (h : i < 12) : hostN t i < 12 := by
 by_cases h0 : i = 0
 ·subst h0; rw [host_zero]; omega
 ·rcases host_is t h0 with e | e <;> omega
theorem host_root {t : Tr} {i : Nat} (h : hostN t i = 0) : i = 0 := by
 refine Classical.byContradiction fun h0 => ?_
 rcases host_is t h0 with e | e <;> omega
theorem deep_is (t : Tr) (n : ByteArray) (server : Nat) : ∀ m, m ≤ 12 → (∀ b, (List.range m).foldl (deepStep t n server) none = some b → b < 12 ∧ zoneB t b = true ∧ liesS n (nm b) = true ∧ hostN t b = server) ∧ (∀ i, i < m → zoneB t i = true → liesS n (nm i) = true → hostN t i = server → ∃ b, (List.range m).foldl (deepStep t n server) none = some b ∧ (nm i).size ≤ (nm b).size)
 | 0, _ => ⟨fun b h => by simp at h, fun i h => by omega⟩
 | m + 1, hm => by
  obtain ⟨h1, h2⟩ := deep_is t n server m (by omega)
  rw [List.range_succ, fold_snoc]
  generalize (List.range m).foldl (deepStep t n server) none = best at h1 h2
  by_cases hc : (zoneB t m && liesS n (nm m) && decide (hostN t m = server) && deeper best m) = true
  ·have e : deepStep t n server best m = some m := by unfold deepStep; rw [if_pos hc]
   rw [e]
   simp only [Bool.and_eq_true, decide_eq_true_eq] at hc
   refine ⟨fun b hb => ?_, fun i hi z l s => ⟨m, rfl, ?_⟩⟩
   ·cases hb
    exact ⟨by omega, hc.1.1.1, hc.1.1.2, hc.1.2⟩
   ·by_cases him : i < m
    ·obtain ⟨b, hb, hs⟩ := h2 i him z l s
     have := hc.2
     rw [hb] at this
     unfold deeper at this
     simp only [decide_eq_true_eq] at this
     omega
    ·have : i = m := by omega
     subst this
     exact Nat.le_refl _
  ·have e : deepStep t n server best m = best := by unfold deepStep; rw [if_neg hc]
   rw [e]
   refine ⟨h1, fun i hi z l s => ?_⟩
   by_cases him : i < m
   ·exact h2 i him z l s
   ·have : i = m := by omega
    subst this
    have hd : deeper best i = false := by
     cases hd : deeper best i with
     | false => rfl
     | true => exact absurd (by rw [z, l, hd]; simp [s]) hc
    cases best with
    | none => cases hd
    | some b =>
     refine ⟨b, rfl, ?_⟩
     unfold deeper at hd
     simp only [decide_eq_false_iff_not] at hd
     omega
theorem deep_some {t : Tr} {n : ByteArray} {server z : Nat} (hz : z < 12) (h1 : zoneB t z = true) (h2 : liesS n (nm z) = true) (h3 : hostN t z = server) : ∃ b, deepN t n server = some b ∧ b < 12 ∧ zoneB t b = true ∧ liesS n (nm b) = true ∧ hostN t b = server ∧ (nm z).size ≤ (nm b).size := by
 obtain ⟨a1, a2⟩ := deep_is t n server 12 (Nat.le_refl _)
 obtain ⟨b, hb, hs⟩ := a2 z hz h1 h2 h3
 obtain ⟨c1, c2, c3, c4⟩ := a1 b hb
 exact ⟨b, hb, c1, c2, c3, c4, hs⟩
theorem bel_is (t : Tr) (n : ByteArray) (zone : Nat) : ∀ m, m ≤ 12 → (∀ b, (List.range m).foldl (belStep t n zone) none = some b → b < 12 ∧ zoneB t b = true ∧ liesS n (nm b) = true ∧ (nm zone).size < (nm b).size ∧ liesS (nm b) (nm zone) = true) ∧ (∀ i, i < m → zoneB t i = true → liesS n (nm i) = true → (nm zone).size < (nm i).size → liesS (nm i) (nm zone) = true → (List.range m).foldl (belStep t n zone) none ≠ none)
 | 0, _ => ⟨fun b h => by simp at h, fun i h => by omega⟩
 | m + 1, hm => by
  obtain ⟨h1, h2⟩ := bel_is t n zone m (by omega)
  rw [List.range_succ, fold_snoc]
  generalize (List.range m).foldl (belStep t n zone) none = best at h1 h2
  by_cases hc : (zoneB t m && liesS n (nm m) && (decide ((nm zone).size < (nm m).size) && liesS (nm m) (nm zone)) && shorter best m) = true
  ·have e : belStep t n zone best m = some m := by unfold belStep; rw [if_pos hc]
   rw [e]
   simp only [Bool.and_eq_true, decide_eq_true_eq] at hc
   refine ⟨fun b hb => ?_, fun i hi z l s s2 => by simp⟩
   cases hb
   exact ⟨by omega, hc.1.1.1, hc.1.1.2, hc.1.2.1, hc.1.2.2⟩
  ·have e : belStep t n zone best m = best := by unfold belStep; rw [if_neg hc]
   rw [e]
   refine ⟨h1, fun i hi z l s s2 => ?_⟩
   by_cases him : i < m
   ·exact h2 i him z l s s2
   ·have : i = m := by omega
    subst this
    cases best with
    | none => exact absurd (by rw [z, l, s2]; simp [s, shorter]) hc
    | some b => simp
theorem bel_some {t : Tr} {n : ByteArray} {zone d : Nat} (h : belN t n zone = some d) : d < 12 ∧ zoneB t d = true ∧ liesS n (nm d) = true ∧ (nm zone).size < (nm d).size ∧ liesS (nm d) (nm zone) = true := (bel_is t n zone 12 (Nat.le_refl _)).1 d h
theorem bel_ne {t : Tr} {n : ByteArray} {zone d : Nat} (hd : d < 12) (h1 : zoneB t d = true) (h2 : liesS n (nm d) = true) (h3 : (nm zone).size < (nm d).size) (h4 : liesS (nm d) (nm zone) = true) : belN t n zone ≠ none := (bel_is t n zone 12 (Nat.le_refl _)).2 d hd h1 h2 h3 h4
theorem root_low {t : Tr} {k : Nat} (h1 : 1 ≤ k) (h3 : k ≤ 3) (hz : zoneB t k = true) : deepN t (nn (24 + k)) 0 = some 0 ∧ belN t (nn (24 + k)) 0 = some k := by
 constructor
 ·obtain ⟨b, hb, c1, c2, c3, c4, _⟩ := deep_some (t := t) (n := nn (24 + k)) (server := 0) (z := 0) (by omega) (by unfold zoneB; simp) (lies_root (by omega)) (host_zero t)
  rw [hb, host_root c4]
 ·have hne := bel_ne (t := t) (n := nn (24 + k)) (zone := 0) (d := k) (by omega) hz (lies_srv (by omega)) (by rw [dep_size (by omega), dep_size (by omega), dep_low h1 h3, dep_zero]; omega) (by rw [← nn_nm (i := k) (by omega)]; exact lies_root (by omega))
  cases hb : belN t (nn (24 + k)) 0 with
  | none => exact absurd hb hne
  | some d =>
   obtain ⟨c1, c2, c3, c4, c5⟩ := bel_some hb
   rcases lies_low h1 h3 c1 c3 with e | e
   ·subst e; omega
   ·rw [e]
theorem own_low {t : Tr} {k : Nat} (h1 : 1 ≤ k) (h3 : k ≤ 3) (hz : zoneB t k = true) (hh : hostN t k = k) : deepN t (nn (24 + k)) k = some k ∧ belN t (nn (24 + k)) k = none := by
 constructor
 ·obtain ⟨b, hb, c1, c2, c3, c4, _⟩ := deep_some (t := t) (n := nn (24 + k)) (server := k) (z := k) (by omega) hz (lies_srv (by omega)) hh
  rcases lies_low h1 h3 c1 c3 with e | e
  ·subst e; rw [host_zero] at c4; omega
  ·rw [hb, e]
 ·cases hb : belN t (nn (24 + k)) k with
  | none => rfl
  | some d =>
   obtain ⟨c1, c2, c3, c4, c5⟩ := bel_some hb
   rcases lies_low h1 h3 c1 c3 with e | e
   ·subst e
    rw [dep_size (by omega), dep_size (by omega), dep_zero] at c4
    omega
   ·subst e; omega
structure SmR (r : Rc) : Prop where
 name : nameB r.name = true
 size : r.name.size ≤ 9
 data : r.data.size ≤ 9
 named : named r.kind = true → nameB r.data = true
 k0 : 0 ≤ r.kind
 k1 : r.kind ≤ 65535
 c0 : 0 ≤ r.cls
 c1 : r.cls ≤ 65535
 t0 : 0 ≤ r.ttl
 t1 : r.ttl ≤ 4294967295
theorem srv_nm {i x : Nat} (hi : i < 12) (hx : x < 12) : srv i ≠ nm x := fun e => by
 rw [← nn_srv hi, ← nn_nm hx] at e
 have := nn_inj (by omega) (by omega) e
 omega
theorem adrB_size (i : Nat) : (adrB i).size = 4 := rfl
theorem has_sm {t : Tr} {x : Nat} {k : Int} (hx : x < 36) (k0 : 0 ≤ k) (k1 : k ≤ 65535) (k2 : k ≠ 2) {r : Rc} (h : r ∈ hasL t (nn x) k) : SmR r ∧ (k = 5 → ∃ j, j < 12 ∧ r.data = nn j) ∧ (k ≠ 5 → r.data.size = 4) := by
 have h0 := has_of h
 have key : ∀ {d : Nat}, 0 ≤ r.ttl → r.ttl ≤ 4294967295 → ((k ≠ 5 ∧ r.data.size = 4) ∨ (k = 5 ∧ d < 12 ∧ r.data = nn d)) → SmR r ∧ (k = 5 → ∃ j, j < 12 ∧ r.data = nn j) ∧ (k ≠ 5 → r.data.size = 4) := by
  intro d t0 t1 hd
  refine ⟨⟨by rw [h0.1]; exact nn_name hx, by rw [h0.1]; exact nn_size hx, ?_, ?_, by rw [h0.2.1]; exact k0, by rw [h0.2.1]; exact k1, by rw [h0.2.2]; omega, by rw [h0.2.2]; omega, t0, t1⟩, fun e => ?_, fun e => ?_⟩
  ·rcases hd with hd | hd
   ·omega
   ·rw [hd.2.2]; exact nn_size (by omega)
  ·intro hn
   unfold Go.Trawl.named at hn
   rw [h0.2.1] at hn
   simp only [decide_eq_true_eq] at hn
   rcases hd with hd | hd
   ·omega
   ·rw [hd.2.2]; exact nn_name (by omega)
  ·rcases hd with hd | hd
   ·exact absurd e hd.1
   ·exact ⟨d, hd.2⟩
  ·rcases hd with hd | hd
   ·exact hd.2
   ·exact absurd hd.1 e
 unfold hasL at h
 obtain ⟨i, hi, h⟩ := List.mem_flatMap.mp h
 have hi := List.mem_range.1 hi
 unfold hasI at h
 rcases List.mem_append.mp h with h | h
 ·unfold hasA at h
  split at h
  ·rename_i hc
   simp at h; subst h
   exact key (d := 0) (by simp [rcOf]) (by simp [rcOf]) (.inl ⟨by omega, rfl⟩)
  ·simp at h
 ·split at h
  ·simp at h
  ·rcases List.mem_append.mp h with h | h
   ·unfold hasB at h
    split at h
    ·rename_i hc
     obtain ⟨j, _, rfl⟩ := List.mem_map.mp h
     exact key (d := 0) (by simp [hasJ, rcOf]) (by simp [hasJ, rcOf]; omega) (.inl ⟨by omega, rfl⟩)
    ·simp at h
   ·unfold hasC at h
    split at h
    ·rename_i hc
     simp at h; subst h
     have hp := pkN_lt (c := t.for_.getD i 0) (n := 12) (by omega)
     exact key (d := pkN (t.for_.getD i 0) 12) (by simp [rcOf]) (by simp [rcOf]; omega) (.inr ⟨hc.2, hp, (nn_nm hp).symm⟩)
    ·simp at h
def mayN (n : ByteArray) (i : Nat) : Nat := (if srv i = n then 1 else 0) + (if nm i = n then 3 else 0)
theorem hasI_may (t : Tr) (n : ByteArray) (k : Int) (i : Nat) : (hasI t n k i).length ≤ mayN n i := by
 have h2 := hasB_len t n k i
 have h3 := hasC_len t n k i
 unfold hasI mayN
 rw [List.length_append]
 have h1 : (hasA t n k i).length ≤ if srv i = n then 1 else 0 := by
  unfold hasA
  split
  ·rename_i h; rw [if_pos h.2.2.1]; simp
  ·simp
 refine Nat.add_le_add h1 ?_
 split
 ·simp
 ·rename_i h
  rw [if_pos (Classical.byContradiction fun e => h (.inl e)), List.length_append]
  omega
theorem flat_may {α : Type} (f : Nat → List α) (g : Nat → Nat) (h : ∀ i, (f i).length ≤ g i) : ∀ l : List Nat, (l.flatMap f).length ≤ (l.map g).sum
 | [] => by simp
 | a :: l => by
  rw [List.flatMap_cons, List.length_append, List.map_cons, List.sum_cons]
  exact Nat.add_le_add (h a) (flat_may f g h l)
theorem may_few {x : Nat} (h : x < 36) : ((List.range 12).map (mayN (nn x))).sum ≤ 3 := by
 have key : ∀ i, i < 12 → mayN (nn x) i = (if 24 + i = x then 1 else 0) + (if i = x then 3 else 0) := by
  intro i hi
  unfold mayN
  rw [← nn_srv hi, ← nn_nm hi]
  congr 1
  ·by_cases e : 24 + i = x
   ·rw [if_pos e, if_pos (by rw [e])]
   ·rw [if_neg e, if_neg (fun e2 => e (nn_inj (by omega) h e2))]
  ·by_cases e : i = x
   ·rw [if_pos e, if_pos (by rw [e])]
   ·rw [if_neg e, if_neg (fun e2 => e (nn_inj (by omega) h e2))]
 have : (List.range 12).map (mayN (nn x)) = (List.range 12).map fun i => (if 24 + i = x then 1 else 0) + (if i = x then 3 else 0) := List.map_congr_left fun i hi => key i (List.mem_range.1 hi)
 rw [this]
 exact (by decide : ∀ x : Fin 36, ((List.range 12).map fun i => (if 24 + i = x.val then 1 else 0) + (if i = x.val then 3 else 0)).sum ≤ 3) ⟨x, h⟩
theorem has_few {t : Tr} {x : Nat} {k : Int} (hx : x < 36) : (hasL t (nn x) k).length ≤ 3 := Nat.le_trans (flat_may _ _ (fun i => hasI_may t (nn x) k i) _) (may_few hx)
theorem has_low {t : Tr} {k : Nat} (h1 : 1 ≤ k) (h3 : k ≤ 3) (hz : zoneB t k = true) : hasL t (nn (24 + k)) 1 = [rcOf (nn (24 + k)) 1 60 (adrB k)] := by
 have key : ∀ i, i < 12 → hasI t (nn (24 + k)) 1 i = if i = k then [rcOf (nn (24 + k)) 1 60 (adrB k)] else [] := by
  intro i hi
  unfold hasI
  rw [if_pos (.inl (by rw [nn_srv (by omega)]; exact fun e => srv_nm (by omega) hi e.symm)), List.append_nil]
  unfold hasA
  by_cases e : i = k
  ·subst e
   rw [if_pos ⟨hz, by omega, (nn_srv hi).symm, rfl⟩, if_pos rfl]
  ·rw [if_neg e, if_neg]
   rintro ⟨_, _, h, _⟩
   rw [← nn_srv hi] at h
   have := nn_inj (by omega) (by omega) h
   omega
 unfold hasL
 have : (List.range 12).flatMap (hasI t (nn (24 + k)) 1) = (List.range 12).flatMap fun i => if i = k then [rcOf (nn (24 + k)) 1 60 (adrB k)] else [] := by
  rw [List.flatMap_def, List.flatMap_def, List.map_congr_left fun i hi => key i (List.mem_range.1 hi)]
 rw [this]
 rcases (show k = 1 ∨ k = 2 ∨ k = 3 by omega) with rfl | rfl | rfl <;> rfl
structure Fix (A : Msg) (cf : Int × Int × Int × Int × List Int) (st : RSt) : Prop where
 asked : st.asked = A
 conf : conf st = cf
theorem Fix.b {A : Msg} {b d c t : Int} {rs : List Int} {st : RSt} (h : Fix A (b, d, c, t, rs) st) : st.b = b ∧ st.c = c := by
 have e := h.conf
 unfold Go.Proofs.YtafoepfhepdcoaaGreat.conf at e
 simp only [Prod.mk.injEq] at e
 exact ⟨e.1, e.2.2.1⟩
def anL (t : Tr) (n : ByteArray) (k : Int) : List Rc := if hasL t n k = [] then hasL t n 5 else hasL t n k
def sayM (t : Tr) (server : Nat) (m : Msg) (n : ByteArray) (k : Int) : Msg := match deepN t n server with
 | none => { m with resp := true, code := 5 }
 | some z => match belN t n z with
  | some d => { m with resp := true, au := [⟨nm d, 2, 1, 9, srv (hostN t d)⟩], ex := if hostN t d = d then [⟨srv (hostN t d), 1, 1, 9, adrB (hostN t d)⟩] else m.ex }
  | none => { m with resp := true, own := true, an := anL t n k, code := if anL t n k = [] ∧ thereB t n = false then 3 else m.code }
def hostA (h : Nat) : Int := 167772160 + (h : Int)
theorem adr_host {h : Nat} (hh : h < 12) : adr (adrB h) = hostA h := (by decide +kernel : ∀ h : Fin 12, adr (adrB h.val) = hostA h.val) ⟨h, hh⟩
def lkd (t : Tr) (k : Int) : Nat → List ByteArray → List Rc → ByteArray → Int × List Rc
 | 0, _, _, _ => (2, [])
 | f + 1, seen, all, n => if (seen.any fun s => decide (s = n)) = true then (2, []) else if hasL t n k ≠ [] then (0, all ++ hasL t n k) else match hasL t n 5 with
  | [] => (if thereB t n = true then 0 else 3, all)
  | x :: _ => if 10 ≤ all.length then (2, []) else lkd t k f (seen ++ [n]) (all ++ [x]) x.data
theorem any_mem {n : ByteArray} {l : List ByteArray} : (l.any fun s => decide (s = n)) = true ↔ n ∈ l := by
 rw [List.any_eq_true]
 exact ⟨fun ⟨s, h1, h2⟩ => by rw [← of_decide_eq_true h2]; exact h1, fun h => ⟨n, h, decide_eq_true rfl⟩⟩
structure Tch (t : Tr) (x : Nat) (k : Int) (z : Nat) (c : Ch) : Prop where
 name : c.name = nn x
 kind : c.kind = k
 zone : c.zone = nm z
 x36 : x < 36
 z12 : z < 12
 zn : zoneB t z = true
 lies : liesS (nn x) (nm z) = true
section
variable {t : Tr} {x z d h : Nat} {k : Int} {c : Ch} {st : RSt} {r : List Ch}
theorem size_two {i j : Nat} (hi : i < 12) (hj : j < 12) : (nm i).size < (nm j).size ↔ dep i < dep j := by
 rw [dep_size hi, dep_size hj]
 omega
theorem Tch.leads (hc : Tch t x k z c) (hd : d < 12) (hl : liesS (nn x) (nm d) = true) (hs : (nm z).size < (nm d).size) (y : ByteArray) : Go.Proofs.YtafoepfhepdcoaaGreat.leads c ⟨nm d, 2, 1, 9, y⟩ = true := by
 have h1 : liesB (nm d) (nm z) = true := by
  rw [← nn_nm hd, lies_BS (by omega) hc.z12, nn_nm hd]
  exact lies_two hc.x36 hc.z12 hd hc.lies hl (by omega)
 have h2 : sameB (nm d) (nm z) = false := by
  rw [← nn_nm hd, ← nn_nm hc.z12, nn_same (by omega) (by have := hc.z12; omega)]
  refine decide_eq_false fun e => ?_
  subst e
  omega
 have h3 : liesB (nn x) (nm d) = true := by rw [lies_BS hc.x36 hd]; exact hl
 unfold Go.Proofs.YtafoepfhepdcoaaGreat.leads
 dsimp only
 rw [hc.zone, hc.name, h1, h2, h3]
 simp
theorem Tch.down (hc : Tch t x k z c) (hd : d < 12) (hl : liesS (nn x) (nm d) = true) (hs : (nm z).size < (nm d).size) (m : Msg) (hh : h < 12) (ha : m.au = [⟨nm d, 2, 1, 9, srv h⟩]) (he : m.ex = if h = d then [⟨srv h, 1, 1, 9, adrB h⟩] else []) :
  downC m c (nm d) = { c with zone := nm d, sent := 0, servers := if h = d then [hostA d] else [], names := [srv h] } := by
 have h1 : liesB (nm d) (nm z) = true := by
  rw [← nn_nm hd, lies_BS (by omega) hc.z12, nn_nm hd]
  exact lies_two hc.x36 hc.z12 hd hc.lies hl (by omega)
 have h2 : sameB (nm d) (nm d) = true := by
  rw [← nn_nm hd, nn_same (by omega) (by omega)]
  exact decide_eq_true rfl
 have hf : m.au.filter (ofB c.zone (nm d) 2) = [⟨nm d, 2, 1, 9, srv h⟩] := by
  rw [ha, hc.zone]
  unfold ofB
  simp [h1, h2]
 have hg : glueL m c.zone (srv h) = if h = d then [hostA d] else [] := by
  unfold glueL
  rw [he]
  by_cases e : h = d
  ·subst e
   rw [if_pos rfl, if_pos rfl]
   have h4 : liesB (srv h) (nm z) = true := by
    rw [← nn_srv hh, lies_BS (by omega) hc.z12]
    exact lies_trans (by omega) hc.z12 hh (lies_srv hh) (lies_two hc.x36 hc.z12 hd hc.lies hl (by omega))
   have h5 : sameB (srv h) (srv h) = true := by
    rw [← nn_srv hh, nn_same (by omega) (by omega)]
    exact decide_eq_true rfl
   unfold ofB addrs
   simp [hc.zone, h4, h5, adrB_size, adr_host hh]
  ·rw [if_neg e, if_neg e]
   rfl
 unfold downC downL
 rw [hf]
 simp only [List.foldl_cons, List.foldl_nil]
 unfold downStep
 simp [hg]
theorem Tch.follows (hc : Tch t x k z c) (hd : d < 12) (hl : liesS (nn x) (nm d) = true) (hs : (nm z).size < (nm d).size) (m : Msg) (_hh : h < 12) (ha : m.au = [⟨nm d, 2, 1, 9, srv h⟩]) (hn : m.an = []) (h0 : m.code = 0) :
  followsP st r c m = downP st r c (nm d) m := by
 have hle := hc.leads hd hl hs (srv h)
 unfold followsP
 rw [if_neg (by omega), hn]
 simp [h0, ha, hle]
theorem Tch.of (hc : Tch t x k z c) {k' : Int} : (hasL t (nn x) k').filter (ofB c.zone c.name k') = hasL t (nn x) k' := by
 rw [List.filter_eq_self]
 intro y hy
 obtain ⟨e1, e2, e3⟩ := has_of hy
 have h1 : liesB (nn x) (nm z) = true := by rw [lies_BS hc.x36 hc.z12]; exact hc.lies
 have h2 : sameB (nn x) (nn x) = true := by rw [nn_same hc.x36 hc.x36]; exact decide_eq_true rfl
 unfold ofB
 rw [e1, e2, e3, hc.zone, hc.name, h1, h2]
 simp
theorem Tch.no (_hc : Tch t x k z c) {k' : Int} (hk : k' ≠ 5) : (hasL t (nn x) 5).filter (ofB c.zone c.name k') = [] := by
 rw [List.filter_eq_nil_iff]
 intro y hy
 obtain ⟨e1, e2, e3⟩ := has_of hy
 unfold ofB
 rw [e2]
 simp [Ne.symm hk]
theorem Tch.owns (hc : Tch t x k z c) (m : Msg) (ha : m.an = anL t (nn x) k) (hu : m.au = []) (ho : m.own = true) (h0 : m.code = if anL t (nn x) k = [] ∧ thereB t (nn x) = false then 3 else 0) :
  followsP st r c m = if hasL t (nn x) k ≠ [] then (match r.reverse with
   | [] => foundP st (hasL t (nn x) k) 0
   | p :: ps => if addrs (hasL t (nn x) k) = [] then nextP st r else sendP { st with l := ps.reverse ++ [{ p with servers := addrs (hasL t (nn x) k) }] } ps.reverse { p with servers := addrs (hasL t (nn x) k) })
  else match hasL t (nn x) 5 with
   | y :: _ => if r = [] then standsP st y ((st.asked.qs.map Qn.kind).headD 0) else nextP st r
   | [] => if r = [] then foundP st [] (if thereB t (nn x) = true then 0 else 3) else nextP st r := by
 have hcode : ¬ (m.code ≠ 0 ∧ m.code ≠ 3) := by
  rw [h0]
  split <;> simp
 unfold followsP
 rw [if_neg hcode, ha]
 have hk := hc.kind
 subst hk
 by_cases h1 : hasL t (nn x) c.kind = []
 ·have hA : anL t (nn x) c.kind = hasL t (nn x) 5 := by unfold anL; rw [if_pos h1]
  have hf : (anL t (nn x) c.kind).filter (ofB c.zone c.name c.kind) = [] := by
   rw [hA]
   by_cases e : c.kind = 5
   ·rw [e] at h1; rw [h1]; rfl
   ·exact hc.no e
  have hf5 : (anL t (nn x) c.kind).filter (ofB c.zone c.name 5) = hasL t (nn x) 5 := by rw [hA]; exact hc.of
  rw [hf, hf5]
  simp only [h1, ne_eq, not_true_eq_false, ↓reduceIte]
  rw [hA] at h0
  cases h5 : hasL t (nn x) 5 with
  | cons y ys => rfl
  | nil =>
   rw [h5] at h0
   simp only [true_and] at h0
   cases hth : thereB t (nn x) with
   | true =>
    rw [hth] at h0
    simp [h0, hu, ho]
   | false =>
    rw [hth] at h0
    simp [h0]
 ·have hA : anL t (nn x) c.kind = hasL t (nn x) c.kind := by unfold anL; rw [if_neg h1]
  rw [hA, hc.of]
  simp only [ne_eq, h1, not_false_eq_true, ↓reduceIte]
  rfl
end
end Go.Proofs.YtafoepfhepdcoaaGreat
