import Derived.Test.YtafoepfhepdcoaaGreatM31
import Derived.Test.YtafoepfhepdcoaaGreatM30
import Derived.Deep.CutRange
set_option maxRecDepth 100000
set_option maxHeartbeats 8000000
namespace Go.Proofs.YtafoepfhepdcoaaGreat
open Go.RowKit Go.Trawl
attribute [local go_sem] Stg.upon
theorem has_cells {w wc W0 W1 w9 : World} {g c i pp : Nat} {hz : Int} (h0 : Below (w.heap.size + 1) wc W0) (h1 : Below (w.heap.size + 1) wc W1) (h9 : Below (w.heap.size + 1) wc w9) (hV : NmAt w (.slice (some ⟨g, 0, none⟩) 12 c)) (hB : Below w.heap.size w wc) (hn : wc.cell? ⟨w.heap.size, 48, none⟩ = some (.slice (some ⟨g, 0, none⟩) 12 c)) (hf : wc.cell? ⟨w.heap.size, 24 + i, none⟩ = some (.int .i64 hz)) (hp : pp < 12) :
  ∀ j w', w' = pkW W0 W1 w9 w9 5 6 7 j → w'.cell? ⟨w.heap.size, 48, none⟩ = some (.slice (some ⟨g, 0, none⟩) 12 c) ∧ w'.cell? ⟨w.heap.size, 24 + i, none⟩ = some (.int .i64 hz) ∧ w'.cell? ⟨g, pp, none⟩ = some (.string (nm pp)) := by
 have key : ∀ {w' : World}, Below (w.heap.size + 1) wc w' → w'.cell? ⟨w.heap.size, 48, none⟩ = some (.slice (some ⟨g, 0, none⟩) 12 c) ∧ w'.cell? ⟨w.heap.size, 24 + i, none⟩ = some (.int .i64 hz) ∧ w'.cell? ⟨g, pp, none⟩ = some (.string (nm pp)) := fun hb => ⟨cell_of_heap (hb.block _ (Nat.lt_succ_self _)) hn, cell_of_heap (hb.block _ (Nat.lt_succ_self _)) hf, by
  obtain ⟨g', c', e', hgl, hgc⟩ := (hV.below (hB.trans (hb.mono (Nat.le_succ _)))).is
  cases e'
  exact hgc _ hp⟩
 rintro j w' rfl
 unfold pkW
 split
 ·exact key h0
 ·split
  ·exact key h1
  ·split <;> exact key h9
theorem kHas_any (w : World) (t : Tr) (v : Value) (n : ByteArray) (k : Int) (ht : TrOk t) (hv : NmAt w v) (_hn : n.size ≤ 1000) :
    Calls Tryz.prog 41 #[.agg (trA t v), .string n, .int .u16 k] w fun e w' => ∃ v', e = .returned v' ∧ Hid (Below w.heap.size w w' ∧ HasAt w w' v' (hasL t n k)) := by
  have HB1 := hide ((Below.refl w.heap.size w).alloc (Nat.le_refl _) (.cells (trA t v) 49))
  have HT1 := hide (TrAt.start (t := t) hv)
  have HT := hide ht
  have HV := hide hv
  obtain ⟨g, c, rfl, -, -⟩ := hv.is
  obtain ⟨i1, hi1, hy0, hy1, hy2⟩ := info_parts hI0
  clear hv ht
  go_enter Tryz.func41, Tryz.ntmps41
  go_wp2_with fail
  generalize w.alloc _ = W1 at HB1 HT1 ⊢
  go_loopw [7, 8] (fun vl vi wr => ∃ i : Nat, vi = .int .i64 i ∧ i ≤ 12 ∧ Hid (HasAt w wr vl ((List.range i).flatMap (hasI t n k))) ∧ Hid (TrAt wr w.heap.size t (.slice (some ⟨g, 0, none⟩) 12 c)) ∧ Hid (Below w.heap.size w wr)) (fun _ vi _ => 12 - (intOf vi).toNat)
  case atStart => exact ⟨0, rfl, by omega, ⟨World.ownsRow_nil _ _ _ _, fun g hg => (by cases hg)⟩, HT1.out, HB1.out⟩
  case round =>
    obtain ⟨i, rfl, hi, HA, HTR, HB⟩ := hrel
    have hn48 : wr.cell? ⟨w.heap.size, 48, none⟩ = some (.slice (some ⟨g, 0, none⟩) 12 c) := (box_cells HTR.out.box 48).trans (tr_names HT.out _)
    by_cases hlt : i < 12
    · go_upto_region 5 with fail
      go_upto_region 6 with (refine wpList_load_cells _ rfl 49 _ rfl ⟨w.heap.size, 0, none⟩ rfl (trA t (.slice (some ⟨g, 0, none⟩) 12 c)) _ undTr rfl (trI' HT.out _) HTR.out.all ?_)
      refine (kZone_any wr t _ i HT.out hlt).mono ?_
      rintro e w2 ⟨rfl, H2⟩
      have HA2 := hide (HA.out.below H2.out)
      have HT2 := hide (HTR.out.below H2.out)
      have HB2 := hide (HB.out.trans (H2.out.mono HB.out.size))
      clear H2 HTR HB HA hn48
      go_upto_region 6 with fail
      obtain ⟨bz, hbz⟩ : ∃ bz, bz = zoneB t i := ⟨_, rfl⟩
      rw [← hbz]
      have HBZ := hide hbz
      clear hbz
      go_cut [37] from 12 to 118 (fun v37 wx => v37 = .bool (bz && decide (0 < i) && (srv i == n) && (k == 1)) ∧ Hid (Below w2.heap.size w2 wx))
      case first =>
        cases bz
        · go_wp2_with fail
          go_meet
          case rel => exact ⟨rfl, Below.refl _ _⟩
        · by_cases h0 : 0 < i
          · have h0' : decide ((i : Int) > 0) = true := by simp; omega
            go_wp2_with (refine wpList_load_want _ rfl 49 _ rfl ⟨w.heap.size, 0, none⟩ rfl (trA t (.slice (some ⟨g, 0, none⟩) 12 c)) _ undTr rfl (trI' HT.out _) HT2.out.all ?_)
            refine (kServer_any w2 t _ i HT.out hlt HT2.out.names).mono ?_
            rintro e w3 ⟨rfl, H3⟩
            by_cases hsn : srv i = n
            · have hsn' : (srv i == n) = true := by rw [ba_beq]; exact decide_eq_true hsn
              go_wp2_with fail
              go_meet
              case rel => exact ⟨by simp [h0, hsn'], H3.out⟩
            · have hsn' : (srv i == n) = false := by rw [ba_beq]; exact decide_eq_false hsn
              go_wp2_with fail
              all_goals go_meet
              all_goals (refine ⟨?_, H3.out⟩; first | (simp [h0, hsn']; done) | (rename_i hx; first | exact absurd hx hsn | exact absurd (toList_inj hx) hsn))
          · have h0' : decide ((i : Int) > 0) = false := by simp; omega
            go_wp2_with fail
            go_meet
            case rel => exact ⟨by simp [h0], Below.refl _ _⟩
      case rest =>
        obtain ⟨rfl, H3⟩ := hcut
        have HA3 := hide (HA2.out.below H3.out)
        have HT3 := hide (HT2.out.below H3.out)
        have HB3 := hide (HB2.out.trans (H3.out.mono HB2.out.size))
        clear H3 HT2 HB2 HA2
        obtain ⟨ba, hba⟩ : ∃ ba, ba = (bz && decide (0 < i) && (srv i == n) && (k == 1)) := ⟨_, rfl⟩
        rw [← hba]
        have HBA := hide hba
        clear hba
        go_upto_if 37 with fail
        have HEA : Hid (hasA t n k i = if ba = true then [rcOf n k 60 (adrB i)] else []) := by
          unfold Hid hasA
          rw [HBA.out, HBZ.out]
          by_cases h : zoneB t i = true ∧ 0 < i ∧ srv i = n ∧ k = 1
          · rw [if_pos h, if_pos (by simp [h.1, h.2.1, ba_beq, h.2.2.1, h.2.2.2])]
          · rw [if_neg h, if_neg (by simpa [ba_beq, and_assoc] using h)]
        have hll := has_len t n k i
        have HSN := hide (has_snoc t n k i)
        generalize (List.range i).flatMap (hasI t n k) = L at hll HA3 HSN ⊢
        go_cut [7] from 12 to 118 (fun v7 wx => Hid (HasAt w wx v7 (L ++ hasA t n k i)) ∧ Hid (Below (w.heap.size + 1) wc wx))
        case first =>
          cases ba
          · go_wp2_with fail
            go_meet
            case rel => exact ⟨by rw [HEA.out, if_neg (by decide), List.append_nil]; exact HA3.out, Below.refl _ _⟩
          · go_wp2_with fail
            refine (kAddress_any wc i hlt).mono ?_
            rintro e w4 ⟨rfl, H4⟩
            have HA4 := hide (HA3.out.below H4.out)
            go_wp2_with (at_builtin; refine wpList_append_grew _ rfl _ _ 28 rfl 69 i1 _ 5 40 uRs hi1 hy0 hy1 hy2 rfl (by decide) _ L.length (recsV L) rfl ⟨w4.heap.size, 0, none⟩ 1 1 [.string n, .int .u16 k, .int .u16 1, .int .u32 60, .string (adrB i)] rfl rfl one_r5 (HA4.out.own.alloc _) (cells_new w4 #[.string n, .int .u16 k, .int .u16 1, .int .u32 60, .string (adrB i)] _) (by unfold maxLen; omega) (by omega) ?_; intro v5 w5 g5; have HG5 := hide g5; clear g5)
            go_meet
            case rel =>
              rw [HEA.out, if_pos trivial]
              exact has_grow HA4.out H4.out (rcOf n k 60 (adrB i)) HG5.out (heap_lt HT3.out.box)
        case rest =>
          obtain ⟨HA5, HW5⟩ := hcut
          have HB5 := hide (HB3.out.trans (HW5.out.mono (Nat.le_succ _)))
          have HT5 : Hid (TrAt wc w.heap.size t (.slice (some ⟨g, 0, none⟩) 12 c)) := ⟨(HW5.out.block _ (Nat.lt_succ_self _)).trans HT3.out.box, HV.out.below HB5.out⟩
          clear HW5 HB3 HT3 HA3 HBA HEA
          have hn48 : wc.cell? ⟨w.heap.size, 48, none⟩ = some (.slice (some ⟨g, 0, none⟩) 12 c) := (box_cells HT5.out.box 48).trans (tr_names HT.out _)
          have hgi : wc.cell? ⟨g, i, none⟩ = some (.string (nm i)) := by
            obtain ⟨g', c', e', _, hgc⟩ := HT5.out.names.is
            cases e'
            exact hgc i hlt
          obtain ⟨bn, hbn⟩ : ∃ bn, bn = (!decide (nm i = n) || decide (i = 0)) := ⟨_, rfl⟩
          have HBN := hide hbn
          clear hbn
          have hla := hasA_len t n k i
          go_upto_region 8 with fail
          go_cut [56] from 12 to 118 (fun v56 wx => v56 = .bool bn ∧ wx = wc)
          case first =>
            by_cases h0 : i = 0
            · have h0' : ((i : Int) == 0) = true := by simp; omega
              have HBT : Hid (bn = true) := by unfold Hid; rw [HBN.out, decide_eq_true h0]; simp
              clear h0
              go_wp2_with fail
              all_goals go_meet
              all_goals exact ⟨by rw [HBT.out]; try simp, rfl⟩
            · have h0' : ((i : Int) == 0) = false := by simp; omega
              by_cases hni : nm i = n
              · have hni' : (nm i == n) = true := by rw [ba_beq]; exact decide_eq_true hni
                go_wp2_with fail
                all_goals go_meet
                all_goals (refine ⟨?_, rfl⟩; rw [HBN.out, decide_eq_true hni, decide_eq_false h0]; first | rfl | (simp; done) | (rename_i hx; exact absurd (by rw [hni]) hx))
              · have hni' : (nm i == n) = false := by rw [ba_beq]; exact decide_eq_false hni
                go_wp2_with fail
                all_goals go_meet
                all_goals (refine ⟨?_, rfl⟩; rw [HBN.out, decide_eq_false hni]; first | rfl | (simp; done) | (rename_i hx; exact absurd (toList_inj hx) hni))
          case rest =>
            obtain ⟨rfl, rfl⟩ := hcut
            clear hn48 hgi
            cases bn
            rotate_left
            · have HNX := hide (has_round HSN.out HA5.out (by have := HBN.out; simp at this; exact this))
              go_wp2_with fail
              go_roundw
              case rel => exact ⟨i + 1, by go_num, by omega, HNX, HT5, HB5⟩
              case measure => simp [intOf]; omega
            · have HNI : Hid (nm i = n ∧ i ≠ 0) := by have := HBN.out; simp at this; exact this
              clear HBN
              have hh : wc.cell? ⟨w.heap.size, 12 + i, none⟩ = some (.int .i64 (t.has.getD i 0)) := (box_cells HT5.out.box (12 + i)).trans (tr_has HT.out _ hlt)
              have hr := get_range HT.out.h HT.out.rh hlt
              have HN : Hid (hasN t i = if pkN (t.has.getD i 0) 5 = 4 ∧ bz = true then 2 else pkN (t.has.getD i 0) 5) := by unfold Hid; rw [HBZ.out]; rfl
              generalize t.has.getD i 0 = hz at hh hr HN
              go_upto_if 56 with fail
              go_upto_region 10 with fail
              refine (kPick_any _ 5 (by decide) (by decide) hr.1 hr.2 _).mono ?_
              rintro e w6 ⟨rfl, hw⟩
              have hw := hw.symm
              subst hw
              have hp5 := pkN_lt (c := hz) (n := 5) (by decide)
              generalize pkN hz 5 = p at HN hp5 ⊢
              clear hh hr
              have hN5 := hasN_lt t i
              obtain ⟨hN, hhN⟩ : ∃ hN, hN = hasN t i := ⟨_, rfl⟩
              rw [← hhN] at HN hN5
              have HHN := hide hhN
              clear hhN
              go_upto_region 10 with fail
              obtain ⟨b4, hb4⟩ : ∃ b4, b4 = (decide (p = 4) && bz) := ⟨_, rfl⟩
              have HB4 := hide hb4
              clear hb4
              go_cut [67] from 12 to 118 (fun v67 wx => v67 = .bool b4 ∧ wx = wc)
              case first =>
                by_cases hc4 : p = 4
                · subst hc4
                  go_wp2_with fail
                  go_meet
                  case rel => exact ⟨by rw [HB4.out]; simp, rfl⟩
                · have hp4 : ((p : Int) == 4) = false := by simp; omega
                  go_wp2_with fail
                  go_meet
                  case rel => exact ⟨by rw [HB4.out, decide_eq_false hc4, Bool.false_and], rfl⟩
              case rest =>
               obtain ⟨rfl, rfl⟩ := hcut
               go_upto_if 67 with fail
               go_cut [10] from 12 to 118 (fun v10 wx => v10 = .int .i64 (hN : Nat) ∧ wx = wc)
               case first =>
                 cases b4
                 · go_wp2_with fail
                   go_meet
                   case rel => exact ⟨by rw [HN.out, if_neg (fun e => by have := HB4.out; rw [e.1, e.2] at this; cases this)], rfl⟩
                 · go_wp2_with fail
                   go_meet
                   case rel => exact ⟨by rw [HN.out, if_pos (by have := HB4.out.symm; simpa using this)]; rfl, rfl⟩
               case rest =>
                obtain ⟨rfl, rfl⟩ := hcut
                clear HB4
                have HA6 := hide (has_none (n := n) (k := k) (i := i) HA5.out)
                clear HA5 HN
                generalize hM : L ++ hasA t n k i = M at HA6
                have hlm : M.length ≤ 4 * i + 1 := by rw [← hM, List.length_append]; omega
                have HM := hide hM
                clear hM
                go_upto_region 12 with fail
                go_wp2_with fail
                go_loopw [7, 11] (fun v7 v11 wr => ∃ j : Nat, v11 = .int .i64 ((j : Int) + 2) ∧ Hid (j = 0 ∨ (j + 1 ≤ hN ∧ hN < 4 ∧ k = 1)) ∧ j ≤ 2 ∧ Hid (HasAt w wr v7 (M ++ (List.range j).map fun j => hasJ n k i (j + 2))) ∧ Hid (TrAt wr w.heap.size t (.slice (some ⟨g, 0, none⟩) 12 c)) ∧ Hid (Below w.heap.size w wr)) (fun _ v11 _ => 9 - (intOf v11).toNat)
                case atStart => exact ⟨0, rfl, .inl rfl, by omega, HA6.out, HT5.out, HB5.out⟩
                case round =>
                  obtain ⟨j, rfl, HJ, hj2, HA7, HT7, HB7⟩ := hrel
                  clear HA6 HT5 HB5
                  obtain ⟨bb, hbb⟩ : ∃ bb, bb = (decide (j + 2 ≤ hN) && decide (hN < 4) && decide (k = 1)) := ⟨_, rfl⟩
                  have HBB := hide hbb
                  clear hbb
                  go_upto_region 13 with fail
                  go_cut [78] from 68 to 94 (fun v78 wx => v78 = .bool bb ∧ wx = wr)
                  case first =>
                    by_cases q1 : j + 2 ≤ hN
                    · have q1' : decide ((j : Int) + 2 ≤ (hN : Int)) = true := by simp; omega
                      by_cases q2 : hN < 4
                      · have q2' : decide ((hN : Int) < 4) = true := by simp; omega
                        by_cases q3 : k = 1
                        · have q3' : (k == 1) = true := by simpa using q3
                          have HBT : Hid (bb = true) := by unfold Hid; rw [HBB.out]; simp [q1, q2, q3]
                          clear q3
                          go_wp2_with fail
                          go_meet
                          case rel => exact ⟨by rw [HBT.out], rfl⟩
                        · have q3' : (k == 1) = false := by simpa using q3
                          go_wp2_with fail
                          go_meet
                          case rel => exact ⟨by rw [HBB.out]; simp [q1, q2, q3], rfl⟩
                      · have q2' : decide ((hN : Int) < 4) = false := by simp; omega
                        go_wp2_with fail
                        go_meet
                        case rel => exact ⟨by rw [HBB.out]; simp [q1, q2], rfl⟩
                    · have q1' : decide ((j : Int) + 2 ≤ (hN : Int)) = false := by simp; omega
                      go_wp2_with fail
                      go_meet
                      case rel => exact ⟨by rw [HBB.out]; simp [q1], rfl⟩
                  case rest =>
                    obtain ⟨rfl, rfl⟩ := hcut
                    cases bb
                    · have HA8 := hide (has_exit HHN.out HA7.out HJ.out HBB.out.symm)
                      clear HA7 HJ HBB
                      have hlb := hasB_len t n k i
                      have hlmb : (M ++ hasB t n k i).length ≤ 4 * i + 3 := by rw [List.length_append]; omega
                      have HRD := hide (fun (v : Value) (w' : World) (h : HasAt w w' v (M ++ hasB t n k i ++ hasC t n k i)) => has_round2 HSN.out (by rw [HM.out]; exact h) HNI.out)
                      have HHC : Hid (hasC t n k i = if hN = 4 ∧ k = 5 then [rcOf n k i (nm (pkN (t.for_.getD i 0) 12))] else []) := by unfold Hid hasC; rw [HHN.out]
                      generalize (M ++ hasB t n k i) = MB at HA8 hlmb HRD
                      go_upto_region 16 with fail
                      obtain ⟨bc, hbc⟩ : ∃ bc, bc = (decide (hN = 4) && decide (k = 5)) := ⟨_, rfl⟩
                      have HBC := hide hbc
                      clear hbc
                      go_cut [100] from 12 to 118 (fun v100 wx => v100 = .bool bc ∧ wx = wc)
                      case first =>
                        by_cases q1 : hN = 4
                        · have q1' : ((hN : Int) == 4) = true := by simp; omega
                          by_cases q2 : k = 5
                          · have q2' : (k == 5) = true := by simpa using q2
                            have HBT : Hid (bc = true) := by unfold Hid; rw [HBC.out]; simp [q1, q2]
                            clear q1 q2
                            go_wp2_with fail
                            go_meet
                            case rel => exact ⟨by rw [HBT.out], rfl⟩
                          · have q2' : (k == 5) = false := by simpa using q2
                            have HBT : Hid (bc = false) := by unfold Hid; rw [HBC.out]; simp [q2]
                            clear q1 q2
                            go_wp2_with fail
                            go_meet
                            case rel => exact ⟨by rw [HBT.out], rfl⟩
                        · have q1' : ((hN : Int) == 4) = false := by simp; omega
                          have HBT : Hid (bc = false) := by unfold Hid; rw [HBC.out]; simp [q1]
                          go_wp2_with fail
                          go_meet
                          case rel => exact ⟨by rw [HBT.out], rfl⟩
                      case rest =>
                       obtain ⟨rfl, rfl⟩ := hcut
                       go_upto_if 100 with fail
                       cases bc
                       · have HC9 : Hid (MB ++ hasC t n k i = MB) := by unfold Hid; rw [HHC.out, if_neg (fun e => by have := HBC.out; rw [decide_eq_true e.1, decide_eq_true e.2] at this; cases this), List.append_nil]
                         rw [HC9.out] at HRD
                         have HNX := hide (HRD.out _ _ HA8.out)
                         go_wp2_with fail
                         go_roundw
                         case rel => exact ⟨i + 1, by go_num, by omega, HNX, HT7, HB7⟩
                         case measure => simp [intOf]; omega
                       · have HQ : Hid (hN = 4 ∧ k = 5) := by have := HBC.out.symm; unfold Hid; simpa using this
                         rw [if_pos HQ.out] at HHC
                         have hf : wc.cell? ⟨w.heap.size, 24 + i, none⟩ = some (.int .i64 (t.for_.getD i 0)) := (box_cells HT7.out.box (24 + i)).trans (tr_for HT.out _ hlt)
                         have hr := get_range HT.out.f HT.out.rf hlt
                         generalize t.for_.getD i 0 = hz at hf hr HHC
                         have HPK := hide (fun W => kPick_any hz 12 (by decide) (by decide) hr.1 hr.2 W)
                         have hp12 := pkN_lt (c := hz) (n := 12) (by decide)
                         generalize pkN hz 12 = pp at HPK HHC hp12
                         have hn48 : wc.cell? ⟨w.heap.size, 48, none⟩ = some (.slice (some ⟨g, 0, none⟩) 12 c) := (box_cells HT7.out.box 48).trans (tr_names HT.out _)
                         have hgp : wc.cell? ⟨g, pp, none⟩ = some (.string (nm (pp))) := by
                           obtain ⟨g', c', e', _, hgc⟩ := HT7.out.names.is
                           cases e'
                           exact hgc _ hp12
                         have hw1 : IntKind.u32.wrap (i : Int) = (i : Int) := by rw [IntKind.wrap_u32]; omega
                         go_upto_region 17 with fail
                         obtain ⟨W0, hW0⟩ : ∃ x : World, x = wc.drew := ⟨_, rfl⟩
                         have hb0 : Below wc.heap.size wc W0 := by rw [hW0]; exact below_drewN (Below.refl _ _) 1
                         obtain ⟨W1, hW1⟩ : ∃ x : World, x = W0.alloc (.cells #[.string n, .int .u16 k, .int .u16 1, .int .u32 i, .string (nm (pp))] 69) := ⟨_, rfl⟩
                         have hb1 : Below wc.heap.size wc W1 := by rw [hW1]; exact hb0.alloc hb0.size _
                         have HB9 := hide hb0
                         have HA9 := hide (HA8.out.below hb0)
                         obtain ⟨v9, w9, hrun, g9⟩ := append_grew (P := Tryz.prog) W1 28 28 69 i1 _ 5 40 uRs hi1 hy0 hy1 hy2 rfl (by decide) _ MB.length _ (by rw [hW1]; exact HA9.out.own.alloc _) ⟨W0.heap.size, 0, none⟩ 1 1 [.string n, .int .u16 k, .int .u16 1, .int .u32 i, .string (nm (pp))] rfl (by rw [hW1]; exact cells_new W0 #[.string n, .int .u16 k, .int .u16 1, .int .u32 i, .string (nm (pp))] _) one_r5 (by unfold maxLen; omega) (by omega)
                         have hgr := has_grow HA9.out hb0 (rcOf n k i (nm pp)) (by rw [hW1] at g9; exact g9) (heap_lt HT7.out.box)
                         have HCELL := hide (has_cells (hb0.mono (heap_lt HT7.out.box)) (hb1.mono (heap_lt HT7.out.box)) hgr.2 HV.out HB7.out hn48 hf hp12)
                         have HGR := hide hgr
                         clear hgr
                         have HR := hide hrun
                         have HW1 := hide hW1
                         have hb12 : ¬ (12 : Int) ≤ (i : Int) := by omega
                         have hb13 : (pp : Int) < 12 := by omega
                         clear hrun g9 hb0 hb1 hW1 hn48 hf hgp
                         refine Stg.wp_region_stage [12, 13, 14, 15, 16, 17] (fun j w' => w' = pkW W0 W1 w9 w9 5 6 7 j) (by kernel_rfl) (by kernel_rfl) hW0.symm ?_
                         clear hW0
                         refine lex_at (by kernel_rfl) u7 (fun j w' hw' => by obtain ⟨k1, k2, k3⟩ := HCELL.out j w' hw'; clear hw'; go_simp) ?_
                         refine lex_at (by kernel_rfl) (.string n) (fun j w' hw' => by obtain ⟨k1, k2, k3⟩ := HCELL.out j w' hw'; clear hw'; go_simp) ?_
                         refine lex_at (by kernel_rfl) (.int .u16 k) (fun j w' hw' => by obtain ⟨k1, k2, k3⟩ := HCELL.out j w' hw'; clear hw'; go_simp) ?_
                         refine lex_at (by kernel_rfl) (.int .i64 i) (fun j w' hw' => by obtain ⟨k1, k2, k3⟩ := HCELL.out j w' hw'; clear hw'; go_simp) ?_
                         refine lex_at (by kernel_rfl) (.int .u32 i) (fun j w' hw' => by obtain ⟨k1, k2, k3⟩ := HCELL.out j w' hw'; clear hw'; go_simp) ?_
                         refine lex_at (by kernel_rfl) (.pointer (some ⟨w.heap.size, 48, none⟩)) (fun j w' hw' => by obtain ⟨k1, k2, k3⟩ := HCELL.out j w' hw'; clear hw'; go_simp) ?_
                         refine lex_at (by kernel_rfl) (.slice (some ⟨g, 0, none⟩) 12 c) (fun j w' hw' => by obtain ⟨k1, k2, k3⟩ := HCELL.out j w' hw'; clear hw'; go_simp) ?_
                         refine lex_at (by kernel_rfl) (.int .i64 i) (fun j w' hw' => by obtain ⟨k1, k2, k3⟩ := HCELL.out j w' hw'; clear hw'; go_simp) ?_
                         refine lex_at (by kernel_rfl) (.pointer (some ⟨w.heap.size, 0, none⟩)) (fun j w' hw' => by obtain ⟨k1, k2, k3⟩ := HCELL.out j w' hw'; clear hw'; go_simp) ?_
                         refine lex_at (by kernel_rfl) (.pointer (some ⟨w.heap.size, 24, none⟩)) (fun j w' hw' => by obtain ⟨k1, k2, k3⟩ := HCELL.out j w' hw'; clear hw'; go_simp) ?_
                         refine lex_at (by kernel_rfl) (.pointer (some ⟨w.heap.size, 24 + i, none⟩)) (fun j w' hw' => by obtain ⟨k1, k2, k3⟩ := HCELL.out j w' hw'; clear hw'; go_simp) ?_
                         refine lex_at (by kernel_rfl) (.int .i64 hz) (fun j w' hw' => by obtain ⟨k1, k2, k3⟩ := HCELL.out j w' hw'; clear hw'; go_simp) ?_
                         refine Stg.lex_move 0 (by kernel_rfl) (.int .i64 pp) ?_ ?_
                         · intro w' hw'
                           rw [show w' = W0 from hw', show pkW W0 W1 w9 w9 5 6 7 (0 + 1) = W0 from rfl]
                           clear hw' w'
                           have hk := HPK.out W0
                           go_simp
                           try (refine hk.mono ?_; rintro e w12 ⟨h1, h2⟩; exact ⟨h1, h2⟩)
                         refine Stg.lex_move 1 (by kernel_rfl) (.pointer (some ⟨g, pp, none⟩)) ?_ ?_
                         · intro w' hw'
                           rw [show w' = W0 from hw', show pkW W0 W1 w9 w9 5 6 7 (1 + 1) = W0 from rfl]
                           clear hw' w'
                           go_simp
                         refine Stg.lex_move 2 (by kernel_rfl) (.string (nm (pp))) ?_ ?_
                         · intro w' hw'
                           rw [show w' = W0 from hw', show pkW W0 W1 w9 w9 5 6 7 (2 + 1) = W0 from rfl]
                           clear hw' w'
                           have k3 : W0.cell? ⟨g, pp, none⟩ = some (.string (nm pp)) := (HCELL.out 0 W0 (by unfold pkW; rw [if_pos (by decide)])).2.2
                           clear HCELL
                           go_simp
                         refine Stg.lex_move 3 (by kernel_rfl) (.agg #[.string n, .int .u16 k, .int .u16 1, .int .u32 i, .string (nm (pp))]) ?_ ?_
                         · intro w' hw'
                           rw [show w' = W0 from hw', show pkW W0 W1 w9 w9 5 6 7 (3 + 1) = W0 from rfl]
                           clear hw' w'
                           go_simp
                         refine Stg.lex_move 4 (by kernel_rfl) (.slice (some ⟨W0.heap.size, 0, none⟩) 1 1) ?_ ?_
                         · intro w' hw'
                           rw [show w' = W0 from hw', show pkW W0 W1 w9 w9 5 6 7 (4 + 1) = W1 from rfl]
                           clear hw' w'
                           go_simp
                           exact HW1.out.symm
                         refine Stg.lex_move 5 (by kernel_rfl) v9 ?_ ?_
                         · intro w' hw'
                           rw [show w' = W1 from hw', show pkW W0 W1 w9 w9 5 6 7 (5 + 1) = w9 from rfl]
                           clear hw' w'
                           refine Stg.upon_append (v := u7) (src := .slice (some ⟨W0.heap.size, 0, none⟩) 1 1) rfl ?_ ?_ HR.out rfl
                           · clear HCELL HR; go_simp
                           · clear HCELL HR; go_simp
                         refine lex_at (by kernel_rfl) v9 (fun j w' hw' => by clear hw'; go_simp) ?_
                         refine Stg.lex_nil ?_
                         intro w' hw'
                         rw [show w' = w9 from hw']
                         clear hw' w' HCELL HR HW1
                         dsimp only [Act.put]
                         have hgr := HGR.out
                         rw [HHC.out] at HRD
                         have HNX := hide (HRD.out _ _ hgr.1)
                         have HBX := hide (HB7.out.trans (hgr.2.mono (Nat.le_succ _)))
                         have HTX : Hid (TrAt w9 w.heap.size t (.slice (some ⟨g, 0, none⟩) 12 c)) := ⟨(hgr.2.block _ (Nat.lt_succ_self _)).trans HT7.out.box, HV.out.below HBX.out⟩
                         go_wp2_with fail
                         go_roundw
                         case rel => exact ⟨i + 1, by go_num, by omega, HNX, HTX, HBX⟩
                         case measure => simp [intOf]; omega
                    · have HQ : Hid (j + 2 ≤ hN ∧ hN < 4 ∧ k = 1) := by
                        have := HBB.out
                        simp at this
                        exact ⟨this.1.1, this.1.2, this.2⟩
                      have hj1 : j ≤ 1 := by have := HQ.out; omega
                      have hw1 : IntKind.u32.wrap (i : Int) = (i : Int) := by rw [IntKind.wrap_u32]; omega
                      have hw2 : IntKind.u8.wrap (i : Int) = (i : Int) := by rw [IntKind.wrap_u8]; omega
                      have hw3 : IntKind.u8.wrap ((j : Int) + 2) = (j : Int) + 2 := by rw [IntKind.wrap_u8]; omega
                      have hcv : (convert 32 9 (.slice (some ⟨wc.heap.size, 0, none⟩) 4 4)).run Tryz.prog (wc.alloc (.cells #[.int .u8 192, .int .u8 0, .int .u8 (i : Int), .int .u8 ((j : Int) + 2)] 5)) = .ok (.string (str [192, 0, UInt8.ofNat i, UInt8.ofNat (j + 2)])) (wc.alloc (.cells #[.int .u8 192, .int .u8 0, .int .u8 (i : Int), .int .u8 ((j : Int) + 2)] 5)) := conv_own _ 0 (some ⟨wc.heap.size, 0, none⟩) 4 [192, 0, UInt8.ofNat i, UInt8.ofNat (j + 2)] (own_block (n := 4) (heap_new wc _) (by simp [bytesV, ofNat_toNat (show i < 256 by omega)]; omega) rfl (by decide))
                      have HB8 := hide ((Below.refl wc.heap.size wc).alloc (Nat.le_refl _) (.cells #[.int .u8 192, .int .u8 0, .int .u8 (i : Int), .int .u8 ((j : Int) + 2)] 5))
                      have HA8 := hide (HA7.out.below HB8.out)
                      have hlj : (M ++ (List.range j).map fun j => hasJ n k i (j + 2)).length ≤ 4 * i + 3 := by rw [List.length_append, List.length_map, List.length_range]; omega
                      have HML := hide (has_more (n := n) (k := k) (i := i) (j := j) (L := M))
                      generalize (M ++ (List.range j).map fun j => hasJ n k i (j + 2)) = ML at HA8 hlj HML
                      have hcn := cells_new (wc.alloc (.cells #[.int .u8 192, .int .u8 0, .int .u8 (i : Int), .int .u8 ((j : Int) + 2)] 5)) #[.string n, .int .u16 k, .int .u16 1, .int .u32 i, .string (str [192, 0, UInt8.ofNat i, UInt8.ofNat (j + 2)])] 69
                      rw [alloc_size] at hcn
                      generalize hsj : str [192, 0, UInt8.ofNat i, UInt8.ofNat (j + 2)] = sj at hcv hcn
                      have HSJ := hide hsj
                      clear hsj
                      have HCN := hide hcn
                      clear hcn
                      clear HA7
                      go_upto_region 15 with fail
                      go_wp2_with (at_builtin; refine wpList_append_grew _ rfl _ _ 28 rfl 69 i1 _ 5 40 uRs hi1 hy0 hy1 hy2 rfl (by decide) _ ML.length (recsV ML) rfl ⟨wc.heap.size + 1, 0, none⟩ 1 1 [.string n, .int .u16 k, .int .u16 1, .int .u32 i, .string sj] rfl rfl one_r5 (HA8.out.own.alloc _) HCN.out (by unfold maxLen; omega) (by omega) ?_; intro v9 w9 g9; have HG9 := hide g9; clear g9)
                      rw [← HSJ.out] at HG9
                      have hgr := has_grow HA8.out HB8.out (hasJ n k i (j + 2)) HG9.out (heap_lt HT7.out.box)
                      have HA9 := hide hgr.1
                      rw [← HML.out] at HA9
                      have HB9 := hide (HB7.out.trans (hgr.2.mono (Nat.le_succ _)))
                      have HT9 : Hid (TrAt w9 w.heap.size t (.slice (some ⟨g, 0, none⟩) 12 c)) := ⟨(hgr.2.block _ (Nat.lt_succ_self _)).trans HT7.out.box, HV.out.below HB9.out⟩
                      go_roundw
                      case rel => exact ⟨j + 1, by go_num, .inr ⟨by have := HQ.out; omega, HQ.out.2⟩, by omega, HA9, HT9, HB9⟩
                      case measure => simp [intOf]; omega
    · have h12 : i = 12 := by omega
      subst h12
      go_wp2_with fail
      go_ret
      exact ⟨_, rfl, HB.out, HA.out⟩
end Go.Proofs.YtafoepfhepdcoaaGreat
