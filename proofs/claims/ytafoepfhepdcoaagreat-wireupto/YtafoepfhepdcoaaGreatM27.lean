import Derived.Test.YtafoepfhepdcoaaGreatM26
set_option maxRecDepth 100000
set_option maxHeartbeats 8000000
namespace Go.Proofs.YtafoepfhepdcoaaGreat
open Go.RowKit Go.Trawl
theorem buildKC (x y : Int) (a : Option Addr) (n c : Nat) (W : World) : (Instr.build 57 #[(0, .int .i64 x), (3, .int .i64 y), (4, .slice a n c)]).run Tryz.prog W = .ok (.agg #[.int .i64 x, .int .i64 0, .int .i64 0, .int .i64 y, .slice a n c]) W := run_build W _ _ _ (by kernel_rfl)
theorem buildKR (n d : ByteArray) (k c : Int) (W : World) : (Instr.build 69 #[(0, .string n), (1, .int .u16 k), (2, .int .u16 c), (4, .string d)]).run Tryz.prog W = .ok (.agg #[.string n, .int .u16 k, .int .u16 c, .int .u32 0, .string d]) W := run_build W _ _ _ (by kernel_rfl)
attribute [local go_sem] buildKC buildKR
theorem nameA : str (nameL ⟨#[97]⟩) = nA := rfl
theorem mB_wf : WfM mB := by
 refine ⟨by decide, by decide, by decide, by decide, by decide, by decide, by decide, by decide, by decide, by decide, fun q hq => ?_, fun r hr => ?_⟩
 ·simp [mB, mA, askM] at hq
  subst hq
  exact ⟨by decide, by decide, by decide, by decide, by decide⟩
 ·simp [mB, mA, askM, recs] at hr
  subst hr
  exact ⟨by decide, by decide, by decide, by decide, by decide, by decide, by decide, by decide⟩
theorem known_any (w : World) : Calls Tryz.prog 14 #[] w fun e w' => e = .returned (.bool true) ∧ Hid (Below w.heap.size w w') := by
 have hb1 := (Below.refl w.heap.size w).alloc (Nat.le_refl _) (.cells #[.int .u32 7] 54)
 have HB1 := hide hb1
 have HV : Hid (Lies (w.alloc (.cells #[.int .u32 7] 54)) 1 (.slice (some ⟨w.heap.size, 0, none⟩) 1 1) (wordsV [7])) := lies_row (heap_new w _) rfl (fun x hx => by simp [wordsV] at hx; subst hx; rfl) rfl
 clear hb1
 go_enter Tryz.func14, Tryz.ntmps14
 go_wp2_with fail
 generalize w.alloc _ = W1 at HB1 HV ⊢
 have hr := kResolver_any W1 5 0 0 1 [7] _ (by decide) HV.out
 unfold confV at hr
 refine hr.mono ?_
 clear hr HV
 rintro e w2 ⟨xb, rfl, H2⟩
 obtain ⟨sb, vr2, K2, hb2⟩ := H2.out
 have hz1 := HB1.out.size
 have HB2 := hide (HB1.out.trans (hb2.mono hz1))
 have HK2 := hide K2
 have hxb : xb < w2.heap.size := K2.lt (.inl rfl)
 have hz2 := HB2.out.size
 clear H2 hb2 K2 HB1
 generalize W1.heap.size = B at HK2 hz1
 clear W1
 go_wp2_with fail
 refine (kName_any w2 ⟨#[97]⟩ (by decide)).mono ?_
 rintro e w3 ⟨rfl, H3⟩
 have HB3 := hide (HB2.out.trans (H3.out.mono hz2))
 have HK3 := hide (HK2.out.below H3.out)
 have hz3 := H3.out.size
 clear H3 HB2 HK2
 rw [nameA]
 go_wp2_with fail
 have ha := kAsks_any w3 77 1 nA (by decide) (by decide) (by decide) (by decide) (by decide)
 have hQ := factsQ
 have h1 := known1
 have hA := factsA
 generalize packL (qM1 77 nA 1) = lQ at ha hQ h1
 generalize packL mA = lA at h1 hA
 have H1 := hide h1
 have HA := hide hA
 clear h1 hA
 refine ha.mono ?_
 clear ha
 rintro e w4 ⟨a4, c4, rfl, H4⟩
 have HB4 := hide (HB3.out.trans (H4.out.1.mono HB3.out.size))
 have HK4 := hide (HK3.out.below H4.out.1)
 obtain ⟨b4, rfl, hby, hcap, hlt⟩ := own_bytes (own_zero H4.out.2) hQ.1
 have hb4 : w3.heap.size ≤ b4 := (H4.out.2.lt b4 rfl).1
 have HBY := hide hby
 clear H4 HB3 HK3 hby
 have hsz := hQ.2
 go_wp2_with fail
 have hpa := (pAsk_any w4 xb sb b4 c4 vr2 st0 (str lQ) HK4.out.at_ (newSt_ok (by decide)) (by show lQ.length ≤ _; omega) hcap hlt HBY.out (by omega))
 rw [H1.out] at hpa
 refine hpa.mono ?_
 clear hpa
 rintro e w5 ⟨k5, t5, a5, l5, c5, rfl, H5⟩
 have hv := H5.out.1
 dsimp only at hv
 obtain ⟨rfl, rfl, hl5⟩ := stepV_inj hv.symm
 have hl5 := (str_inj hl5).symm
 subst hl5
 obtain ⟨vr5, sp5⟩ := H5.out.2
 dsimp only at sp5
 have S5 := hide (HK4.out.spoke sp5)
 have HB5 := hide (HB4.out.trans (S5.out.below.mono (by have := HK4.out.lo xb (.inl rfl); omega)))
 have hx5 : xb < w5.heap.size := S5.out.kb.lt (.inl rfl)
 have hz5 := HB5.out.size
 clear H5 hv sp5 HB4 HK4 HBY
 obtain ⟨b5, rfl, hby5, hcap5, hlt5⟩ := own_bytes S5.out.own HA.out.1
 have hn5 : ¬ pOwns xb sb vr5 b5 := S5.out.apart b5 rfl
 have HBY5 := hide hby5
 have hszA := HA.out.2.1
 have HK5 := hide S5.out.kb
 clear S5 hby5
 have hb6 := (Below.refl w5.heap.size w5).alloc (Nat.le_refl _) (.cells #[.int .i64 1, .int .u32 7, .slice (some ⟨b5, 0, none⟩) lA.length c5] 59)
 have HX6 := hide (heap_new w5 (.cells #[.int .i64 1, .int .u32 7, .slice (some ⟨b5, 0, none⟩) lA.length c5] 59))
 have HB6 := hide (HB5.out.trans (hb6.mono hz5))
 have HK6 := hide (HK5.out.below hb6)
 have HBY6 := hide (HBY5.out.below hlt5 hb6)
 have hz6 := hb6.size
 have hcx := box_cells HX6.out
 clear hb6 HB5 HK5 HBY5
 unfold stepX
 go_wp2_with fail
 generalize w5.alloc _ = W6 at HX6 HB6 HK6 HBY6 hz6 hcx ⊢
 refine (tUnpack2 W6 b5 c5 (str lA) (by show lA.length ≤ _; omega) hcap5 (by omega) HBY6.out).mono ?_
 rw [(unM_of HA.out.2.2).1, (unM_of HA.out.2.2).2]
 rintro e w7 ⟨aq, cq, aa, ca, au, cu, ax, cx, rfl, H7⟩
 have R7 := H7.out.2.2
 have HB7 := hide (HB6.out.trans (H7.out.1.mono HB6.out.size))
 have HK7 := hide (HK6.out.below H7.out.1)
 have HX7 := hide ((H7.out.1.block _ (heap_lt HX6.out)).trans HX6.out)
 have hz7 := H7.out.1.size
 have HR7 := hide R7
 clear R7 H7 HB6 HK6 HX6 HBY6 hcx
 rw [show msgCells mA (.slice aq mA.qs.length cq) (.slice aa mA.an.length ca) (.slice au mA.au.length cu) (.slice ax mA.ex.length cx) = #[.int .u16 1, .bool false, .int .i64 0, .bool false, .bool false, .bool false, .bool false, .int .i64 0, .slice aq 1 cq, .slice aa 0 ca, .slice au 0 cu, .slice ax 0 cx] from rfl]
 go_wp2_with fail
 have hb8 := (Below.refl w7.heap.size w7).alloc (Nat.le_refl _) (.cells #[.int .u16 1, .bool true, .int .i64 0, .bool false, .bool false, .bool false, .bool false, .int .i64 0, .slice aq 1 cq, .slice aa 0 ca, .slice au 0 cu, .slice ax 0 cx] 30)
 have HM8 := hide (heap_new w7 (.cells #[.int .u16 1, .bool true, .int .i64 0, .bool false, .bool false, .bool false, .bool false, .int .i64 0, .slice aq 1 cq, .slice aa 0 ca, .slice au 0 cu, .slice ax 0 cx] 30))
 have HQ8 := hide (own_lies (es := ([⟨nA, 1, 1⟩] : List Qn).map Qn.cells) HR7.out.q (fun x hx => by simp at hx; subst hx; rfl) rfl)
 have HU8 : Hid (Lies w7 5 (.slice au 0 cu) [] ∧ Lies w7 5 (.slice ax 0 cx) []) := ⟨own_lies (es := []) HR7.out.u (by simp) rfl, own_lies (es := []) HR7.out.x (by simp) rfl⟩
 have HLB : Hid (∀ j, ((Value.slice aq 1 cq).ownBlock = some j ∨ (Value.slice au 0 cu).ownBlock = some j ∨ (Value.slice ax 0 cx).ownBlock = some j) → j < w7.heap.size) := fun j hj => by
  rcases hj with hj | hj | hj
  ·exact (HR7.out.q.lt j hj).2
  ·exact (HR7.out.u.lt j hj).2
  ·exact (HR7.out.x.lt j hj).2
 have hnM : ¬ pOwns xb sb vr5 w7.heap.size := fun e => by have := HK7.out.lt e; omega
 have HB8 := hide (HB7.out.trans (hb8.mono HB7.out.size))
 have HK8 := hide (HK7.out.below hb8)
 have HX8 := hide ((hb8.block _ (heap_lt HX7.out)).trans HX7.out)
 have HQ8' := hide (HQ8.out.below hb8)
 have HU8' := hide (And.intro (HU8.out.1.below hb8) (HU8.out.2.below hb8))
 have hz8 := hb8.size
 have hM8 := heap_lt HM8.out
 clear hb8 HB7 HK7 HX7 HQ8 HU8 HR7
 generalize w7.alloc _ = W8 at HM8 HB8 HK8 HX8 HQ8' HU8' hz8 hM8 ⊢
 generalize w7.heap.size = M at HM8 hM8 hz7 hz8 HLB hnM ⊢
 refine (kName_any W8 ⟨#[97]⟩ (by decide)).mono ?_
 rintro e w9 ⟨rfl, H9⟩
 rw [nameA]
 go_wp2_with (with_reducible refine stop_store _ (.tmp 63) _ rfl ?_)
 unfold Stopped
 have hb9 := H9.out.trans (((Below.refl w9.heap.size w9).alloc (Nat.le_refl _) (.cells #[.string nA, .int .u16 1, .int .u16 1, .int .u32 0, .string ⟨#[49, 50, 51, 52]⟩] 69)).mono H9.out.size)
 have HR9 : Hid (Lies (w9.alloc (.cells #[.string nA, .int .u16 1, .int .u16 1, .int .u32 0, .string ⟨#[49, 50, 51, 52]⟩] 69)) 5 (.slice (some ⟨w9.heap.size, 0, none⟩) 1 1) ([rA].map Rc.cells)) := lies_row (heap_new w9 _) rfl (fun x hx => by simp at hx; subst hx; rfl) rfl
 have HM9 := hide ((hb9.block _ hM8).trans HM8.out)
 have HB9 := hide (HB8.out.trans (hb9.mono HB8.out.size))
 have HK9 := hide (HK8.out.below hb9)
 have HX9 := hide ((hb9.block _ (heap_lt HX8.out)).trans HX8.out)
 have HQ9 := hide (HQ8'.out.below hb9)
 have HU9 := hide (And.intro (HU8'.out.1.below hb9) (HU8'.out.2.below hb9))
 have hz9 := H9.out.size
 have hz9' : w9.heap.size < (w9.alloc (.cells #[.string nA, .int .u16 1, .int .u16 1, .int .u32 0, .string ⟨#[49, 50, 51, 52]⟩] 69)).heap.size := heap_lt (heap_new w9 _)
 clear hb9 H9 HM8 HB8 HK8 HX8 HQ8' HU8'
 generalize w9.alloc _ = W9 at HR9 HM9 HB9 HK9 HX9 HQ9 HU9 hz9' ⊢
 generalize w9.heap.size = R at HR9 hz9 hz9' ⊢
 have hG := grownBy_setCell W9 M 9 (.slice (some ⟨R, 0, none⟩) 1 1)
 have hc9 := box_cells HM9.out
 have hf9 := frozen_of_block HM9.out
 go_wp2_with fail
 have HM10 := hide (heap_setCell_eq (j := 9) HM9.out (.slice (some ⟨R, 0, none⟩) 1 1))
 have HB10 := hide (HB9.out.trans (kb_put hG (by omega) HB9.out.size))
 have HK10 := hide (HK9.out.aside hG hnM)
 have hkp : ∀ j, j < W9.heap.size → j ≠ M → (W9.setCell ⟨M, 9, none⟩ (.slice (some ⟨R, 0, none⟩) 1 1)).heap[j]? = W9.heap[j]? := fun j hj hne => hG.block j hj (fun e => hne (Option.some.inj e))
 have HAT : Hid (MsgAt (W9.setCell ⟨M, 9, none⟩ (.slice (some ⟨R, 0, none⟩) 1 1)) mB (.slice aq 1 cq) (.slice (some ⟨R, 0, none⟩) 1 1) (.slice au 0 cu) (.slice ax 0 cx)) :=
  ⟨HQ9.out.keep hG.size (fun j e hj => hkp j hj (fun h => by have := HLB.out j (.inl e); omega)), HR9.out.keep hG.size (fun j e hj => hkp j hj (fun h => by have := Option.some.inj e; simp at this; omega)),
   HU9.out.1.keep hG.size (fun j e hj => hkp j hj (fun h => by have := HLB.out j (.inr (.inl e)); omega)), HU9.out.2.keep hG.size (fun j e hj => hkp j hj (fun h => by have := HLB.out j (.inr (.inr e)); omega))⟩
 have hz10 := hG.size
 clear hG hkp hc9 hf9 HM9 HB9 HK9 HX9 HQ9 HU9 HR9
 generalize W9.setCell ⟨M, 9, none⟩ (.slice (some ⟨R, 0, none⟩) 1 1) = W10 at HM10 HB10 HK10 HAT hz10 ⊢
 have hp := tpack2 mB (.slice aq 1 cq) (.slice (some ⟨R, 0, none⟩) 1 1) (.slice au 0 cu) (.slice ax 0 cx) W10 mB_wf HAT.out
 rw [known3.2.1] at hp
 have h4 := known4
 have hB := factsB
 have hC := factsC
 generalize packL mB = lB at hp h4 hB
 generalize replyL (doneM st1 0 [rA]) = lC at h4 hC
 have H4 := hide h4
 have HB := hide hB
 have HC := hide hC
 clear h4 hB hC
 refine hp.mono ?_
 clear hp
 rintro e w11 ⟨hb11, a11, c11, rfl, ho11⟩
 have HB11 := hide (HB10.out.trans (hb11.mono HB10.out.size))
 have HK11 := hide (HK10.out.below hb11)
 obtain ⟨b11, rfl, hby11, hcap11, hlt11⟩ := own_bytes (own_zero ho11) HB.out.1
 have hszB := HB.out.2
 have hb11' : W10.heap.size ≤ b11 := (ho11.lt b11 rfl).1
 have HBY11 := hide hby11
 clear hby11 ho11 hb11 HAT HM10 HB10 HK10
 go_wp2_with fail
 have hpa := (pHeard_any w11 xb sb b11 c11 vr5 st1 7 (str lB) HK11.out.at_ (by show lB.length ≤ _; omega) hcap11 hlt11 HBY11.out (by omega))
 rw [H4.out] at hpa
 refine hpa.mono ?_
 clear hpa
 rintro e w12 ⟨k12, t12, a12, l12, c12, rfl, H12⟩
 have hv := H12.out.1
 dsimp only at hv
 obtain ⟨rfl, rfl, hl12⟩ := stepV_inj hv.symm
 have hl12 := (str_inj hl12).symm
 subst hl12
 obtain ⟨vr12, sp12⟩ := H12.out.2
 have S12 := hide (HK11.out.spoke sp12)
 have HB12 := hide (HB11.out.trans (S12.out.below.mono (by have := HK11.out.lo xb (.inl rfl); omega)))
 obtain ⟨b12, rfl, hby12, hcap12, hlt12⟩ := own_bytes S12.out.own HC.out.1
 have HBY12 := hide hby12
 have hszC := HC.out.2.1
 clear H12 hv sp12 HB11 HK11 HBY11 hby12 S12
 have hb13 := (Below.refl w12.heap.size w12).alloc (Nat.le_refl _) (.cells #[.int .i64 2, .int .u32 0, .slice (some ⟨b12, 0, none⟩) lC.length c12] 59)
 have HX13 := hide (heap_new w12 (.cells #[.int .i64 2, .int .u32 0, .slice (some ⟨b12, 0, none⟩) lC.length c12] 59))
 have HB13 := hide (HB12.out.trans (hb13.mono HB12.out.size))
 have HBY13 := hide (HBY12.out.below hlt12 hb13)
 have hz13 := hb13.size
 have hcx := box_cells HX13.out
 clear hb13 HB12 HBY12
 unfold stepX
 go_wp2_with fail
 generalize w12.alloc _ = W13 at HX13 HB13 HBY13 hz13 hcx ⊢
 refine (tUnpack2 W13 b12 c12 (str lC) (by show lC.length ≤ _; omega) hcap12 (by omega) HBY13.out).mono ?_
 rw [(unM_of HC.out.2.2).1, (unM_of HC.out.2.2).2]
 rintro e w14 ⟨aq', cq', aa', ca', au', cu', ax', cx', rfl, H14⟩
 have HB14 := hide (HB13.out.trans (H14.out.1.mono HB13.out.size))
 have HR14 := hide H14.out.2.2
 clear H14 HB13 HX13 HBY13 hcx
 rw [show msgCells mC (.slice aq' mC.qs.length cq') (.slice aa' mC.an.length ca') (.slice au' mC.au.length cu') (.slice ax' mC.ex.length cx') = #[.int .u16 77, .bool true, .int .i64 0, .bool false, .bool false, .bool true, .bool true, .int .i64 0, .slice aq' 1 cq', .slice aa' 1 ca', .slice au' 0 cu', .slice ax' 0 cx'] from rfl]
 have hla := own_lies (es := ([rA] : List Rc).map Rc.cells) HR14.out.a (fun x hx => by simp at hx; subst hx; rfl) rfl
 obtain ⟨_, _, hva, _, hlie⟩ := hla
 rcases hlie with he | ⟨b14, off14, he, hbl14, hc14⟩
 ·simp at he
 rw [he] at hva
 have hv2 : (Value.slice aa' 1 ca') = .slice (some ⟨b14, off14, none⟩) 1 _ := hva
 injection hv2 with hv2
 subst hv2
 obtain ⟨_, _, _, _, d4⟩ := Lies.rat hc14 (show ([rA] : List Rc)[0]? = some rA from rfl)
 have hb15 := (Below.refl w14.heap.size w14).alloc (Nat.le_refl _) (.cells #[.int .u16 77, .bool true, .int .i64 0, .bool false, .bool false, .bool true, .bool true, .int .i64 0, .slice aq' 1 cq', .slice (some ⟨b14, off14, none⟩) 1 ca', .slice au' 0 cu', .slice ax' 0 cx'] 30)
 have HB15 := hide (HB14.out.trans (hb15.mono HB14.out.size))
 have d4' := (cell_of_heap (hb15.block b14 hbl14) d4)
 go_wp2_with fail
 go_ret
 have e : (rA.data.toList == [49, 50, 51, 52]) = true := by decide +kernel
 rw [e]
 exact ⟨rfl, HB15.out⟩
end Go.Proofs.YtafoepfhepdcoaaGreat
namespace Go.Proofs.YtafoepfhepdcoaaGreat
open Go.RowKit Go.Trawl
theorem pack_un {m : Msg} (hwf : WfM m) (hok : packOk m = true) : packL m = pack m ∧ packE m = 0 ∧ unpack (str (packL m)) = some m := by
 have e : packL m = pack m := if_pos hok
 refine ⟨e, if_pos hok, ?_⟩
 rw [e]
 exact unpack_pack hok hwf.id0 hwf.id1 (fun q hq => ⟨(hwf.qs q hq).k0, (hwf.qs q hq).k1, (hwf.qs q hq).c0, (hwf.qs q hq).c1⟩) (fun r hr => ⟨(hwf.rs r hr).k0, (hwf.rs r hr).k1, (hwf.rs r hr).c0, (hwf.rs r hr).c1, (hwf.rs r hr).t0, (hwf.rs r hr).t1⟩)
theorem less_none {l : List UInt8} {m : Msg} (h : unpack (str l) = some m) (hl : l ≠ []) : unpack (str l.dropLast) = none := by
 cases hu : unpack (str l.dropLast) with
 | none => rfl
 | some m' =>
  have hp : Pre (str l.dropLast) (str l) := ⟨[l.getLast hl], by show l = l.dropLast ++ [l.getLast hl]; rw [List.dropLast_concat_getLast]⟩
  have := unpack_pre hp (by show l.dropLast.length ≠ l.length; have := List.length_pos_iff.2 hl; rw [List.length_dropLast]; omega) hu
  rw [h] at this
  cases this
theorem more_none {l : List UInt8} {m : Msg} (h : unpack (str l) = some m) (x : UInt8) : unpack (str (l ++ [x])) = none :=
 unpack_pre (s' := str (l ++ [x])) ⟨[x], rfl⟩ (by show l.length ≠ (l ++ [x]).length; simp) h
theorem un_none {s : ByteArray} (h : unpack s = none) : unM s = zMsg ∧ unE s = 1 := by
 unfold unM unE
 rw [h]
 exact ⟨rfl, rfl⟩
theorem bytes_less {w : World} {b : Nat} {l : List UInt8} (h : Bytes w b (str l)) : Bytes w b (str l.dropLast) := fun k hk => by
 have hk1 : k < l.dropLast.length := hk
 have hk2 : k < l.length := by rw [List.length_dropLast] at hk1; omega
 rw [h k hk2, at8_lst, at8_lst]
 show some (Value.int .u8 ((l.getD k 0).toNat : Int)) = some (Value.int .u8 ((l.dropLast.getD k 0).toNat : Int))
 rw [List.getD_eq_getElem?_getD, List.getD_eq_getElem?_getD, List.getElem?_dropLast, if_pos (by rw [List.length_dropLast] at hk1; exact hk1)]
theorem one_bytes (l : List UInt8) : ∀ u ∈ bytesV l, u.oneCell' = true := by
 intro u hu
 obtain ⟨b, _, rfl⟩ := List.mem_map.1 hu
 rfl
theorem wire_any (w : World) (m : Msg) (vq va vu vx : Value) (hwf : WfM m) (hat : MsgAt w m vq va vu vx) :
  Calls Tryz.prog 7 #[.agg (msgCells m vq va vu vx)] w fun e w' => e = .returned (.bool true) ∧ Below w.heap.size w w' := by
 obtain ⟨i0, hi, hz0, hz1, hz2⟩ := info_parts u8_info
 obtain ⟨aq, cq, hvq, _⟩ := (show Lies w 3 vq (m.qs.map Qn.cells) from hat.q)
 obtain ⟨aa, ca, hva, _⟩ := (show Lies w 5 va (m.an.map Rc.cells) from hat.a)
 obtain ⟨au, cu, hvu, _⟩ := (show Lies w 5 vu (m.au.map Rc.cells) from hat.u)
 obtain ⟨ax, cx, hvx, _⟩ := (show Lies w 5 vx (m.ex.map Rc.cells) from hat.x)
 rw [List.length_map] at hvq hva hvu hvx
 subst hvq hva hvu hvx
 have HWF := hide hwf
 have hb1 := (Below.refl w.heap.size w).alloc (Nat.le_refl _) (.cells (msgCells m (.slice aq m.qs.length cq) (.slice aa m.an.length ca) (.slice au m.au.length cu) (.slice ax m.ex.length cx)) 30)
 have HM1 := hide (heap_new w (.cells (msgCells m (.slice aq m.qs.length cq) (.slice aa m.an.length ca) (.slice au m.au.length cu) (.slice ax m.ex.length cx)) 30))
 have HAT1 := hide (hat.below hb1)
 have HB1 := hide hb1
 clear hwf hat hb1
 unfold msgCells at HM1 HB1 HAT1 ⊢
 go_enter Tryz.func7, Tryz.ntmps7
 go_wp2_with fail
 generalize w.alloc _ = W1 at HM1 HAT1 HB1 ⊢
 refine (known_any W1).mono ?_
 rintro e w2 ⟨rfl, H2⟩
 have HB2 := hide (HB1.out.trans (H2.out.mono HB1.out.size))
 have HM2 := hide ((H2.out.block _ (heap_lt HM1.out)).trans HM1.out)
 have HAT2 := hide (HAT1.out.below H2.out)
 clear H2 HB1 HM1 HAT1
 have hcm := box_cells HM2.out
 go_wp2_with fail
 have hp := tpack2 m _ _ _ _ w2 HWF.out HAT2.out
 unfold msgCells at hp
 refine hp.mono ?_
 clear hp hcm
 rintro e w3 ⟨hb3, a3, c3, rfl, ho3⟩
 have HB3 := hide (HB2.out.trans (hb3.mono HB2.out.size))
 have HM3 := hide ((hb3.block _ (heap_lt HM2.out)).trans HM2.out)
 have HO3 := hide ho3
 have hz3 := HB2.out.size
 clear hb3 ho3 HB2 HM2 HAT2
 by_cases hok : packOk m = true
 rotate_left
 ·have e1 : packL m = [] := if_neg hok
  have e2 : packE m = 1 := if_neg hok
  rw [e1, e2]
  go_wp2_with fail
  go_ret
  exact ⟨rfl, HB3.out⟩
 obtain ⟨e1, e2, e3⟩ := pack_un HWF.out hok
 have h12 := pack_12 m
 rw [← e1] at h12
 have h512 := packL_length m
 rw [e2]
 have HU := hide e3
 have HE := hide e2
 clear e1 e2 e3 hok
 generalize hl : packL m = l at h12 h512 HU HO3 ⊢
 have hne : l ≠ [] := fun e => by rw [e] at h12; simp at h12
 obtain ⟨b3, rfl, hby3, hcap3, hlt3⟩ := own_bytes (own_zero HO3.out) hne
 have hb3 := (HO3.out.lt b3 rfl).1
 have HBY3 := hide hby3
 clear hby3
 go_wp2_with fail
 have hun := tUnpack2 w3 b3 c3 (str l) (by show l.length ≤ _; omega) hcap3 hlt3 HBY3.out
 rw [(unM_of HU.out).1, (unM_of HU.out).2] at hun
 refine hun.mono ?_
 clear hun
 rintro e w4 ⟨aq4, cq4, aa4, ca4, au4, cu4, ax4, cx4, rfl, H4⟩
 have hb5 := H4.out.1.trans (((Below.refl w4.heap.size w4).alloc (Nat.le_refl _) (.cells (msgCells m (.slice aq4 m.qs.length cq4) (.slice aa4 m.an.length ca4) (.slice au4 m.au.length cu4) (.slice ax4 m.ex.length cx4)) 30)).mono H4.out.1.size)
 have HN5 := hide (heap_new w4 (.cells (msgCells m (.slice aq4 m.qs.length cq4) (.slice aa4 m.an.length ca4) (.slice au4 m.au.length cu4) (.slice ax4 m.ex.length cx4)) 30))
 have HAT5 := hide ((Rows4.at H4.out.2.2).below ((Below.refl w4.heap.size w4).alloc (Nat.le_refl _) (.cells (msgCells m (.slice aq4 m.qs.length cq4) (.slice aa4 m.an.length ca4) (.slice au4 m.au.length cu4) (.slice ax4 m.ex.length cx4)) 30)))
 have HB5 := hide (HB3.out.trans (hb5.mono HB3.out.size))
 have HM5 := hide ((hb5.block _ (heap_lt HM3.out)).trans HM3.out)
 have HO5 := hide (own_below (own_zero HO3.out) hb5)
 have HBY5 := hide (HBY3.out.below hlt3 hb5)
 have hz5 := hb5.size
 have hcn := box_cells HN5.out
 simp only [msgCells] at hcn
 unfold msgCells at HN5 HAT5 HB5 HM5 HO5 HBY5 hz5 ⊢
 clear hb5 H4 HB3 HM3 HO3 HBY3
 go_wp2_with fail
 generalize w4.alloc _ = W5 at HN5 HAT5 HB5 HM5 HO5 HBY5 hz5 hcn ⊢
 generalize w4.heap.size = N at HN5 hcn ⊢
 have hp := tpack2 m _ _ _ _ W5 HWF.out HAT5.out
 unfold msgCells at hp
 rw [HE.out, hl] at hp
 refine hp.mono ?_
 clear hp hcn
 rintro e w6 ⟨hb6, a6, c6, rfl, ho6⟩
 have HB6 := hide (HB5.out.trans (hb6.mono HB5.out.size))
 have HN6 := hide ((hb6.block _ (heap_lt HN5.out)).trans HN5.out)
 have HM6 := hide ((hb6.block _ (heap_lt HM5.out)).trans HM5.out)
 have HO6 := hide (own_below HO5.out hb6)
 have HBY6 := hide (HBY5.out.below (by omega) hb6)
 have HC6 := hide ho6
 have hz6 := hb6.size
 clear hb6 HB5 HN5 HM5 HO5 HBY5 HAT5 ho6
 have hq1 : (0 : Int) ≤ (l.length : Int) - 1 := by omega
 have hq2 : (l.length : Int) - 1 ≤ (c3 : Int) := by omega
 go_wp2_with fail
 have hsz : (str l.dropLast).size = l.length - 1 := by show l.dropLast.length = _; rw [List.length_dropLast]
 have hun := tUnpack2 w6 b3 c3 (str l.dropLast) (by rw [hsz]; omega) (by rw [hsz]; omega) (by omega) (bytes_less HBY6.out)
 rw [hsz, (un_none (less_none HU.out hne)).1, (un_none (less_none HU.out hne)).2] at hun
 refine hun.mono ?_
 clear hun hsz hq1 hq2
 rintro e w7 ⟨aq7, cq7, aa7, ca7, au7, cu7, ax7, cx7, rfl, H7⟩
 have hb8 := H7.out.1.trans (((Below.refl w7.heap.size w7).alloc (Nat.le_refl _) (.cells (msgCells zMsg (.slice aq7 zMsg.qs.length cq7) (.slice aa7 zMsg.an.length ca7) (.slice au7 zMsg.au.length cu7) (.slice ax7 zMsg.ex.length cx7)) 30)).mono H7.out.1.size)
 have HB8 := hide (HB6.out.trans (hb8.mono HB6.out.size))
 have HN8 := hide ((hb8.block _ (heap_lt HN6.out)).trans HN6.out)
 have HM8 := hide ((hb8.block _ (heap_lt HM6.out)).trans HM6.out)
 have HO8 := hide (own_below HO6.out hb8)
 have HC8 := hide (own_below (own_zero HC6.out) hb8)
 have hz8 := hb8.size
 unfold msgCells at HB8 HN8 HM8 HO8 HC8 hz8 ⊢
 clear hb8 H7 HB6 HN6 HM6 HO6 HC6 HBY6
 go_wp2_with (at_builtin; first | (refine wpList_append_grew _ rfl _ _ 32 rfl 5 i0 (.int .u8 0) 1 1 und_bytes hi hz0 hz1 hz2 rfl (by decide) (.slice none 0 0) 0 [] rfl ⟨b3, 0, none⟩ l.length c3 (bytesV l) rfl (by rw [bytesV_length]; omega) (one_bytes l) (World.ownsRow_nil _ _ _ _) (fun j u hj => HO8.out.cells (g := b3) rfl j u hj) (by unfold maxLen; omega) (by omega) ?_; intro v9 w9 g9; rw [Nat.zero_add, List.nil_append] at g9; have HG9 := hide g9; clear g9) | (refine wpList_append_grew _ rfl _ _ 32 rfl 5 i0 (.int .u8 0) 1 1 und_bytes hi hz0 hz1 hz2 rfl (by decide) v9 l.length (bytesV l) rfl ⟨w9.heap.size, 0, none⟩ 1 1 [.int .u8 0] rfl rfl one_u8 (HG9.out.own.alloc _) (cells_new _ _ _) (by unfold maxLen; omega) (by omega) ?_; intro v10 w10 g10; have HG10 := hide g10; obtain ⟨a10, c10, rfl⟩ := own_slice g10.own; clear g10))
 generalize w7.alloc _ = W8 at HB8 HN8 HM8 HO8 HC8 hz8 HG9
 have g9 := HG9.out.below (B := W8.heap.size) (Nat.le_refl _) (fun k hk => by cases hk)
 have hba := (Below.refl w9.heap.size w9).alloc (Nat.le_refl _) (.cells #[.int .u8 0] 5)
 have g10 := HG10.out.below (B := W8.heap.size) (by rw [alloc_size]; have := g9.1.size; omega) g9.2
 have hb10 := (g9.1.trans (hba.mono g9.1.size)).trans g10.1
 have ho10 : w10.ownsRow 0 5 1 (.slice a10 (l ++ [0]).length c10) (l ++ [0]).length (bytesV (l ++ [0])) := by
  rw [List.length_append, bytesV_append]
  exact HG10.out.own
 have hl1 : (l ++ [(0 : UInt8)]).length = l.length + 1 := by simp
 obtain ⟨b10, rfl, hby10, hcap10, hlt10⟩ := own_bytes ho10 (by simp)
 have HB10 := hide (HB8.out.trans (hb10.mono HB8.out.size))
 have HN10 := hide ((hb10.block _ (heap_lt HN8.out)).trans HN8.out)
 have HM10 := hide ((hb10.block _ (heap_lt HM8.out)).trans HM8.out)
 have HO10 := hide (own_below HO8.out hb10)
 have HC10 := hide (own_below HC8.out hb10)
 have hun := tUnpack2 w10 b10 c10 (str (l ++ [0])) (by show (l ++ [0]).length ≤ _; omega) hcap10 hlt10 hby10
 rw [(un_none (more_none HU.out 0)).1, (un_none (more_none HU.out 0)).2] at hun
 have hsz : (str (l ++ [0])).size = l.length + 1 := hl1
 rw [hsz] at hun
 refine hun.mono ?_
 clear hun hsz hby10 hcap10 ho10 hb10 g10 hba g9 HG9 HG10 HB8 HN8 HM8 HO8 HC8
 rintro e w11 ⟨aq11, cq11, aa11, ca11, au11, cu11, ax11, cx11, rfl, H11⟩
 have hb12 := H11.out.1.trans (((Below.refl w11.heap.size w11).alloc (Nat.le_refl _) (.cells (msgCells zMsg (.slice aq11 zMsg.qs.length cq11) (.slice aa11 zMsg.an.length ca11) (.slice au11 zMsg.au.length cu11) (.slice ax11 zMsg.ex.length cx11)) 30)).mono H11.out.1.size)
 have HB12 := hide (HB10.out.trans (hb12.mono HB10.out.size))
 have hcn := box_cells ((hb12.block _ (heap_lt HN10.out)).trans HN10.out)
 have hcm := box_cells ((hb12.block _ (heap_lt HM10.out)).trans HM10.out)
 have hcv1 := conv_own _ 0 _ c3 l (own_below HO10.out hb12)
 have hcv2 := conv_own _ 0 a6 c6 l (own_below HC10.out hb12)
 unfold msgCells at HB12 hcn hcm hcv1 hcv2 ⊢
 clear hb12 H11 HB10 HN10 HM10 HO10 HC10
 generalize str l = sl at hcv1 hcv2 HU
 go_wp2_with fail
 go_ret
 exact ⟨rfl, HB12.out⟩
end Go.Proofs.YtafoepfhepdcoaaGreat
