import Derived.Test.YtafoepfhepdcoaaGreatM26
import Derived.Test.YtafoepfhepdcoaaGreatM25
set_option maxRecDepth 100000
set_option maxHeartbeats 8000000
namespace Go.Proofs.YtafoepfhepdcoaaGreat
open Go.RowKit Go.Trawl
theorem buildKC (x y : Int) (a : Option Addr) (n c : Nat) (W : World) : (Instr.build 57 #[(0, .int .i64 x), (3, .int .i64 y), (4, .slice a n c)]).run Tryz.prog W = .ok (.agg #[.int .i64 x, .int .i64 0, .int .i64 0, .int .i64 y, .slice a n c]) W := run_build W _ _ _ (by kernel_rfl)
theorem buildKR (n d : ByteArray) (k c : Int) (W : World) : (Instr.build 69 #[(0, .string n), (1, .int .u16 k), (2, .int .u16 c), (4, .string d)]).run Tryz.prog W = .ok (.agg #[.string n, .int .u16 k, .int .u16 c, .int .u32 0, .string d]) W := run_build W _ _ _ (by kernel_rfl)
attribute [local go_sem] buildKC buildKR
theorem nameA : str (nameL ⟨#[97]⟩) = nA := rfl
theorem mB_wf : WfM mB := by
 refine ⟨by decide, by decide, by decide, by decide, by decide, by decide, by decide, by decide, by decide, by decide, fun q hq => ?_, fun r hr => ?_⟩
 ·simp [mB, mA, askM] at hq
  subst hq
  exact ⟨by decide, by decide, by decide, by decide, by decide⟩
 ·simp [mB, mA, askM, recs] at hr
  subst hr
  exact ⟨by decide, by decide, by decide, by decide, by decide, by decide, by decide, by decide⟩
theorem known_any (w : World) : Calls Tryz.prog 14 #[] w fun e w' => e = .returned (.bool true) ∧ Hid (Below w.heap.size w w') := by
 have hb1 := (Below.refl w.heap.size w).alloc (Nat.le_refl _) (.cells #[.int .u32 7] 54)
 have HB1 := hide hb1
 have HV : Hid (Lies (w.alloc (.cells #[.int .u32 7] 54)) 1 (.slice (some ⟨w.heap.size, 0, none⟩) 1 1) (wordsV [7])) := lies_row (heap_new w _) rfl (fun x hx => by simp [wordsV] at hx; subst hx; rfl) rfl
 clear hb1
 go_enter Tryz.func14, Tryz.ntmps14
 go_wp2_with fail
 generalize w.alloc _ = W1 at HB1 HV ⊢
 have hr := kResolver_any W1 5 0 0 1 [7] _ (by decide) HV.out
 unfold confV at hr
 refine hr.mono ?_
 clear hr HV
 rintro e w2 ⟨xb, rfl, H2⟩
 obtain ⟨sb, vr2, K2, hb2⟩ := H2.out
 have hz1 := HB1.out.size
 have HB2 := hide (HB1.out.trans (hb2.mono hz1))
 have HK2 := hide K2
 have hxb : xb < w2.heap.size := K2.lt (.inl rfl)
 have hz2 := HB2.out.size
 clear H2 hb2 K2 HB1
 generalize W1.heap.size = B at HK2 hz1
 clear W1
 go_wp2_with fail
 refine (kName_any w2 ⟨#[97]⟩ (by decide)).mono ?_
 rintro e w3 ⟨rfl, H3⟩
 have HB3 := hide (HB2.out.trans (H3.out.mono hz2))
 have HK3 := hide (HK2.out.below H3.out)
 have hz3 := H3.out.size
 clear H3 HB2 HK2
 rw [nameA]
 go_wp2_with fail
 have ha := kAsks_any w3 77 1 nA (by decide) (by decide) (by decide) (by decide) (by decide)
 have hQ := factsQ
 have h1 := known1
 have hA := factsA
 generalize packL (qM1 77 nA 1) = lQ at ha hQ h1
 generalize packL mA = lA at h1 hA
 have H1 := hide h1
 have HA := hide hA
 clear h1 hA
 refine ha.mono ?_
 clear ha
 rintro e w4 ⟨a4, c4, rfl, H4⟩
 have HB4 := hide (HB3.out.trans (H4.out.1.mono HB3.out.size))
 have HK4 := hide (HK3.out.below H4.out.1)
 obtain ⟨b4, rfl, hby, hcap, hlt⟩ := own_bytes (own_zero H4.out.2) hQ.1
 have hb4 : w3.heap.size ≤ b4 := (H4.out.2.lt b4 rfl).1
 have HBY := hide hby
 clear H4 HB3 HK3 hby
 have hsz := hQ.2
 go_wp2_with fail
 have hpa := (pAsk_any w4 xb sb b4 c4 vr2 st0 (str lQ) HK4.out.at_ (newSt_ok (by decide)) (by show lQ.length ≤ _; omega) hcap hlt HBY.out (by omega))
 rw [H1.out] at hpa
 refine hpa.mono ?_
 clear hpa
 rintro e w5 ⟨k5, t5, a5, l5, c5, rfl, H5⟩
 have hv := H5.out.1
 dsimp only at hv
 obtain ⟨rfl, rfl, hl5⟩ := stepV_inj hv.symm
 have hl5 := (str_inj hl5).symm
 subst hl5
 obtain ⟨vr5, sp5⟩ := H5.out.2
 dsimp only at sp5
 have S5 := hide (HK4.out.spoke sp5)
 have HB5 := hide (HB4.out.trans (S5.out.below.mono (by have := HK4.out.lo xb (.inl rfl); omega)))
 have hx5 : xb < w5.heap.size := S5.out.kb.lt (.inl rfl)
 have hz5 := HB5.out.size
 clear H5 hv sp5 HB4 HK4 HBY
 obtain ⟨b5, rfl, hby5, hcap5, hlt5⟩ := own_bytes S5.out.own HA.out.1
 have hn5 : ¬ pOwns xb sb vr5 b5 := S5.out.apart b5 rfl
 have HBY5 := hide hby5
 have hszA := HA.out.2.1
 have HK5 := hide S5.out.kb
 clear S5 hby5
 have hb6 := (Below.refl w5.heap.size w5).alloc (Nat.le_refl _) (.cells #[.int .i64 1, .int .u32 7, .slice (some ⟨b5, 0, none⟩) lA.length c5] 59)
 have HX6 := hide (heap_new w5 (.cells #[.int .i64 1, .int .u32 7, .slice (some ⟨b5, 0, none⟩) lA.length c5] 59))
 have HB6 := hide (HB5.out.trans (hb6.mono hz5))
 have HK6 := hide (HK5.out.below hb6)
 have HBY6 := hide (HBY5.out.below hlt5 hb6)
 have hz6 := hb6.size
 have hcx := box_cells HX6.out
 clear hb6 HB5 HK5 HBY5
 unfold stepX
 go_wp2_with fail
 generalize w5.alloc _ = W6 at HX6 HB6 HK6 HBY6 hz6 hcx ⊢
 refine (tUnpack2 W6 b5 c5 (str lA) (by show lA.length ≤ _; omega) hcap5 (by omega) HBY6.out).mono ?_
 rw [(unM_of HA.out.2.2).1, (unM_of HA.out.2.2).2]
 rintro e w7 ⟨aq, cq, aa, ca, au, cu, ax, cx, rfl, H7⟩
 have R7 := H7.out.2.2
 have HB7 := hide (HB6.out.trans (H7.out.1.mono HB6.out.size))
 have HK7 := hide (HK6.out.below H7.out.1)
 have HX7 := hide ((H7.out.1.block _ (heap_lt HX6.out)).trans HX6.out)
 have hz7 := H7.out.1.size
 have HR7 := hide R7
 clear R7 H7 HB6 HK6 HX6 HBY6 hcx
 rw [show msgCells mA (.slice aq mA.qs.length cq) (.slice aa mA.an.length ca) (.slice au mA.au.length cu) (.slice ax mA.ex.length cx) = #[.int .u16 1, .bool false, .int .i64 0, .bool false, .bool false, .bool false, .bool false, .int .i64 0, .slice aq 1 cq, .slice aa 0 ca, .slice au 0 cu, .slice ax 0 cx] from rfl]
 go_wp2_with fail
 have hb8 := (Below.refl w7.heap.size w7).alloc (Nat.le_refl _) (.cells #[.int .u16 1, .bool true, .int .i64 0, .bool false, .bool false, .bool false, .bool false, .int .i64 0, .slice aq 1 cq, .slice aa 0 ca, .slice au 0 cu, .slice ax 0 cx] 30)
 have HM8 := hide (heap_new w7 (.cells #[.int .u16 1, .bool true, .int .i64 0, .bool false, .bool false, .bool false, .bool false, .int .i64 0, .slice aq 1 cq, .slice aa 0 ca, .slice au 0 cu, .slice ax 0 cx] 30))
 have HQ8 := hide (own_lies (es := ([⟨nA, 1, 1⟩] : List Qn).map Qn.cells) HR7.out.q (fun x hx => by simp at hx; subst hx; rfl) rfl)
 have HU8 : Hid (Lies w7 5 (.slice au 0 cu) [] ∧ Lies w7 5 (.slice ax 0 cx) []) := ⟨own_lies (es := []) HR7.out.u (by simp) rfl, own_lies (es := []) HR7.out.x (by simp) rfl⟩
 have HLB : Hid (∀ j, ((Value.slice aq 1 cq).ownBlock = some j ∨ (Value.slice au 0 cu).ownBlock = some j ∨ (Value.slice ax 0 cx).ownBlock = some j) → j < w7.heap.size) := fun j hj => by
  rcases hj with hj | hj | hj
  ·exact (HR7.out.q.lt j hj).2
  ·exact (HR7.out.u.lt j hj).2
  ·exact (HR7.out.x.lt j hj).2
 have hnM : ¬ pOwns xb sb vr5 w7.heap.size := fun e => by have := HK7.out.lt e; omega
 have HB8 := hide (HB7.out.trans (hb8.mono HB7.out.size))
 have HK8 := hide (HK7.out.below hb8)
 have HX8 := hide ((hb8.block _ (heap_lt HX7.out)).trans HX7.out)
 have HQ8' := hide (HQ8.out.below hb8)
 have HU8' := hide (And.intro (HU8.out.1.below hb8) (HU8.out.2.below hb8))
 have hz8 := hb8.size
 have hM8 := heap_lt HM8.out
 clear hb8 HB7 HK7 HX7 HQ8 HU8 HR7
 generalize w7.alloc _ = W8 at HM8 HB8 HK8 HX8 HQ8' HU8' hz8 hM8 ⊢
 generalize w7.heap.size = M at HM8 hM8 hz7 hz8 HLB hnM ⊢
 refine (kName_any W8 ⟨#[97]⟩ (by decide)).mono ?_
 rintro e w9 ⟨rfl, H9⟩
 rw [nameA]
 go_wp2_with (with_reducible refine stop_store _ (.tmp 63) _ rfl ?_)
 unfold Stopped
 have hb9 := H9.out.trans (((Below.refl w9.heap.size w9).alloc (Nat.le_refl _) (.cells #[.string nA, .int .u16 1, .int .u16 1, .int .u32 0, .string ⟨#[49, 50, 51, 52]⟩] 69)).mono H9.out.size)
 have HR9 : Hid (Lies (w9.alloc (.cells #[.string nA, .int .u16 1, .int .u16 1, .int .u32 0, .string ⟨#[49, 50, 51, 52]⟩] 69)) 5 (.slice (some ⟨w9.heap.size, 0, none⟩) 1 1) ([rA].map Rc.cells)) := lies_row (heap_new w9 _) rfl (fun x hx => by simp at hx; subst hx; rfl) rfl
 have HM9 := hide ((hb9.block _ hM8).trans HM8.out)
 have HB9 := hide (HB8.out.trans (hb9.mono HB8.out.size))
 have HK9 := hide (HK8.out.below hb9)
 have HX9 := hide ((hb9.block _ (heap_lt HX8.out)).trans HX8.out)
 have HQ9 := hide (HQ8'.out.below hb9)
 have HU9 := hide (And.intro (HU8'.out.1.below hb9) (HU8'.out.2.below hb9))
 have hz9 := H9.out.size
 have hz9' : w9.heap.size < (w9.alloc (.cells #[.string nA, .int .u16 1, .int .u16 1, .int .u32 0, .string ⟨#[49, 50, 51, 52]⟩] 69)).heap.size := heap_lt (heap_new w9 _)
 clear hb9 H9 HM8 HB8 HK8 HX8 HQ8' HU8'
 generalize w9.alloc _ = W9 at HR9 HM9 HB9 HK9 HX9 HQ9 HU9 hz9' ⊢
 generalize w9.heap.size = R at HR9 hz9 hz9' ⊢
 have hG := grownBy_setCell W9 M 9 (.slice (some ⟨R, 0, none⟩) 1 1)
 have hc9 := box_cells HM9.out
 have hf9 := frozen_of_block HM9.out
 go_wp2_with fail
 have HM10 := hide (heap_setCell_eq (j := 9) HM9.out (.slice (some ⟨R, 0, none⟩) 1 1))
 have HB10 := hide (HB9.out.trans (kb_put hG (by omega) HB9.out.size))
 have HK10 := hide (HK9.out.aside hG hnM)
 have hkp : ∀ j, j < W9.heap.size → j ≠ M → (W9.setCell ⟨M, 9, none⟩ (.slice (some ⟨R, 0, none⟩) 1 1)).heap[j]? = W9.heap[j]? := fun j hj hne => hG.block j hj (fun e => hne (Option.some.inj e))
 have HAT : Hid (MsgAt (W9.setCell ⟨M, 9, none⟩ (.slice (some ⟨R, 0, none⟩) 1 1)) mB (.slice aq 1 cq) (.slice (some ⟨R, 0, none⟩) 1 1) (.slice au 0 cu) (.slice ax 0 cx)) :=
  ⟨HQ9.out.keep hG.size (fun j e hj => hkp j hj (fun h => by have := HLB.out j (.inl e); omega)), HR9.out.keep hG.size (fun j e hj => hkp j hj (fun h => by have := Option.some.inj e; simp at this; omega)),
   HU9.out.1.keep hG.size (fun j e hj => hkp j hj (fun h => by have := HLB.out j (.inr (.inl e)); omega)), HU9.out.2.keep hG.size (fun j e hj => hkp j hj (fun h => by have := HLB.out j (.inr (.inr e)); omega))⟩
 have hz10 := hG.size
 clear hG hkp hc9 hf9 HM9 HB9 HK9 HX9 HQ9 HU9 HR9
 generalize W9.setCell ⟨M, 9, none⟩ (.slice (some ⟨R, 0, none⟩) 1 1) = W10 at HM10 HB10 HK10 HAT hz10 ⊢
 have hp := tpack2 mB (.slice aq 1 cq) (.slice (some ⟨R, 0, none⟩) 1 1) (.slice au 0 cu) (.slice ax 0 cx) W10 mB_wf HAT.out
 rw [known3.2.1] at hp
 have h4 := known4
 have hB := factsB
 have hC := factsC
 generalize packL mB = lB at hp h4 hB
 generalize replyL (doneM st1 0 [rA]) = lC at h4 hC
 have H4 := hide h4
 have HB := hide hB
 have HC := hide hC
 clear h4 hB hC
 refine hp.mono ?_
 clear hp
 rintro e w11 ⟨hb11, a11, c11, rfl, ho11⟩
 have HB11 := hide (HB10.out.trans (hb11.mono HB10.out.size))
 have HK11 := hide (HK10.out.below hb11)
 obtain ⟨b11, rfl, hby11, hcap11, hlt11⟩ := own_bytes (own_zero ho11) HB.out.1
 have hszB := HB.out.2
 have hb11' : W10.heap.size ≤ b11 := (ho11.lt b11 rfl).1
 have HBY11 := hide hby11
 clear hby11 ho11 hb11 HAT HM10 HB10 HK10
 go_wp2_with fail
 have hpa := (pHeard_any w11 xb sb b11 c11 vr5 st1 7 (str lB) HK11.out.at_ (by show lB.length ≤ _; omega) hcap11 hlt11 HBY11.out (by omega))
 rw [H4.out] at hpa
 refine hpa.mono ?_
 clear hpa
 rintro e w12 ⟨k12, t12, a12, l12, c12, rfl, H12⟩
 have hv := H12.out.1
 dsimp only at hv
 obtain ⟨rfl, rfl, hl12⟩ := stepV_inj hv.symm
 have hl12 := (str_inj hl12).symm
 subst hl12
 obtain ⟨vr12, sp12⟩ := H12.out.2
 have S12 := hide (HK11.out.spoke sp12)
 have HB12 := hide (HB11.out.trans (S12.out.below.mono (by have := HK11.out.lo xb (.inl rfl); omega)))
 obtain ⟨b12, rfl, hby12, hcap12, hlt12⟩ := own_bytes S12.out.own HC.out.1
 have HBY12 := hide hby12
 have hszC := HC.out.2.1
 clear H12 hv sp12 HB11 HK11 HBY11 hby12 S12
 have hb13 := (Below.refl w12.heap.size w12).alloc (Nat.le_refl _) (.cells #[.int .i64 2, .int .u32 0, .slice (some ⟨b12, 0, none⟩) lC.length c12] 59)
 have HX13 := hide (heap_new w12 (.cells #[.int .i64 2, .int .u32 0, .slice (some ⟨b12, 0, none⟩) lC.length c12] 59))
 have HB13 := hide (HB12.out.trans (hb13.mono HB12.out.size))
 have HBY13 := hide (HBY12.out.below hlt12 hb13)
 have hz13 := hb13.size
 have hcx := box_cells HX13.out
 clear hb13 HB12 HBY12
 unfold stepX
 go_wp2_with fail
 generalize w12.alloc _ = W13 at HX13 HB13 HBY13 hz13 hcx ⊢
 refine (tUnpack2 W13 b12 c12 (str lC) (by show lC.length ≤ _; omega) hcap12 (by omega) HBY13.out).mono ?_
 rw [(unM_of HC.out.2.2).1, (unM_of HC.out.2.2).2]
 rintro e w14 ⟨aq', cq', aa', ca', au', cu', ax', cx', rfl, H14⟩
 have HB14 := hide (HB13.out.trans (H14.out.1.mono HB13.out.size))
 have HR14 := hide H14.out.2.2
 clear H14 HB13 HX13 HBY13 hcx
 rw [show msgCells mC (.slice aq' mC.qs.length cq') (.slice aa' mC.an.length ca') (.slice au' mC.au.length cu') (.slice ax' mC.ex.length cx') = #[.int .u16 77, .bool true, .int .i64 0, .bool false, .bool false, .bool true, .bool true, .int .i64 0, .slice aq' 1 cq', .slice aa' 1 ca', .slice au' 0 cu', .slice ax' 0 cx'] from rfl]
 have hla := own_lies (es := ([rA] : List Rc).map Rc.cells) HR14.out.a (fun x hx => by simp at hx; subst hx; rfl) rfl
 obtain ⟨_, _, hva, _, hlie⟩ := hla
 rcases hlie with he | ⟨b14, off14, he, hbl14, hc14⟩
 ·simp at he
 rw [he] at hva
 have hv2 : (Value.slice aa' 1 ca') = .slice (some ⟨b14, off14, none⟩) 1 _ := hva
 injection hv2 with hv2
 subst hv2
 obtain ⟨_, _, _, _, d4⟩ := Lies.rat hc14 (show ([rA] : List Rc)[0]? = some rA from rfl)
 have hb15 := (Below.refl w14.heap.size w14).alloc (Nat.le_refl _) (.cells #[.int .u16 77, .bool true, .int .i64 0, .bool false, .bool false, .bool true, .bool true, .int .i64 0, .slice aq' 1 cq', .slice (some ⟨b14, off14, none⟩) 1 ca', .slice au' 0 cu', .slice ax' 0 cx'] 30)
 have HB15 := hide (HB14.out.trans (hb15.mono HB14.out.size))
 have d4' := (cell_of_heap (hb15.block b14 hbl14) d4)
 go_wp2_with fail
 go_ret
 have e : (rA.data.toList == [49, 50, 51, 52]) = true := by decide +kernel
 rw [e]
 exact ⟨rfl, HB15.out⟩
end Go.Proofs.YtafoepfhepdcoaaGreat
namespace Go.Proofs.YtafoepfhepdcoaaGreat
open Go.RowKit Go.Trawl
theorem toList_loop (b : ByteArray) (i : Nat) (r : List UInt8) : ByteArray.toList.loop b i r = r.reverse ++ b.data.toList.drop i := by
 rw [ByteArray.toList.loop]
 split
 ·rename_i h
  rw [toList_loop b (i + 1)]
  have h' : i < b.data.toList.length := by simpa using h
  rw [List.drop_eq_getElem_cons h']
  simp [ByteArray.get!]
  have : b.data[i]! = b.data[i] := by
   have h2 : i < b.data.size := h
   exact getElem!_pos b.data i h2
  rw [this]
 ·rename_i h
  rw [List.drop_of_length_le (by simp; omega)]
  simp
termination_by b.size - i
theorem toList_eq (b : ByteArray) : b.toList = b.data.toList := by
 rw [ByteArray.toList, toList_loop]
 rfl
theorem extract_eq (s : ByteArray) : s.extract 0 20 = ⟨(s.data.toList.take 20).toArray⟩ := by
 apply ByteArray.ext
 rw [ByteArray.data_extract]
 apply Array.ext'
 simp
theorem own_block {w : World} {g n sz : Nat} {cs : Array Value} {t : TypeId} {xs : List Value} (h : w.heap[g]? = some (.cells cs t)) (hx : cs.toList = xs) (hl : xs.length = n * sz) (hm : n ≤ 1000000) : w.ownsRow 0 t sz (.slice (some ⟨g, 0, none⟩) n n) n xs := by
 subst hx
 refine ⟨hl, .inr ⟨g, n, cs, rfl, Nat.zero_le _, h, Nat.le_refl _, by unfold maxLen; omega, by rw [← hl]; simp, ?_⟩⟩
 rw [← hl]
 exact List.take_length
theorem isEmpty_no {s : ByteArray} (h : s.size ≠ 0) : s.toList.isEmpty = false := by
 rw [toList_eq]
 cases hs : s.data.toList with
 | nil =>
  exfalso
  apply h
  have : s.data.toList.length = 0 := by rw [hs]; rfl
  simpa using this
 | cons a l => rfl
theorem k_apart {w : World} {e e' : TypeId} {sz sz' : Nat} {v v' : Value} {n n' : Nat} {x x' : List Value} (h : w.ownsRow 0 e sz v n x) (h' : w.ownsRow 0 e' sz' v' n' x') (hne : e ≠ e') {k : Nat} (hk : v.ownBlock = some k) (hk' : v'.ownBlock = some k) : False := by
 rcases h.2 with ⟨rfl, _⟩ | ⟨g, cap, cur, rfl, _, h5, _⟩
 ·cases hk
 ·cases hk
  rcases h'.2 with ⟨rfl, _⟩ | ⟨g', cap', cur', rfl, _, h5', _⟩
  ·cases hk'
  ·cases hk'
   rw [h5] at h5'
   injection h5' with h5'
   injection h5' with _ h5'
   exact hne h5'
end Go.Proofs.YtafoepfhepdcoaaGreat
namespace Go.Trawl
def onB (a : Nat) : List UInt8 := if a = 0 then [0] else [UInt8.ofNat (192 + a / 256), UInt8.ofNat (a % 256)]
def entryB (i : Nat) (l : List UInt8) (a : Nat) : List UInt8 := ([UInt8.ofNat l.length] ++ l) ++ (onB a ++ (two (i : Int) ++ two 1))
structure PtS where
 body : List UInt8
 at_ : Nat
 last : List UInt8
 names : List (List UInt8)
def PtS.start : PtS := ⟨[], 0, [0], []⟩
def PtS.step (s : PtS) (l : List UInt8) : PtS := ⟨s.body ++ entryB s.names.length l s.at_, 12 + s.body.length, [UInt8.ofNat l.length] ++ l ++ s.last, s.names ++ [[UInt8.ofNat l.length] ++ l ++ s.last]⟩
def qsOf (names : List (List UInt8)) : List Qn := names.mapIdx fun i n => ⟨⟨n.toArray⟩, (i : Int), 1⟩
theorem qsOf_snoc (names : List (List UInt8)) (n : List UInt8) : qsOf (names ++ [n]) = qsOf names ++ [⟨⟨n.toArray⟩, (names.length : Int), 1⟩] := by
 unfold qsOf
 rw [List.mapIdx_append]
 simp
structure Reads (s : ByteArray) (p : PtS) : Prop where
 first : p.names = [] → p.at_ = 0 ∧ p.last = [0]
 next : p.names ≠ [] → 12 ≤ p.at_ ∧ p.at_ < 12 + p.body.length ∧ ∃ e, whole s p.at_ = some (p.last, e)
 many : (pQ s).many p.names.length 12 = some (qsOf p.names, 12 + p.body.length)
theorem Reads.start (s : ByteArray) : Reads s PtS.start := ⟨fun _ => ⟨rfl, rfl⟩, fun h => absurd rfl h, rfl⟩
theorem u8n {n : Nat} (h : n < 256) : (UInt8.ofNat n).toNat = n := UInt8.toNat_ofNat_of_lt' h
theorem Reads.step {s : ByteArray} {p : PtS} (h : Reads s p) {l : List UInt8} (h1 : 1 ≤ l.length) (h2 : l.length ≤ 20) (hi : p.names.length < 20) (hs : 12 + (p.step l).body.length ≤ 512) (hn : (p.step l).last.length ≤ 255) (hat : At s 12 (p.step l).body) : Reads s (p.step l) := by
 have hen : At s (12 + p.body.length) (entryB p.names.length l p.at_) := hat.right
 have hA := hen.left
 have hO := hen.right.left
 have hT := hen.right.right
 have hle := hen.le
 have hb0 := hA.at8 (k := 0) (b := UInt8.ofNat l.length) rfl
 rw [u8n (by omega), Nat.add_zero] at hb0
 have hlA : ([UInt8.ofNat l.length] ++ l).length = 1 + l.length := by simp; omega
 have hlen : (entryB p.names.length l p.at_).length = 1 + l.length + ((onB p.at_).length + 4) := by
  unfold entryB
  rw [List.length_append, hlA, List.length_append, List.length_append, length_two, length_two]
 rw [hlen] at hle
 rw [hlA] at hO
 rw [hlA] at hT
 have hc := hA.is
 rw [hlA] at hc
 have hh : behind s (12 + p.body.length) = behind s (12 + p.body.length + (1 + l.length)) := by
  rw [behind_next s _ (by omega) (by omega) (by omega), hb0]
  congr 1
  omega
 have key : ∃ e, whole s (12 + p.body.length) = some ((p.step l).last, e) ∧ e = 12 + p.body.length + (1 + l.length) + (onB p.at_).length := by
  by_cases h0 : p.names = []
  ·obtain ⟨ha, hl⟩ := h.first h0
   unfold onB at hO ⊢
   rw [if_pos ha] at hO ⊢
   have h8 := hO.at8 (k := 0) (b := 0) rfl
   rw [Nat.add_zero] at h8
   have hst : behind s (12 + p.body.length + (1 + l.length)) = 12 + p.body.length + (1 + l.length) := behind_stop s _ (fun hh => by rw [h8] at hh; exact absurd hh.2.1 (by decide))
   have hb := hh.trans hst
   refine ⟨_, whole_end (by rw [hb]; omega) (by rw [hb, h8]; rfl) |>.trans ?_, rfl⟩
   rw [hb, hc]
   show some _ = some _
   unfold PtS.step
   rw [hl]
   rfl
  ·obtain ⟨ha, hlt, e, hw⟩ := h.next h0
   unfold onB at hO ⊢
   rw [if_neg (by omega)] at hO ⊢
   have hat512 : p.at_ < 512 := by
    have : p.body.length ≤ (p.step l).body.length := by unfold PtS.step; simp
    omega
   have h8 := hO.at8 (k := 0) (b := UInt8.ofNat (192 + p.at_ / 256)) rfl
   have h9 := hO.at8 (k := 1) (b := UInt8.ofNat (p.at_ % 256)) rfl
   rw [u8n (by omega), Nat.add_zero] at h8
   rw [u8n (by omega)] at h9
   have hst : behind s (12 + p.body.length + (1 + l.length)) = 12 + p.body.length + (1 + l.length) := behind_stop s _ (fun hh => by omega)
   have hb := hh.trans hst
   have hle2 := hO.le
   simp only [List.length_cons, List.length_nil] at hle2
   have hp : ptr s (12 + p.body.length + (1 + l.length)) = p.at_ := by unfold ptr; rw [h8, h9]; omega
   refine ⟨_, whole_on (by rw [hb]; omega) (by rw [hb]; omega) (by rw [hb]; omega) (by rw [hb, hp]; exact hlt) |>.trans ?_, rfl⟩
   rw [hb, hp, hw, hc]
   rfl
 obtain ⟨e, hw, he⟩ := key
 have hnm : pName s (12 + p.body.length) = some (⟨(p.step l).last.toArray⟩, e) := by
  unfold pName
  rw [hw]
  simp only [Option.bind_some]
  rw [if_pos hn]
 have hq : pQ s (12 + p.body.length) = some (⟨⟨(p.step l).last.toArray⟩, (p.names.length : Int), 1⟩, 12 + (p.step l).body.length) := by
  unfold pQ
  have t1 := hT.left.num2 (n := (p.names.length : Int)) (by omega) (by omega)
  have t2 := hT.right.num2 (n := 1) (by decide) (by decide)
  rw [length_two] at t2
  rw [bind_some hnm, he, bind_some t1, bind_some t2]
  show some _ = some _
  have : 12 + p.body.length + (1 + l.length) + (onB p.at_).length + 2 + 2 = 12 + (p.step l).body.length := by
   unfold PtS.step
   dsimp only
   rw [List.length_append, hlen]
   omega
  rw [this]
 refine ⟨fun h => ?_, fun _ => ⟨by unfold PtS.step; dsimp only; omega, ?_, e, hw⟩, ?_⟩
 ·unfold PtS.step at h; simp at h
 ·unfold PtS.step
  dsimp only
  rw [List.length_append, hlen]
  omega
 ·have hl2 : (p.step l).names.length = p.names.length + 1 := by unfold PtS.step; simp
  rw [hl2]
  show ((pQ s).many p.names.length).bind _ 12 = _
  rw [bind_some h.many, bind_some hq]
  show some _ = some _
  have : (p.step l).names = p.names ++ [(p.step l).last] := rfl
  rw [this, qsOf_snoc]
def headB (n : Nat) : List UInt8 := [0, 5, 128, 0, 0, UInt8.ofNat n, 0, 0, 0, 0, 0, 0]
theorem unpack_points {p : PtS} (hl : p.names.length ≤ 20) (hb : 12 + p.body.length ≤ 512) (hr : ∀ s, At s 12 p.body → Reads s p) : unpack ⟨(headB p.names.length ++ p.body).toArray⟩ = some ⟨5, true, 0, false, false, false, false, 0, qsOf p.names, [], [], []⟩ := by
 have hall : At ⟨(headB p.names.length ++ p.body).toArray⟩ 0 (headB p.names.length ++ p.body) := by
  refine ⟨by rw [Nat.zero_add]; exact Nat.le_refl _, ?_⟩
  unfold cut
  rw [Nat.zero_add, List.drop_zero, Nat.sub_zero]
  exact List.take_length
 have hsz : (⟨(headB p.names.length ++ p.body).toArray⟩ : ByteArray).size = 12 + p.body.length := by
  show (headB p.names.length ++ p.body).length = _
  rw [List.length_append]
  rfl
 generalize (⟨(headB p.names.length ++ p.body).toArray⟩ : ByteArray) = s at hall hsz
 have hh := hall.left
 have h12 : At s 12 p.body := by have := hall.right; rwa [show 0 + (headB p.names.length).length = 12 from rfl] at this
 have hR := hr s h12
 have g : ∀ k b, (headB p.names.length)[k]? = some b → at8 s k = b.toNat := fun k b hk => by have := hh.at8 hk; rwa [Nat.zero_add] at this
 have e5 : at8 s 5 = p.names.length := by rw [g 5 _ rfl, u8n (by omega)]
 have e0 := g 0 _ rfl
 have e1 := g 1 _ rfl
 have e2 := g 2 _ rfl
 have e3 := g 3 _ rfl
 have e4 := g 4 _ rfl
 have e6 := g 6 _ rfl
 have e7 := g 7 _ rfl
 have e8 := g 8 _ rfl
 have e9 := g 9 _ rfl
 have e10 := g 10 _ rfl
 have e11 := g 11 _ rfl
 have n0 : num2 s 0 = some (5, 2) := by unfold num2 n2; rw [if_pos (by omega), e0, e1]; rfl
 have n1 : num2 s 2 = some (32768, 4) := by unfold num2 n2; rw [if_pos (by omega), e2, e3]; rfl
 have n2' : num2 s 4 = some ((p.names.length : Int), 6) := by
  unfold num2 n2
  rw [if_pos (by omega), e4, e5]
  simp
 have n3 : num2 s 6 = some (0, 8) := by unfold num2 n2; rw [if_pos (by omega), e6, e7]; rfl
 have n4' : num2 s 8 = some (0, 10) := by unfold num2 n2; rw [if_pos (by omega), e8, e9]; rfl
 have n5 : num2 s 10 = some (0, 12) := by unfold num2 n2; rw [if_pos (by omega), e10, e11]; rfl
 have key : pM s 0 = some (⟨5, true, 0, false, false, false, false, 0, qsOf p.names, [], [], []⟩, 12 + p.body.length) := by
  unfold pM
  rw [bind_some n0, bind_some n1, bind_some n2', bind_some n3, bind_some n4', bind_some n5]
  simp only [Int.toNat_natCast]
  rw [bind_some hR.many]
  rfl
 unfold unpack
 rw [if_pos (by omega), key]
 simp only [Option.bind_some]
 rw [if_pos hsz.symm]
end Go.Trawl
