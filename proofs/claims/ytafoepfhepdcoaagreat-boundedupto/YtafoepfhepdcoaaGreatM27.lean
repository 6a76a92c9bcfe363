import Derived.Test.YtafoepfhepdcoaaGreatM26
import Derived.Test.YtafoepfhepdcoaaGreatM23
set_option maxRecDepth 100000
set_option maxHeartbeats 8000000
namespace Go.Proofs.YtafoepfhepdcoaaGreat
open Go.RowKit Go.Trawl
theorem lies_row {w : World} {b n sz : Nat} {ls : List (List Value)} {t : TypeId} {cs : Array Value} (h : w.heap[b]? = some (.cells cs t)) (hc : cs = ls.flatten.toArray) (hlen : ∀ x ∈ ls, x.length = sz) (hn : ls.length = n) : Lies w sz (.slice (some ⟨b, 0, none⟩) n n) ls := by
 subst hc
 refine ⟨some ⟨b, 0, none⟩, n, by rw [hn], (fun h => by cases h), .inr ⟨b, 0, rfl, heap_lt h, fun i e hi j u hj => ?_⟩⟩
 have h2 := flat_at (sz := sz) _ hlen i e j u hi hj
 rw [box_cells h, Nat.zero_add]
 simpa using h2
theorem buildKQ (n : ByteArray) (k c : Int) (W : World) : (Instr.build 41 #[(0, .string n), (1, .int .u16 k), (2, .int .u16 c)]).run Tryz.prog W = .ok (.agg #[.string n, .int .u16 k, .int .u16 c]) W := run_build W _ _ _ (by kernel_rfl)
theorem buildKM (i : Int) (b : Bool) (a : Option Addr) (n c : Nat) (W : World) : (Instr.build 30 #[(0, .int .u16 i), (5, .bool b), (8, .slice a n c)]).run Tryz.prog W = .ok (.agg #[.int .u16 i, .bool false, .int .i64 0, .bool false, .bool false, .bool b, .bool false, .int .i64 0, .slice a n c, .slice none 0 0, .slice none 0 0, .slice none 0 0]) W := run_build W _ _ _ (by kernel_rfl)
attribute [local go_sem] buildKQ buildKM
theorem kAsks_any (w : World) (id k : Int) (n : ByteArray) (hn : nameB n = true) (i0 : 0 ≤ id) (i1 : id ≤ 65535) (k0 : 0 ≤ k) (k1 : k ≤ 65535) :
  Calls Tryz.prog 21 #[.int .u16 id, .string n, .int .u16 k] w fun e w' => ∃ a c, e = .returned (.slice a (packL (qM1 id n k)).length c) ∧ Hid (Below w.heap.size w w' ∧ w'.ownsRow w.heap.size 5 1 (.slice a (packL (qM1 id n k)).length c) (packL (qM1 id n k)).length (bytesV (packL (qM1 id n k)))) := by
 have hb1 := (Below.refl w.heap.size w).alloc (Nat.le_refl _) (.cells #[.string n, .int .u16 k, .int .u16 1] 41)
 have HB1 := hide hb1
 have HQ : Hid (Lies (w.alloc (.cells #[.string n, .int .u16 k, .int .u16 1] 41)) 3 (.slice (some ⟨w.heap.size, 0, none⟩) 1 1) ([⟨n, k, 1⟩].map Qn.cells)) := lies_row (heap_new w _) rfl (fun x hx => by simp at hx; subst hx; rfl) rfl
 have HWF := hide (wf_one hn k0 k1 i0 i1)
 clear hb1 hn
 go_enter Tryz.func21, Tryz.ntmps21
 go_wp2_with fail
 generalize w.alloc (.cells #[.string n, .int .u16 k, .int .u16 1] 41) = W1 at HB1 HQ ⊢
 refine (tpack2 (qM1 id n k) (.slice (some ⟨w.heap.size, 0, none⟩) 1 1) (.slice none 0 0) (.slice none 0 0) (.slice none 0 0) W1 HWF.out ⟨HQ.out, liesNil _ _, liesNil _ _, liesNil _ _⟩).mono ?_
 rintro e w2 ⟨hb2, a, c, rfl, ho⟩
 have HB2 := hide (HB1.out.trans (hb2.mono HB1.out.size))
 have HO := hide ho
 have hz := HB1.out.size
 clear hb2 ho
 generalize packE (qM1 id n k) = pe
 go_wp2_with fail
 go_ret
 exact ⟨a, c, rfl, HB2.out, own_base (own_zero HO.out) (fun j hj => by have := (HO.out.lt j hj).1; omega)⟩
theorem kResolver_any (w : World) (b d c t : Int) (rs : List Int) (vr : Value) (h : confOk b d c t rs) (hv : Lies w 1 vr (wordsV rs)) :
  Calls Tryz.prog 19 #[confV b d c t vr] w fun e w' => ∃ xb, e = .returned (.pointer (some ⟨xb, 0, none⟩)) ∧ Hid (∃ sb vr', KB w.heap.size w' xb sb vr' (newSt b d c t rs) ∧ Below w.heap.size w w') := by
 have hb1 := (Below.refl w.heap.size w).alloc (Nat.le_refl _) (.cells #[.int .i64 b, .int .i64 d, .int .i64 c, .int .i64 t, vr] 57)
 have HB1 := hide hb1
 have HV := hide (hv.below hb1)
 have HH := hide h
 have hc := box_cells (heap_new w (.cells #[.int .i64 b, .int .i64 d, .int .i64 c, .int .i64 t, vr] 57))
 obtain ⟨a, cp, rfl, _⟩ := (show Lies w 1 vr (wordsV rs) from hv)
 clear hb1 hv h
 unfold confV
 go_enter Tryz.func19, Tryz.ntmps19
 go_wp2_with fail
 generalize w.alloc _ = W1 at HB1 HV hc ⊢
 have hN := tNew_yes W1 b d c t rs _ HH.out HV.out
 unfold confV at hN
 refine hN.mono ?_
 clear hN hc
 rintro e w2 ⟨xb, rfl, H2⟩
 go_wp2_with fail
 go_ret
 obtain ⟨sb, vr', h1, h2, h3⟩ := H2.out
 have hz := HB1.out.size
 exact ⟨xb, rfl, sb, vr', ⟨h1, fun j hj => by have := h3 j hj; omega, Nat.le_trans hz h2.size⟩, HB1.out.trans (h2.mono hz)⟩
end Go.Proofs.YtafoepfhepdcoaaGreat
namespace Go.Proofs.YtafoepfhepdcoaaGreat
open Go.RowKit Go.Trawl
def nA : ByteArray := ⟨#[1, 97, 0]⟩
def rA : Rc := ⟨nA, 1, 1, 0, ⟨#[49, 50, 51, 52]⟩⟩
def st0 : RSt := newSt 5 0 0 1 [7]
def cA : Ch := ⟨nA, 1, rootN, [7], 1, []⟩
def st1 : RSt := { beginSt st0 (qM1 77 nA 1) ⟨nA, 1, 1⟩ with to := 7, id := 1, spent := 1, l := [cA] }
def mA : Msg := askM 1 cA
def mB : Msg := { mA with resp := true, an := [rA] }
theorem known1 : askS st0 (str (packL (qM1 77 nA 1))) = (st1, stepV 1 7 (str (packL mA)), 0) := by
 exact (ask_go (st := st0) (newSt_ok (by decide)) rfl (by decide) (by decide) (by decide) (by decide) (by decide)).trans rfl
theorem known2 : unpack (str (packL mA)) = some mA := (one_un (n := nA) (k := 1) (by decide) rfl rfl rfl rfl (by decide) (by decide) (by decide) (by decide) (by decide)).2
theorem mB_ok : packOk mB = true := by decide
theorem known3 : packL mB = pack mB ∧ packE mB = 0 ∧ unpack (str (packL mB)) = some mB := by
 have e : packL mB = pack mB := if_pos mB_ok
 refine ⟨e, if_pos mB_ok, ?_⟩
 rw [e]
 refine unpack_pack mB_ok (by decide) (by decide) (fun q hq => ?_) (fun r hr => ?_)
 ·simp [mB, mA, askM] at hq
  subst hq
  exact ⟨by decide, by decide, by decide, by decide⟩
 ·simp [mB, mA, askM, recs] at hr
  subst hr
  exact ⟨by decide, by decide, by decide, by decide, by decide, by decide⟩
theorem known4 : heardS st1 7 (str (packL mB)) = ({ st1 with busy := false }, stepV 2 0 (str (replyL (doneM st1 0 [rA]))), 0) := by
 refine (heardS_fit (st := st1) (r := []) (c := cA) rfl rfl known3.2.2 (by decide)).trans ?_
 have hfo : followsP st1 [] cA mB = foundP st1 [rA] 0 := by
  rw [followsP_eq, if_neg (by decide)]
  have hfl : mB.an.filter (ofB cA.zone cA.name cA.kind) = [rA] := by
   have h : ofB cA.zone cA.name cA.kind rA = true := by decide
   show [rA].filter _ = _
   rw [List.filter_cons, if_pos h]
   rfl
  rw [hfl, if_pos (by simp)]
  rfl
 rw [hfo]
 rfl
def mC : Msg := asReply (doneM st1 0 [rA])
theorem mC_ok : packOk mC = true := by decide
theorem known5 : replyL (doneM st1 0 [rA]) = pack mC ∧ unpack (str (replyL (doneM st1 0 [rA]))) = some mC := by
 have e : replyL (doneM st1 0 [rA]) = pack mC := by
  exact (if_pos (c := packOk (asReply (doneM st1 0 [rA])) = true) mC_ok).trans (if_pos mC_ok)
 refine ⟨e, ?_⟩
 rw [e]
 refine unpack_pack mC_ok (by decide) (by decide) (fun q hq => ?_) (fun r hr => ?_)
 ·simp [mC, asReply, doneM, st1, beginSt, qM1] at hq
  subst hq
  exact ⟨by decide, by decide, by decide, by decide⟩
 ·simp [mC, asReply, doneM, st1, beginSt, recs] at hr
  subst hr
  exact ⟨by decide, by decide, by decide, by decide, by decide, by decide⟩
theorem few (m : Msg) (h : packL m = pack m) : packL m ≠ [] ∧ (packL m).length ≤ 512 := by
 refine ⟨fun e => ?_, packL_length m⟩
 have := pack_12 m
 rw [← h, e] at this
 simp at this
theorem factsQ : packL (qM1 77 nA 1) ≠ [] ∧ (packL (qM1 77 nA 1)).length ≤ 512 := few _ (one_un (n := nA) (k := 1) (by decide) rfl rfl rfl rfl (by decide) (by decide) (by decide) (by decide) (by decide)).1
theorem factsA : packL mA ≠ [] ∧ (packL mA).length ≤ 512 ∧ unpack (str (packL mA)) = some mA := by
 have h := few mA (one_un (n := nA) (k := 1) (by decide) rfl rfl rfl rfl (by decide) (by decide) (by decide) (by decide) (by decide)).1
 exact ⟨h.1, h.2, known2⟩
theorem factsB : packL mB ≠ [] ∧ (packL mB).length ≤ 512 := few mB known3.1
theorem factsC : replyL (doneM st1 0 [rA]) ≠ [] ∧ (replyL (doneM st1 0 [rA])).length ≤ 512 ∧ unpack (str (replyL (doneM st1 0 [rA]))) = some mC := by
 have e : packL mC = pack mC := if_pos mC_ok
 have h := few mC e
 rw [e, ← known5.1] at h
 exact ⟨h.1, h.2, known5.2⟩
theorem buildKC (x y : Int) (a : Option Addr) (n c : Nat) (W : World) : (Instr.build 57 #[(0, .int .i64 x), (3, .int .i64 y), (4, .slice a n c)]).run Tryz.prog W = .ok (.agg #[.int .i64 x, .int .i64 0, .int .i64 0, .int .i64 y, .slice a n c]) W := run_build W _ _ _ (by kernel_rfl)
theorem buildKR (n d : ByteArray) (k c : Int) (W : World) : (Instr.build 69 #[(0, .string n), (1, .int .u16 k), (2, .int .u16 c), (4, .string d)]).run Tryz.prog W = .ok (.agg #[.string n, .int .u16 k, .int .u16 c, .int .u32 0, .string d]) W := run_build W _ _ _ (by kernel_rfl)
attribute [local go_sem] buildKC buildKR
theorem nameA : str (nameL ⟨#[97]⟩) = nA := rfl
theorem mB_wf : WfM mB := by
 refine ⟨by decide, by decide, by decide, by decide, by decide, by decide, by decide, by decide, by decide, by decide, fun q hq => ?_, fun r hr => ?_⟩
 ·simp [mB, mA, askM] at hq
  subst hq
  exact ⟨by decide, by decide, by decide, by decide, by decide⟩
 ·simp [mB, mA, askM, recs] at hr
  subst hr
  exact ⟨by decide, by decide, by decide, by decide, by decide, by decide, by decide, by decide⟩
theorem known_any (w : World) : Calls Tryz.prog 14 #[] w fun e w' => e = .returned (.bool true) ∧ Hid (Below w.heap.size w w') := by
 have hb1 := (Below.refl w.heap.size w).alloc (Nat.le_refl _) (.cells #[.int .u32 7] 54)
 have HB1 := hide hb1
 have HV : Hid (Lies (w.alloc (.cells #[.int .u32 7] 54)) 1 (.slice (some ⟨w.heap.size, 0, none⟩) 1 1) (wordsV [7])) := lies_row (heap_new w _) rfl (fun x hx => by simp [wordsV] at hx; subst hx; rfl) rfl
 clear hb1
 go_enter Tryz.func14, Tryz.ntmps14
 go_wp2_with fail
 generalize w.alloc _ = W1 at HB1 HV ⊢
 have hr := kResolver_any W1 5 0 0 1 [7] _ (by decide) HV.out
 unfold confV at hr
 refine hr.mono ?_
 clear hr HV
 rintro e w2 ⟨xb, rfl, H2⟩
 obtain ⟨sb, vr2, K2, hb2⟩ := H2.out
 have hz1 := HB1.out.size
 have HB2 := hide (HB1.out.trans (hb2.mono hz1))
 have HK2 := hide K2
 have hxb : xb < w2.heap.size := K2.lt (.inl rfl)
 have hz2 := HB2.out.size
 clear H2 hb2 K2 HB1
 generalize W1.heap.size = B at HK2 hz1
 clear W1
 go_wp2_with fail
 refine (kName_any w2 ⟨#[97]⟩ (by decide)).mono ?_
 rintro e w3 ⟨rfl, H3⟩
 have HB3 := hide (HB2.out.trans (H3.out.mono hz2))
 have HK3 := hide (HK2.out.below H3.out)
 have hz3 := H3.out.size
 clear H3 HB2 HK2
 rw [nameA]
 go_wp2_with fail
 have ha := kAsks_any w3 77 1 nA (by decide) (by decide) (by decide) (by decide) (by decide)
 have hQ := factsQ
 have h1 := known1
 have hA := factsA
 generalize packL (qM1 77 nA 1) = lQ at ha hQ h1
 generalize packL mA = lA at h1 hA
 have H1 := hide h1
 have HA := hide hA
 clear h1 hA
 refine ha.mono ?_
 clear ha
 rintro e w4 ⟨a4, c4, rfl, H4⟩
 have HB4 := hide (HB3.out.trans (H4.out.1.mono HB3.out.size))
 have HK4 := hide (HK3.out.below H4.out.1)
 obtain ⟨b4, rfl, hby, hcap, hlt⟩ := own_bytes (own_zero H4.out.2) hQ.1
 have hb4 : w3.heap.size ≤ b4 := (H4.out.2.lt b4 rfl).1
 have HBY := hide hby
 clear H4 HB3 HK3 hby
 have hsz := hQ.2
 go_wp2_with fail
 have hpa := (pAsk_any w4 xb sb b4 c4 vr2 st0 (str lQ) HK4.out.at_ (newSt_ok (by decide)) (by show lQ.length ≤ _; omega) hcap hlt HBY.out (by omega))
 rw [H1.out] at hpa
 refine hpa.mono ?_
 clear hpa
 rintro e w5 ⟨k5, t5, a5, l5, c5, rfl, H5⟩
 have hv := H5.out.1
 dsimp only at hv
 obtain ⟨rfl, rfl, hl5⟩ := stepV_inj hv.symm
 have hl5 := (str_inj hl5).symm
 subst hl5
 obtain ⟨vr5, sp5⟩ := H5.out.2
 dsimp only at sp5
 have S5 := hide (HK4.out.spoke sp5)
 have HB5 := hide (HB4.out.trans (S5.out.below.mono (by have := HK4.out.lo xb (.inl rfl); omega)))
 have hx5 : xb < w5.heap.size := S5.out.kb.lt (.inl rfl)
 have hz5 := HB5.out.size
 clear H5 hv sp5 HB4 HK4 HBY
 obtain ⟨b5, rfl, hby5, hcap5, hlt5⟩ := own_bytes S5.out.own HA.out.1
 have hn5 : ¬ pOwns xb sb vr5 b5 := S5.out.apart b5 rfl
 have HBY5 := hide hby5
 have hszA := HA.out.2.1
 have HK5 := hide S5.out.kb
 clear S5 hby5
 have hb6 := (Below.refl w5.heap.size w5).alloc (Nat.le_refl _) (.cells #[.int .i64 1, .int .u32 7, .slice (some ⟨b5, 0, none⟩) lA.length c5] 59)
 have HX6 := hide (heap_new w5 (.cells #[.int .i64 1, .int .u32 7, .slice (some ⟨b5, 0, none⟩) lA.length c5] 59))
 have HB6 := hide (HB5.out.trans (hb6.mono hz5))
 have HK6 := hide (HK5.out.below hb6)
 have HBY6 := hide (HBY5.out.below hlt5 hb6)
 have hz6 := hb6.size
 have hcx := box_cells HX6.out
 clear hb6 HB5 HK5 HBY5
 unfold stepX
 go_wp2_with fail
 generalize w5.alloc _ = W6 at HX6 HB6 HK6 HBY6 hz6 hcx ⊢
 refine (tUnpack2 W6 b5 c5 (str lA) (by show lA.length ≤ _; omega) hcap5 (by omega) HBY6.out).mono ?_
 rw [(unM_of HA.out.2.2).1, (unM_of HA.out.2.2).2]
 rintro e w7 ⟨aq, cq, aa, ca, au, cu, ax, cx, rfl, H7⟩
 have R7 := H7.out.2.2
 have HB7 := hide (HB6.out.trans (H7.out.1.mono HB6.out.size))
 have HK7 := hide (HK6.out.below H7.out.1)
 have HX7 := hide ((H7.out.1.block _ (heap_lt HX6.out)).trans HX6.out)
 have hz7 := H7.out.1.size
 have HR7 := hide R7
 clear R7 H7 HB6 HK6 HX6 HBY6 hcx
 rw [show msgCells mA (.slice aq mA.qs.length cq) (.slice aa mA.an.length ca) (.slice au mA.au.length cu) (.slice ax mA.ex.length cx) = #[.int .u16 1, .bool false, .int .i64 0, .bool false, .bool false, .bool false, .bool false, .int .i64 0, .slice aq 1 cq, .slice aa 0 ca, .slice au 0 cu, .slice ax 0 cx] from rfl]
 go_wp2_with fail
 have hb8 := (Below.refl w7.heap.size w7).alloc (Nat.le_refl _) (.cells #[.int .u16 1, .bool true, .int .i64 0, .bool false, .bool false, .bool false, .bool false, .int .i64 0, .slice aq 1 cq, .slice aa 0 ca, .slice au 0 cu, .slice ax 0 cx] 30)
 have HM8 := hide (heap_new w7 (.cells #[.int .u16 1, .bool true, .int .i64 0, .bool false, .bool false, .bool false, .bool false, .int .i64 0, .slice aq 1 cq, .slice aa 0 ca, .slice au 0 cu, .slice ax 0 cx] 30))
 have HQ8 := hide (own_lies (es := ([⟨nA, 1, 1⟩] : List Qn).map Qn.cells) HR7.out.q (fun x hx => by simp at hx; subst hx; rfl) rfl)
 have HU8 : Hid (Lies w7 5 (.slice au 0 cu) [] ∧ Lies w7 5 (.slice ax 0 cx) []) := ⟨own_lies (es := []) HR7.out.u (by simp) rfl, own_lies (es := []) HR7.out.x (by simp) rfl⟩
 have HLB : Hid (∀ j, ((Value.slice aq 1 cq).ownBlock = some j ∨ (Value.slice au 0 cu).ownBlock = some j ∨ (Value.slice ax 0 cx).ownBlock = some j) → j < w7.heap.size) := fun j hj => by
  rcases hj with hj | hj | hj
  ·exact (HR7.out.q.lt j hj).2
  ·exact (HR7.out.u.lt j hj).2
  ·exact (HR7.out.x.lt j hj).2
 have hnM : ¬ pOwns xb sb vr5 w7.heap.size := fun e => by have := HK7.out.lt e; omega
 have HB8 := hide (HB7.out.trans (hb8.mono HB7.out.size))
 have HK8 := hide (HK7.out.below hb8)
 have HX8 := hide ((hb8.block _ (heap_lt HX7.out)).trans HX7.out)
 have HQ8' := hide (HQ8.out.below hb8)
 have HU8' := hide (And.intro (HU8.out.1.below hb8) (HU8.out.2.below hb8))
 have hz8 := hb8.size
 have hM8 := heap_lt HM8.out
 clear hb8 HB7 HK7 HX7 HQ8 HU8 HR7
 generalize w7.alloc _ = W8 at HM8 HB8 HK8 HX8 HQ8' HU8' hz8 hM8 ⊢
 generalize w7.heap.size = M at HM8 hM8 hz7 hz8 HLB hnM ⊢
 refine (kName_any W8 ⟨#[97]⟩ (by decide)).mono ?_
 rintro e w9 ⟨rfl, H9⟩
 rw [nameA]
 go_wp2_with (with_reducible refine stop_store _ (.tmp 63) _ rfl ?_)
 unfold Stopped
 have hb9 := H9.out.trans (((Below.refl w9.heap.size w9).alloc (Nat.le_refl _) (.cells #[.string nA, .int .u16 1, .int .u16 1, .int .u32 0, .string ⟨#[49, 50, 51, 52]⟩] 69)).mono H9.out.size)
 have HR9 : Hid (Lies (w9.alloc (.cells #[.string nA, .int .u16 1, .int .u16 1, .int .u32 0, .string ⟨#[49, 50, 51, 52]⟩] 69)) 5 (.slice (some ⟨w9.heap.size, 0, none⟩) 1 1) ([rA].map Rc.cells)) := lies_row (heap_new w9 _) rfl (fun x hx => by simp at hx; subst hx; rfl) rfl
 have HM9 := hide ((hb9.block _ hM8).trans HM8.out)
 have HB9 := hide (HB8.out.trans (hb9.mono HB8.out.size))
 have HK9 := hide (HK8.out.below hb9)
 have HX9 := hide ((hb9.block _ (heap_lt HX8.out)).trans HX8.out)
 have HQ9 := hide (HQ8'.out.below hb9)
 have HU9 := hide (And.intro (HU8'.out.1.below hb9) (HU8'.out.2.below hb9))
 have hz9 := H9.out.size
 have hz9' : w9.heap.size < (w9.alloc (.cells #[.string nA, .int .u16 1, .int .u16 1, .int .u32 0, .string ⟨#[49, 50, 51, 52]⟩] 69)).heap.size := heap_lt (heap_new w9 _)
 clear hb9 H9 HM8 HB8 HK8 HX8 HQ8' HU8'
 generalize w9.alloc _ = W9 at HR9 HM9 HB9 HK9 HX9 HQ9 HU9 hz9' ⊢
 generalize w9.heap.size = R at HR9 hz9 hz9' ⊢
 have hG := grownBy_setCell W9 M 9 (.slice (some ⟨R, 0, none⟩) 1 1)
 have hc9 := box_cells HM9.out
 have hf9 := frozen_of_block HM9.out
 go_wp2_with fail
 have HM10 := hide (heap_setCell_eq (j := 9) HM9.out (.slice (some ⟨R, 0, none⟩) 1 1))
 have HB10 := hide (HB9.out.trans (kb_put hG (by omega) HB9.out.size))
 have HK10 := hide (HK9.out.aside hG hnM)
 have hkp : ∀ j, j < W9.heap.size → j ≠ M → (W9.setCell ⟨M, 9, none⟩ (.slice (some ⟨R, 0, none⟩) 1 1)).heap[j]? = W9.heap[j]? := fun j hj hne => hG.block j hj (fun e => hne (Option.some.inj e))
 have HAT : Hid (MsgAt (W9.setCell ⟨M, 9, none⟩ (.slice (some ⟨R, 0, none⟩) 1 1)) mB (.slice aq 1 cq) (.slice (some ⟨R, 0, none⟩) 1 1) (.slice au 0 cu) (.slice ax 0 cx)) :=
  ⟨HQ9.out.keep hG.size (fun j e hj => hkp j hj (fun h => by have := HLB.out j (.inl e); omega)), HR9.out.keep hG.size (fun j e hj => hkp j hj (fun h => by have := Option.some.inj e; simp at this; omega)),
   HU9.out.1.keep hG.size (fun j e hj => hkp j hj (fun h => by have := HLB.out j (.inr (.inl e)); omega)), HU9.out.2.keep hG.size (fun j e hj => hkp j hj (fun h => by have := HLB.out j (.inr (.inr e)); omega))⟩
 have hz10 := hG.size
 clear hG hkp hc9 hf9 HM9 HB9 HK9 HX9 HQ9 HU9 HR9
 generalize W9.setCell ⟨M, 9, none⟩ (.slice (some ⟨R, 0, none⟩) 1 1) = W10 at HM10 HB10 HK10 HAT hz10 ⊢
 have hp := tpack2 mB (.slice aq 1 cq) (.slice (some ⟨R, 0, none⟩) 1 1) (.slice au 0 cu) (.slice ax 0 cx) W10 mB_wf HAT.out
 rw [known3.2.1] at hp
 have h4 := known4
 have hB := factsB
 have hC := factsC
 generalize packL mB = lB at hp h4 hB
 generalize replyL (doneM st1 0 [rA]) = lC at h4 hC
 have H4 := hide h4
 have HB := hide hB
 have HC := hide hC
 clear h4 hB hC
 refine hp.mono ?_
 clear hp
 rintro e w11 ⟨hb11, a11, c11, rfl, ho11⟩
 have HB11 := hide (HB10.out.trans (hb11.mono HB10.out.size))
 have HK11 := hide (HK10.out.below hb11)
 obtain ⟨b11, rfl, hby11, hcap11, hlt11⟩ := own_bytes (own_zero ho11) HB.out.1
 have hszB := HB.out.2
 have hb11' : W10.heap.size ≤ b11 := (ho11.lt b11 rfl).1
 have HBY11 := hide hby11
 clear hby11 ho11 hb11 HAT HM10 HB10 HK10
 go_wp2_with fail
 have hpa := (pHeard_any w11 xb sb b11 c11 vr5 st1 7 (str lB) HK11.out.at_ (by show lB.length ≤ _; omega) hcap11 hlt11 HBY11.out (by omega))
 rw [H4.out] at hpa
 refine hpa.mono ?_
 clear hpa
 rintro e w12 ⟨k12, t12, a12, l12, c12, rfl, H12⟩
 have hv := H12.out.1
 dsimp only at hv
 obtain ⟨rfl, rfl, hl12⟩ := stepV_inj hv.symm
 have hl12 := (str_inj hl12).symm
 subst hl12
 obtain ⟨vr12, sp12⟩ := H12.out.2
 have S12 := hide (HK11.out.spoke sp12)
 have HB12 := hide (HB11.out.trans (S12.out.below.mono (by have := HK11.out.lo xb (.inl rfl); omega)))
 obtain ⟨b12, rfl, hby12, hcap12, hlt12⟩ := own_bytes S12.out.own HC.out.1
 have HBY12 := hide hby12
 have hszC := HC.out.2.1
 clear H12 hv sp12 HB11 HK11 HBY11 hby12 S12
 have hb13 := (Below.refl w12.heap.size w12).alloc (Nat.le_refl _) (.cells #[.int .i64 2, .int .u32 0, .slice (some ⟨b12, 0, none⟩) lC.length c12] 59)
 have HX13 := hide (heap_new w12 (.cells #[.int .i64 2, .int .u32 0, .slice (some ⟨b12, 0, none⟩) lC.length c12] 59))
 have HB13 := hide (HB12.out.trans (hb13.mono HB12.out.size))
 have HBY13 := hide (HBY12.out.below hlt12 hb13)
 have hz13 := hb13.size
 have hcx := box_cells HX13.out
 clear hb13 HB12 HBY12
 unfold stepX
 go_wp2_with fail
 generalize w12.alloc _ = W13 at HX13 HB13 HBY13 hz13 hcx ⊢
 refine (tUnpack2 W13 b12 c12 (str lC) (by show lC.length ≤ _; omega) hcap12 (by omega) HBY13.out).mono ?_
 rw [(unM_of HC.out.2.2).1, (unM_of HC.out.2.2).2]
 rintro e w14 ⟨aq', cq', aa', ca', au', cu', ax', cx', rfl, H14⟩
 have HB14 := hide (HB13.out.trans (H14.out.1.mono HB13.out.size))
 have HR14 := hide H14.out.2.2
 clear H14 HB13 HX13 HBY13 hcx
 rw [show msgCells mC (.slice aq' mC.qs.length cq') (.slice aa' mC.an.length ca') (.slice au' mC.au.length cu') (.slice ax' mC.ex.length cx') = #[.int .u16 77, .bool true, .int .i64 0, .bool false, .bool false, .bool true, .bool true, .int .i64 0, .slice aq' 1 cq', .slice aa' 1 ca', .slice au' 0 cu', .slice ax' 0 cx'] from rfl]
 have hla := own_lies (es := ([rA] : List Rc).map Rc.cells) HR14.out.a (fun x hx => by simp at hx; subst hx; rfl) rfl
 obtain ⟨_, _, hva, _, hlie⟩ := hla
 rcases hlie with he | ⟨b14, off14, he, hbl14, hc14⟩
 ·simp at he
 rw [he] at hva
 have hv2 : (Value.slice aa' 1 ca') = .slice (some ⟨b14, off14, none⟩) 1 _ := hva
 injection hv2 with hv2
 subst hv2
 obtain ⟨_, _, _, _, d4⟩ := Lies.rat hc14 (show ([rA] : List Rc)[0]? = some rA from rfl)
 have hb15 := (Below.refl w14.heap.size w14).alloc (Nat.le_refl _) (.cells #[.int .u16 77, .bool true, .int .i64 0, .bool false, .bool false, .bool true, .bool true, .int .i64 0, .slice aq' 1 cq', .slice (some ⟨b14, off14, none⟩) 1 ca', .slice au' 0 cu', .slice ax' 0 cx'] 30)
 have HB15 := hide (HB14.out.trans (hb15.mono HB14.out.size))
 have d4' := (cell_of_heap (hb15.block b14 hbl14) d4)
 go_wp2_with fail
 go_ret
 have e : (rA.data.toList == [49, 50, 51, 52]) = true := by decide +kernel
 rw [e]
 exact ⟨rfl, HB15.out⟩
end Go.Proofs.YtafoepfhepdcoaaGreat
namespace Go.Proofs.YtafoepfhepdcoaaGreat
open Go.RowKit Go.Trawl
def pkN (c : Int) (n : Nat) : Nat := ((if c < 0 then -(c + 1) else c) % (n : Int)).toNat
theorem pkN_lt {c : Int} {n : Nat} (h : 1 ≤ n) : pkN c n < n := by
 unfold pkN
 have := Int.emod_lt_of_pos (if c < 0 then -(c + 1) else c) (show (0 : Int) < n by omega)
 have := Int.emod_nonneg (if c < 0 then -(c + 1) else c) (show (n : Int) ≠ 0 by omega)
 omega
theorem kPick_any (c : Int) (n : Nat) (h1 : 1 ≤ n) (h2 : n ≤ 1000) (c0 : -9223372036854775808 ≤ c) (c1 : c ≤ 9223372036854775807) (w : World) :
  Calls Tryz.prog 18 #[.int .i64 c, .int .i64 n] w fun e w' => e = .returned (.int .i64 (pkN c n : Nat)) ∧ w' = w := by
 have hn : ¬ (n : Int) = 0 := by omega
 by_cases hc : c < 0
 ·have hw : IntKind.i64.wrap (-(IntKind.i64.wrap (c + 1))) = -(c + 1) := by rw [IntKind.wrap_i64, IntKind.wrap_i64]; omega
  go_enter Tryz.func18, Tryz.ntmps18
  go_wp2
  go_ret
  have hx : -(c + 1).tmod (n : Int) = ((pkN c n : Nat) : Int) := by
   unfold pkN
   rw [if_pos hc, ← Int.neg_tmod, Int.tmod_eq_emod_of_nonneg (by omega), Int.toNat_of_nonneg (Int.emod_nonneg _ hn)]
  exact ⟨congrArg (fun x => Ending.returned (.int .i64 x)) hx, rfl⟩
 ·go_enter Tryz.func18, Tryz.ntmps18
  go_wp2
  go_ret
  have hx : c % (n : Int) = ((pkN c n : Nat) : Int) := by
   unfold pkN
   rw [if_neg (by omega), Int.toNat_of_nonneg (Int.emod_nonneg _ hn)]
  exact ⟨congrArg (fun x => Ending.returned (.int .i64 x)) hx, rfl⟩
theorem own_put {w : World} {g n c : Nat} {l : List UInt8} (h : w.ownsRow 0 5 1 (.slice (some ⟨g, 0, none⟩) n c) n (bytesV l)) (j : Nat) (x : UInt8) : (w.setCell ⟨g, j, none⟩ (.int .u8 (x.toNat : Int))).ownsRow 0 5 1 (.slice (some ⟨g, 0, none⟩) n c) n (bytesV (l.set j x)) := by
 have hl : (bytesV l).length = n * 1 := h.1
 rw [bytesV_length, Nat.mul_one] at hl
 refine ⟨by rw [bytesV_length, List.length_set, Nat.mul_one, hl], ?_⟩
 rcases h.2 with ⟨e, _⟩ | ⟨g', cap, cur, e, h0, hg, hc1, hc2, hc3, htk⟩
 ·cases e
 ·cases e
  refine .inr ⟨g, c, cur.setIfInBounds j (.int .u8 (x.toNat : Int)), rfl, h0, heap_setCell_eq hg _, hc1, hc2, by rw [Array.size_setIfInBounds]; exact hc3, ?_⟩
  unfold bytesV at htk ⊢
  rw [List.map_set, ← htk, Array.toList_setIfInBounds, List.take_set]
theorem row_u8 {w : World} {g n c : Nat} {l : List UInt8} (h : w.ownsRow 0 5 1 (.slice (some ⟨g, 0, none⟩) n c) n (bytesV l)) {j : Nat} (hj : j < n) : ∃ cur x, w.heap[g]? = some (.cells cur 5) ∧ w.cell? ⟨g, j, none⟩ = some (.int .u8 x) := by
 have hl : (bytesV l).length = n * 1 := h.1
 rw [bytesV_length, Nat.mul_one] at hl
 rcases h.2 with ⟨e, _⟩ | ⟨g', cap, cur, e, h0, hg, hc1, hc2, hc3, htk⟩
 ·cases e
 ·cases e
  refine ⟨cur, (l[j]'(by omega)).toNat, hg, ?_⟩
  rw [box_cells hg j]
  have e1 : cur[j]? = (cur.toList.take (n * 1))[j]? := by
   rw [List.getElem?_take, if_pos (by omega)]
   simp
  rw [e1, htk]
  unfold bytesV
  rw [List.getElem?_map, List.getElem?_eq_getElem (by omega)]
  rfl
structure BX (w wr : World) (B xb sb X C : Nat) (cf : Array Value) (vr : PV) (st : RSt) (k t : Int) (v : Value) : Prop where
 below : Below w.heap.size w wr
 lo : w.heap.size ≤ B
 kb : KB B wr xb sb vr st
 box : wr.heap[X]? = some (.cells #[.int .i64 k, .int .u32 t, v] 59)
 cbox : wr.heap[C]? = some (.cells cf 57)
 nx : ¬ pOwns xb sb vr X
 nc : ¬ pOwns xb sb vr C
 xlo : w.heap.size ≤ X
structure BD (w wr : World) (B xb sb X C : Nat) (cf : Array Value) (vr : PV) (st : RSt) (k t : Int) (v : Value) (l : List UInt8) : Prop where
 bx : BX w wr B xb sb X C cf vr st k t v
 own : wr.ownsRow 0 5 1 v l.length (bytesV l)
 apart : ∀ j, v.ownBlock = some j → ¬ pOwns xb sb vr j ∧ j ≠ X ∧ j ≠ C ∧ w.heap.size ≤ j
section
variable {w wr wr' : World} {B xb sb X C : Nat} {cf : Array Value} {vr vr' : PV} {st st' : RSt} {k t k' t' : Int} {v v' : Value} {l l' : List UInt8}
theorem BX.next (h : BX w wr B xb sb X C cf vr st k t v) (hb : Below wr.heap.size wr wr') : BX w wr' B xb sb X C cf vr st k t v :=
 { h with below := h.below.trans (hb.mono h.below.size), kb := h.kb.below hb, box := (hb.block _ (heap_lt h.box)).trans h.box, cbox := (hb.block _ (heap_lt h.cbox)).trans h.cbox }
theorem BX.put (h : BX w wr B xb sb X C cf vr st k t v) {j : Nat} (hw : wr.grownBy wr' (some j)) (hj : ¬ pOwns xb sb vr j ∧ j ≠ X ∧ j ≠ C ∧ w.heap.size ≤ j) : BX w wr' B xb sb X C cf vr st k t v :=
 { h with below := h.below.trans (kb_put hw hj.2.2.2 h.below.size), kb := h.kb.aside hw hj.1, box := (hw.block _ (heap_lt h.box) (fun e => hj.2.1 (Option.some.inj e).symm)).trans h.box, cbox := (hw.block _ (heap_lt h.cbox) (fun e => hj.2.2.1 (Option.some.inj e).symm)).trans h.cbox }
theorem BX.turn (h : BX w wr B xb sb X C cf vr st k t v) (hxc : X ≠ C) (sp : Spoke wr wr' xb sb vr vr' st' v' l') : wr'.heap[X]? = some (.cells #[.int .i64 k, .int .u32 t, v] 59) ∧ BD w (put3 wr' X (.int .i64 k') (.int .u32 t') v') B xb sb X C cf vr' st' k' t' v' l' := by
 have S := h.kb.spoke sp
 have hX := heap_lt h.box
 have hC := heap_lt h.cbox
 have hbx := (S.keep X hX h.nx).trans h.box
 have hG := put3_grown wr' X (.int .i64 k') (.int .u32 t') v'
 have nX : ¬ pOwns xb sb vr' X := fun e => by
  rcases S.owns X e with e | e
  ·exact h.nx e
  ·omega
 have nC : ¬ pOwns xb sb vr' C := fun e => by
  rcases S.owns C e with e | e
  ·exact h.nc e
  ·omega
 have hlo := h.lo
 have hbl := h.below.size
 refine ⟨hbx, ⟨(h.below.trans (S.below.mono h.lo)).trans (kb_put hG h.xlo (by have := S.below.size; omega)), h.lo, S.kb.aside hG nX, put3_box _ _ _ hbx, (hG.block C (by have := S.below.size; omega) (fun e => hxc (Option.some.inj e).symm)).trans ((S.keep C hC h.nc).trans h.cbox), nX, nC, h.xlo⟩, own_grown S.own hG (fun e => by have := S.new _ e; omega), fun j hj => ?_⟩
 have := S.new j hj
 exact ⟨S.apart j hj, by omega, by omega, by omega⟩
end
structure Fix (A : Msg) (cf : Int × Int × Int × Int × List Int) (st : RSt) : Prop where
 asked : st.asked = A
 conf : conf st = cf
theorem Fix.b {A : Msg} {b d c t : Int} {rs : List Int} {st : RSt} (h : Fix A (b, d, c, t, rs) st) : st.b = b ∧ st.c = c := by
 have e := h.conf
 unfold Go.Proofs.YtafoepfhepdcoaaGreat.conf at e
 simp only [Prod.mk.injEq] at e
 exact ⟨e.1, e.2.2.1⟩
inductive Goes (A : Msg) (cf : Int × Int × Int × Int × List Int) (n : Nat) (st : RSt) : Nat → Nat → Int → Int → List UInt8 → Prop
 | sent {i s : Nat} {l : List UInt8} (live : Live st) (busy : st.busy = true) (fix : Fix A cf st) (hs : s + 1 = st.spent) (hi : i ≤ n + st.spent) (says : ∃ r c, st.l = r ++ [c] ∧ l = packL (askM st.id c)) : Goes A cf n st i s 1 st.to l
 | quiet {i s : Nat} (live : Live st) (busy : st.busy = true) (fix : Fix A cf st) (hs : s = st.spent) (hi : i ≤ n + st.spent) (h1 : 1 ≤ s) : Goes A cf n st i s 0 0 []
 | over {i s : Nat} {l : List UInt8} (h1 : 1 ≤ s) (hb : (s : Int) ≤ cf.1) (hc0 : 0 ≤ cf.2.2.1) (hi : i ≤ n + 201) (says : ∃ code an, (code = 0 ∨ (an.length : Int) ≤ cf.2.2.1) ∧ 0 ≤ code ∧ code ≤ 3 ∧ (∀ r ∈ an, WfR r) ∧ an.length ≤ 100000 ∧ l = replyL ⟨A.id, false, 0, false, false, A.wanted, true, code, A.qs, an, [], []⟩) : Goes A cf n st i s 2 0 l
theorem goes_comes {A : Msg} {b d c t : Int} {rs : List Int} {n : Nat} {st : RSt} {p : RSt × Value} (h : Comes st p) (live : Live st) (fix : Fix A (b, d, c, t, rs) st) (h1 : 1 ≤ st.spent) {i : Nat} (hi : i ≤ n + st.spent) {k t' : Int} {l : List UInt8} (hv : p.2 = stepV k t' (str l)) : Goes A (b, d, c, t, rs) n p.1 (i + 1) st.spent k t' l := by
 rcases h with h | h
 ·obtain ⟨r, ch, e1, e2⟩ := h.says
  rw [e2] at hv
  obtain ⟨rfl, rfl, e3⟩ := stepV_inj hv
  have e3 := str_inj e3
  refine .sent h.live h.busy ⟨h.asked.trans fix.asked, h.conf.trans fix.conf⟩ h.spent.symm (by rw [h.spent]; omega) ⟨r, ch, e1, e3.symm⟩
 ·obtain ⟨code, an, q1, q2, q3, q4, q5, e2⟩ := h.says
  rw [e2] at hv
  obtain ⟨rfl, rfl, e3⟩ := stepV_inj hv
  have e3 := str_inj e3
  have hb := live.base.spent
  obtain ⟨f1, f2⟩ := fix.b
  refine .over h1 (by rw [f1] at hb; exact hb) (by have := live.base.c0; rw [f2] at this; exact this) (by have := live.base.spent; have := live.base.b1; omega) ⟨code, an, by rw [← f2]; exact q1, q2, q3, q4, q5, ?_⟩
  rw [← e3]
  unfold ansM
  rw [fix.asked]
theorem live_spent {A : Msg} {cf : Int × Int × Int × Int × List Int} {n i s : Nat} {st : RSt} {k t : Int} {l : List UInt8} (h : Goes A cf n st i s k t l) (hk : k ≠ 2) : Live st ∧ st.busy = true ∧ Fix A cf st ∧ 1 ≤ st.spent ∧ i ≤ n + st.spent ∧ st.spent ≤ 200 := by
 have key : ∀ (live : Live st), st.spent ≤ 200 := fun live => by have := live.base.spent; have := live.base.b1; omega
 cases h with
 | sent live busy fix hs hi says => exact ⟨live, busy, fix, by omega, hi, key live⟩
 | quiet live busy fix hs hi h1 => exact ⟨live, busy, fix, by omega, hi, key live⟩
 | over => exact absurd rfl hk
theorem over_un {A : Msg} {q : Qn} (hA : WfM A) (hq : A.qs = [q]) (hn : NamedQ q) {code : Int} {an : List Rc} (c0 : 0 ≤ code) (c3 : code ≤ 3) (hr : ∀ r ∈ an, WfR r) :
  ∃ m : Msg, unpack (str (replyL ⟨A.id, false, 0, false, false, A.wanted, true, code, A.qs, an, [], []⟩)) = some m ∧ m.id = A.id ∧ m.resp = true ∧ m.qs = [q] ∧ m.code = code ∧ (m.an = an ∨ m.an = []) := by
 have hz := (nameB_size hn.1).2
 have hnq : ∀ x ∈ A.qs, NumQ x := fun x hx => by
  rw [hq, List.mem_singleton] at hx
  subst hx
  exact ⟨hn.2.1, hn.2.2.1, hn.2.2.2.1, hn.2.2.2.2⟩
 unfold replyL
 by_cases hok : packOk (asReply ⟨A.id, false, 0, false, false, A.wanted, true, code, A.qs, an, [], []⟩) = true
 ·rw [if_pos hok]
  refine ⟨asReply ⟨A.id, false, 0, false, false, A.wanted, true, code, A.qs, an, [], []⟩, ?_, rfl, rfl, hq, rfl, .inl rfl⟩
  have e : packL (asReply ⟨A.id, false, 0, false, false, A.wanted, true, code, A.qs, an, [], []⟩) = pack (asReply ⟨A.id, false, 0, false, false, A.wanted, true, code, A.qs, an, [], []⟩) := if_pos hok
  rw [e]
  refine unpack_pack hok hA.id0 hA.id1 hnq (fun r h => ?_)
  have : r ∈ an := by simpa [recs, asReply] using h
  have := hr r this
  exact ⟨this.k0, this.k1, this.c0, this.c1, this.t0, this.t1⟩
 ·rw [if_neg hok]
  have hok2 : packOk (asCut ⟨A.id, false, 0, false, false, A.wanted, true, code, A.qs, an, [], []⟩) = true := by
   unfold packOk inRange body recs asCut
   dsimp only
   rw [hq]
   simp [okQ, hn.1, length_qbytes]
   omega
  refine ⟨asCut ⟨A.id, false, 0, false, false, A.wanted, true, code, A.qs, an, [], []⟩, ?_, rfl, rfl, hq, rfl, .inr rfl⟩
  have e : packL (asCut ⟨A.id, false, 0, false, false, A.wanted, true, code, A.qs, an, [], []⟩) = pack (asCut ⟨A.id, false, 0, false, false, A.wanted, true, code, A.qs, an, [], []⟩) := if_pos hok2
  rw [e]
  exact unpack_pack hok2 hA.id0 hA.id1 hnq (fun r h => by simp [recs, asCut] at h)
theorem over_len {m : Msg} {s : ByteArray} (l : List UInt8) (h : s = str l) (hu : unpack s = some m) : l ≠ [] := fun e => by
 subst h
 rw [e] at hu
 have : unpack (str []) = none := by decide
 rw [this] at hu
 cases hu
theorem replyL_len (m : Msg) : (replyL m).length ≤ 512 := by
 unfold replyL
 split <;> exact packL_length _
theorem goes_over {id : Int} {n : ByteArray} {b d c t : Int} {rs : List Int} {N i s : Nat} {st : RSt} {k t' : Int} {l : List UInt8} (h : Goes (qM1 id n 1) (b, d, c, t, rs) N st i s k t' l) (hk : k = 2) (hn : nameB n = true) (i0 : 0 ≤ id) (i1 : id ≤ 65535) :
  1 ≤ s ∧ (s : Int) ≤ b ∧ l ≠ [] ∧ l.length ≤ 512 ∧ ∃ m : Msg, unpack (str l) = some m ∧ m.id = id ∧ m.resp = true ∧ m.qs = [⟨n, 1, 1⟩] ∧ (m.code = 0 ∨ (m.code ≠ 0 ∧ (m.an.length : Int) ≤ c)) ∧ m.an.length ≤ 100000 ∧ 0 ≤ c ∧ i ≤ N + 201 := by
 cases h with
 | sent live busy fix hs hi says => exact absurd hk (by decide)
 | quiet live busy fix hs hi h1 => exact absurd hk (by decide)
 | over h1 hb hc0 hi says =>
  obtain ⟨code, an, q1, q2, q3, q4, q5, e⟩ := says
  obtain ⟨m, u1, u2, u3, u4, u5, u6⟩ := over_un (A := qM1 id n 1) (wf_one hn (by decide) (by decide) i0 i1) (q := ⟨n, 1, 1⟩) rfl ⟨hn, by simp, by simp, by simp, by simp⟩ q2 q3 q4
  rw [← e] at u1
  refine ⟨h1, hb, over_len l rfl u1, by rw [e]; exact replyL_len _, m, u1, u2, u3, u4, ?_, ?_, hc0, hi⟩
  ·by_cases h0 : m.code = 0
   ·exact .inl h0
   ·refine .inr ⟨h0, ?_⟩
    rcases q1 with q1 | q1
    ·exact absurd (u5.trans q1) h0
    ·rcases u6 with u6 | u6
     ·rw [u6]; exact q1
     ·rw [u6]; exact hc0
  ·rcases u6 with u6 | u6
   ·rw [u6]; exact q5
   ·rw [u6]; simp
end Go.Proofs.YtafoepfhepdcoaaGreat
