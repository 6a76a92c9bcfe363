import Derived.Test.YtafoepfhepdcoaaGreatM26
import Derived.Test.YtafoepfhepdcoaaGreatM23
set_option maxRecDepth 100000
set_option maxHeartbeats 8000000
namespace Go.Proofs.YtafoepfhepdcoaaGreat
open Go.RowKit Go.Trawl
theorem lies_row {w : World} {b n sz : Nat} {ls : List (List Value)} {t : TypeId} {cs : Array Value} (h : w.heap[b]? = some (.cells cs t)) (hc : cs = ls.flatten.toArray) (hlen : ∀ x ∈ ls, x.length = sz) (hn : ls.length = n) : Lies w sz (.slice (some ⟨b, 0, none⟩) n n) ls := by
 subst hc
 refine ⟨some ⟨b, 0, none⟩, n, by rw [hn], (fun h => by cases h), .inr ⟨b, 0, rfl, heap_lt h, fun i e hi j u hj => ?_⟩⟩
 have h2 := flat_at (sz := sz) _ hlen i e j u hi hj
 rw [box_cells h, Nat.zero_add]
 simpa using h2
theorem buildKQ (n : ByteArray) (k c : Int) (W : World) : (Instr.build 41 #[(0, .string n), (1, .int .u16 k), (2, .int .u16 c)]).run Tryz.prog W = .ok (.agg #[.string n, .int .u16 k, .int .u16 c]) W := run_build W _ _ _ (by kernel_rfl)
theorem buildKM (i : Int) (b : Bool) (a : Option Addr) (n c : Nat) (W : World) : (Instr.build 30 #[(0, .int .u16 i), (5, .bool b), (8, .slice a n c)]).run Tryz.prog W = .ok (.agg #[.int .u16 i, .bool false, .int .i64 0, .bool false, .bool false, .bool b, .bool false, .int .i64 0, .slice a n c, .slice none 0 0, .slice none 0 0, .slice none 0 0]) W := run_build W _ _ _ (by kernel_rfl)
attribute [local go_sem] buildKQ buildKM
theorem kAsks_any (w : World) (id k : Int) (n : ByteArray) (hn : nameB n = true) (i0 : 0 ≤ id) (i1 : id ≤ 65535) (k0 : 0 ≤ k) (k1 : k ≤ 65535) :
  Calls Tryz.prog 21 #[.int .u16 id, .string n, .int .u16 k] w fun e w' => ∃ a c, e = .returned (.slice a (packL (qM1 id n k)).length c) ∧ Hid (Below w.heap.size w w' ∧ w'.ownsRow w.heap.size 5 1 (.slice a (packL (qM1 id n k)).length c) (packL (qM1 id n k)).length (bytesV (packL (qM1 id n k)))) := by
 have hb1 := (Below.refl w.heap.size w).alloc (Nat.le_refl _) (.cells #[.string n, .int .u16 k, .int .u16 1] 41)
 have HB1 := hide hb1
 have HQ : Hid (Lies (w.alloc (.cells #[.string n, .int .u16 k, .int .u16 1] 41)) 3 (.slice (some ⟨w.heap.size, 0, none⟩) 1 1) ([⟨n, k, 1⟩].map Qn.cells)) := lies_row (heap_new w _) rfl (fun x hx => by simp at hx; subst hx; rfl) rfl
 have HWF := hide (wf_one hn k0 k1 i0 i1)
 clear hb1 hn
 go_enter Tryz.func21, Tryz.ntmps21
 go_wp2_with fail
 generalize w.alloc (.cells #[.string n, .int .u16 k, .int .u16 1] 41) = W1 at HB1 HQ ⊢
 refine (tpack2 (qM1 id n k) (.slice (some ⟨w.heap.size, 0, none⟩) 1 1) (.slice none 0 0) (.slice none 0 0) (.slice none 0 0) W1 HWF.out ⟨HQ.out, liesNil _ _, liesNil _ _, liesNil _ _⟩).mono ?_
 rintro e w2 ⟨hb2, a, c, rfl, ho⟩
 have HB2 := hide (HB1.out.trans (hb2.mono HB1.out.size))
 have HO := hide ho
 have hz := HB1.out.size
 clear hb2 ho
 generalize packE (qM1 id n k) = pe
 go_wp2_with fail
 go_ret
 exact ⟨a, c, rfl, HB2.out, own_base (own_zero HO.out) (fun j hj => by have := (HO.out.lt j hj).1; omega)⟩
theorem kResolver_any (w : World) (b d c t : Int) (rs : List Int) (vr : Value) (h : confOk b d c t rs) (hv : Lies w 1 vr (wordsV rs)) :
  Calls Tryz.prog 19 #[confV b d c t vr] w fun e w' => ∃ xb, e = .returned (.pointer (some ⟨xb, 0, none⟩)) ∧ Hid (∃ sb vr', KB w.heap.size w' xb sb vr' (newSt b d c t rs) ∧ Below w.heap.size w w') := by
 have hb1 := (Below.refl w.heap.size w).alloc (Nat.le_refl _) (.cells #[.int .i64 b, .int .i64 d, .int .i64 c, .int .i64 t, vr] 57)
 have HB1 := hide hb1
 have HV := hide (hv.below hb1)
 have HH := hide h
 have hc := box_cells (heap_new w (.cells #[.int .i64 b, .int .i64 d, .int .i64 c, .int .i64 t, vr] 57))
 obtain ⟨a, cp, rfl, _⟩ := (show Lies w 1 vr (wordsV rs) from hv)
 clear hb1 hv h
 unfold confV
 go_enter Tryz.func19, Tryz.ntmps19
 go_wp2_with fail
 generalize w.alloc _ = W1 at HB1 HV hc ⊢
 have hN := tNew_yes W1 b d c t rs _ HH.out HV.out
 unfold confV at hN
 refine hN.mono ?_
 clear hN hc
 rintro e w2 ⟨xb, rfl, H2⟩
 go_wp2_with fail
 go_ret
 obtain ⟨sb, vr', h1, h2, h3⟩ := H2.out
 have hz := HB1.out.size
 exact ⟨xb, rfl, sb, vr', ⟨h1, fun j hj => by have := h3 j hj; omega, Nat.le_trans hz h2.size⟩, HB1.out.trans (h2.mono hz)⟩
end Go.Proofs.YtafoepfhepdcoaaGreat
namespace Go.Proofs.YtafoepfhepdcoaaGreat
open Go.RowKit Go.Trawl
def nA : ByteArray := ⟨#[1, 97, 0]⟩
def rA : Rc := ⟨nA, 1, 1, 0, ⟨#[49, 50, 51, 52]⟩⟩
def st0 : RSt := newSt 5 0 0 1 [7]
def cA : Ch := ⟨nA, 1, rootN, [7], 1, []⟩
def st1 : RSt := { beginSt st0 (qM1 77 nA 1) ⟨nA, 1, 1⟩ with to := 7, id := 1, spent := 1, l := [cA] }
def mA : Msg := askM 1 cA
def mB : Msg := { mA with resp := true, an := [rA] }
theorem known1 : askS st0 (str (packL (qM1 77 nA 1))) = (st1, stepV 1 7 (str (packL mA)), 0) := by
 exact (ask_go (st := st0) (newSt_ok (by decide)) rfl (by decide) (by decide) (by decide) (by decide) (by decide)).trans rfl
theorem known2 : unpack (str (packL mA)) = some mA := (one_un (n := nA) (k := 1) (by decide) rfl rfl rfl rfl (by decide) (by decide) (by decide) (by decide) (by decide)).2
theorem mB_ok : packOk mB = true := by decide
theorem known3 : packL mB = pack mB ∧ packE mB = 0 ∧ unpack (str (packL mB)) = some mB := by
 have e : packL mB = pack mB := if_pos mB_ok
 refine ⟨e, if_pos mB_ok, ?_⟩
 rw [e]
 refine unpack_pack mB_ok (by decide) (by decide) (fun q hq => ?_) (fun r hr => ?_)
 ·simp [mB, mA, askM] at hq
  subst hq
  exact ⟨by decide, by decide, by decide, by decide⟩
 ·simp [mB, mA, askM, recs] at hr
  subst hr
  exact ⟨by decide, by decide, by decide, by decide, by decide, by decide⟩
theorem known4 : heardS st1 7 (str (packL mB)) = ({ st1 with busy := false }, stepV 2 0 (str (replyL (doneM st1 0 [rA]))), 0) := by
 refine (heardS_fit (st := st1) (r := []) (c := cA) rfl rfl known3.2.2 (by decide)).trans ?_
 have hfo : followsP st1 [] cA mB = foundP st1 [rA] 0 := by
  rw [followsP_eq, if_neg (by decide)]
  have hfl : mB.an.filter (ofB cA.zone cA.name cA.kind) = [rA] := by
   have h : ofB cA.zone cA.name cA.kind rA = true := by decide
   show [rA].filter _ = _
   rw [List.filter_cons, if_pos h]
   rfl
  rw [hfl, if_pos (by simp)]
  rfl
 rw [hfo]
 rfl
def mC : Msg := asReply (doneM st1 0 [rA])
theorem mC_ok : packOk mC = true := by decide
theorem known5 : replyL (doneM st1 0 [rA]) = pack mC ∧ unpack (str (replyL (doneM st1 0 [rA]))) = some mC := by
 have e : replyL (doneM st1 0 [rA]) = pack mC := by
  exact (if_pos (c := packOk (asReply (doneM st1 0 [rA])) = true) mC_ok).trans (if_pos mC_ok)
 refine ⟨e, ?_⟩
 rw [e]
 refine unpack_pack mC_ok (by decide) (by decide) (fun q hq => ?_) (fun r hr => ?_)
 ·simp [mC, asReply, doneM, st1, beginSt, qM1] at hq
  subst hq
  exact ⟨by decide, by decide, by decide, by decide⟩
 ·simp [mC, asReply, doneM, st1, beginSt, recs] at hr
  subst hr
  exact ⟨by decide, by decide, by decide, by decide, by decide, by decide⟩
theorem few (m : Msg) (h : packL m = pack m) : packL m ≠ [] ∧ (packL m).length ≤ 512 := by
 refine ⟨fun e => ?_, packL_length m⟩
 have := pack_12 m
 rw [← h, e] at this
 simp at this
theorem factsQ : packL (qM1 77 nA 1) ≠ [] ∧ (packL (qM1 77 nA 1)).length ≤ 512 := few _ (one_un (n := nA) (k := 1) (by decide) rfl rfl rfl rfl (by decide) (by decide) (by decide) (by decide) (by decide)).1
theorem factsA : packL mA ≠ [] ∧ (packL mA).length ≤ 512 ∧ unpack (str (packL mA)) = some mA := by
 have h := few mA (one_un (n := nA) (k := 1) (by decide) rfl rfl rfl rfl (by decide) (by decide) (by decide) (by decide) (by decide)).1
 exact ⟨h.1, h.2, known2⟩
theorem factsB : packL mB ≠ [] ∧ (packL mB).length ≤ 512 := few mB known3.1
theorem factsC : replyL (doneM st1 0 [rA]) ≠ [] ∧ (replyL (doneM st1 0 [rA])).length ≤ 512 ∧ unpack (str (replyL (doneM st1 0 [rA]))) = some mC := by
 have e : packL mC = pack mC := if_pos mC_ok
 have h := few mC e
 rw [e, ← known5.1] at h
 exact ⟨h.1, h.2, known5.2⟩
theorem buildKC (x y : Int) (a : Option Addr) (n c : Nat) (W : World) : (Instr.build 57 #[(0, .int .i64 x), (3, .int .i64 y), (4, .slice a n c)]).run Tryz.prog W = .ok (.agg #[.int .i64 x, .int .i64 0, .int .i64 0, .int .i64 y, .slice a n c]) W := run_build W _ _ _ (by kernel_rfl)
theorem buildKR (n d : ByteArray) (k c : Int) (W : World) : (Instr.build 69 #[(0, .string n), (1, .int .u16 k), (2, .int .u16 c), (4, .string d)]).run Tryz.prog W = .ok (.agg #[.string n, .int .u16 k, .int .u16 c, .int .u32 0, .string d]) W := run_build W _ _ _ (by kernel_rfl)
attribute [local go_sem] buildKC buildKR
theorem nameA : str (nameL ⟨#[97]⟩) = nA := rfl
theorem mB_wf : WfM mB := by
 refine ⟨by decide, by decide, by decide, by decide, by decide, by decide, by decide, by decide, by decide, by decide, fun q hq => ?_, fun r hr => ?_⟩
 ·simp [mB, mA, askM] at hq
  subst hq
  exact ⟨by decide, by decide, by decide, by decide, by decide⟩
 ·simp [mB, mA, askM, recs] at hr
  subst hr
  exact ⟨by decide, by decide, by decide, by decide, by decide, by decide, by decide, by decide⟩
theorem known_any (w : World) : Calls Tryz.prog 14 #[] w fun e w' => e = .returned (.bool true) ∧ Hid (Below w.heap.size w w') := by
 have hb1 := (Below.refl w.heap.size w).alloc (Nat.le_refl _) (.cells #[.int .u32 7] 54)
 have HB1 := hide hb1
 have HV : Hid (Lies (w.alloc (.cells #[.int .u32 7] 54)) 1 (.slice (some ⟨w.heap.size, 0, none⟩) 1 1) (wordsV [7])) := lies_row (heap_new w _) rfl (fun x hx => by simp [wordsV] at hx; subst hx; rfl) rfl
 clear hb1
 go_enter Tryz.func14, Tryz.ntmps14
 go_wp2_with fail
 generalize w.alloc _ = W1 at HB1 HV ⊢
 have hr := kResolver_any W1 5 0 0 1 [7] _ (by decide) HV.out
 unfold confV at hr
 refine hr.mono ?_
 clear hr HV
 rintro e w2 ⟨xb, rfl, H2⟩
 obtain ⟨sb, vr2, K2, hb2⟩ := H2.out
 have hz1 := HB1.out.size
 have HB2 := hide (HB1.out.trans (hb2.mono hz1))
 have HK2 := hide K2
 have hxb : xb < w2.heap.size := K2.lt (.inl rfl)
 have hz2 := HB2.out.size
 clear H2 hb2 K2 HB1
 generalize W1.heap.size = B at HK2 hz1
 clear W1
 go_wp2_with fail
 refine (kName_any w2 ⟨#[97]⟩ (by decide)).mono ?_
 rintro e w3 ⟨rfl, H3⟩
 have HB3 := hide (HB2.out.trans (H3.out.mono hz2))
 have HK3 := hide (HK2.out.below H3.out)
 have hz3 := H3.out.size
 clear H3 HB2 HK2
 rw [nameA]
 go_wp2_with fail
 have ha := kAsks_any w3 77 1 nA (by decide) (by decide) (by decide) (by decide) (by decide)
 have hQ := factsQ
 have h1 := known1
 have hA := factsA
 generalize packL (qM1 77 nA 1) = lQ at ha hQ h1
 generalize packL mA = lA at h1 hA
 have H1 := hide h1
 have HA := hide hA
 clear h1 hA
 refine ha.mono ?_
 clear ha
 rintro e w4 ⟨a4, c4, rfl, H4⟩
 have HB4 := hide (HB3.out.trans (H4.out.1.mono HB3.out.size))
 have HK4 := hide (HK3.out.below H4.out.1)
 obtain ⟨b4, rfl, hby, hcap, hlt⟩ := own_bytes (own_zero H4.out.2) hQ.1
 have hb4 : w3.heap.size ≤ b4 := (H4.out.2.lt b4 rfl).1
 have HBY := hide hby
 clear H4 HB3 HK3 hby
 have hsz := hQ.2
 go_wp2_with fail
 have hpa := (pAsk_any w4 xb sb b4 c4 vr2 st0 (str lQ) HK4.out.at_ (newSt_ok (by decide)) (by show lQ.length ≤ _; omega) hcap hlt HBY.out (by omega))
 rw [H1.out] at hpa
 refine hpa.mono ?_
 clear hpa
 rintro e w5 ⟨k5, t5, a5, l5, c5, rfl, H5⟩
 have hv := H5.out.1
 dsimp only at hv
 obtain ⟨rfl, rfl, hl5⟩ := stepV_inj hv.symm
 have hl5 := (str_inj hl5).symm
 subst hl5
 obtain ⟨vr5, sp5⟩ := H5.out.2
 dsimp only at sp5
 have S5 := hide (HK4.out.spoke sp5)
 have HB5 := hide (HB4.out.trans (S5.out.below.mono (by have := HK4.out.lo xb (.inl rfl); omega)))
 have hx5 : xb < w5.heap.size := S5.out.kb.lt (.inl rfl)
 have hz5 := HB5.out.size
 clear H5 hv sp5 HB4 HK4 HBY
 obtain ⟨b5, rfl, hby5, hcap5, hlt5⟩ := own_bytes S5.out.own HA.out.1
 have hn5 : ¬ pOwns xb sb vr5 b5 := S5.out.apart b5 rfl
 have HBY5 := hide hby5
 have hszA := HA.out.2.1
 have HK5 := hide S5.out.kb
 clear S5 hby5
 have hb6 := (Below.refl w5.heap.size w5).alloc (Nat.le_refl _) (.cells #[.int .i64 1, .int .u32 7, .slice (some ⟨b5, 0, none⟩) lA.length c5] 59)
 have HX6 := hide (heap_new w5 (.cells #[.int .i64 1, .int .u32 7, .slice (some ⟨b5, 0, none⟩) lA.length c5] 59))
 have HB6 := hide (HB5.out.trans (hb6.mono hz5))
 have HK6 := hide (HK5.out.below hb6)
 have HBY6 := hide (HBY5.out.below hlt5 hb6)
 have hz6 := hb6.size
 have hcx := box_cells HX6.out
 clear hb6 HB5 HK5 HBY5
 unfold stepX
 go_wp2_with fail
 generalize w5.alloc _ = W6 at HX6 HB6 HK6 HBY6 hz6 hcx ⊢
 refine (tUnpack2 W6 b5 c5 (str lA) (by show lA.length ≤ _; omega) hcap5 (by omega) HBY6.out).mono ?_
 rw [(unM_of HA.out.2.2).1, (unM_of HA.out.2.2).2]
 rintro e w7 ⟨aq, cq, aa, ca, au, cu, ax, cx, rfl, H7⟩
 have R7 := H7.out.2.2
 have HB7 := hide (HB6.out.trans (H7.out.1.mono HB6.out.size))
 have HK7 := hide (HK6.out.below H7.out.1)
 have HX7 := hide ((H7.out.1.block _ (heap_lt HX6.out)).trans HX6.out)
 have hz7 := H7.out.1.size
 have HR7 := hide R7
 clear R7 H7 HB6 HK6 HX6 HBY6 hcx
 rw [show msgCells mA (.slice aq mA.qs.length cq) (.slice aa mA.an.length ca) (.slice au mA.au.length cu) (.slice ax mA.ex.length cx) = #[.int .u16 1, .bool false, .int .i64 0, .bool false, .bool false, .bool false, .bool false, .int .i64 0, .slice aq 1 cq, .slice aa 0 ca, .slice au 0 cu, .slice ax 0 cx] from rfl]
 go_wp2_with fail
 have hb8 := (Below.refl w7.heap.size w7).alloc (Nat.le_refl _) (.cells #[.int .u16 1, .bool true, .int .i64 0, .bool false, .bool false, .bool false, .bool false, .int .i64 0, .slice aq 1 cq, .slice aa 0 ca, .slice au 0 cu, .slice ax 0 cx] 30)
 have HM8 := hide (heap_new w7 (.cells #[.int .u16 1, .bool true, .int .i64 0, .bool false, .bool false, .bool false, .bool false, .int .i64 0, .slice aq 1 cq, .slice aa 0 ca, .slice au 0 cu, .slice ax 0 cx] 30))
 have HQ8 := hide (own_lies (es := ([⟨nA, 1, 1⟩] : List Qn).map Qn.cells) HR7.out.q (fun x hx => by simp at hx; subst hx; rfl) rfl)
 have HU8 : Hid (Lies w7 5 (.slice au 0 cu) [] ∧ Lies w7 5 (.slice ax 0 cx) []) := ⟨own_lies (es := []) HR7.out.u (by simp) rfl, own_lies (es := []) HR7.out.x (by simp) rfl⟩
 have HLB : Hid (∀ j, ((Value.slice aq 1 cq).ownBlock = some j ∨ (Value.slice au 0 cu).ownBlock = some j ∨ (Value.slice ax 0 cx).ownBlock = some j) → j < w7.heap.size) := fun j hj => by
  rcases hj with hj | hj | hj
  ·exact (HR7.out.q.lt j hj).2
  ·exact (HR7.out.u.lt j hj).2
  ·exact (HR7.out.x.lt j hj).2
 have hnM : ¬ pOwns xb sb vr5 w7.heap.size := fun e => by have := HK7.out.lt e; omega
 have HB8 := hide (HB7.out.trans (hb8.mono HB7.out.size))
 have HK8 := hide (HK7.out.below hb8)
 have HX8 := hide ((hb8.block _ (heap_lt HX7.out)).trans HX7.out)
 have HQ8' := hide (HQ8.out.below hb8)
 have HU8' := hide (And.intro (HU8.out.1.below hb8) (HU8.out.2.below hb8))
 have hz8 := hb8.size
 have hM8 := heap_lt HM8.out
 clear hb8 HB7 HK7 HX7 HQ8 HU8 HR7
 generalize w7.alloc _ = W8 at HM8 HB8 HK8 HX8 HQ8' HU8' hz8 hM8 ⊢
 generalize w7.heap.size = M at HM8 hM8 hz7 hz8 HLB hnM ⊢
 refine (kName_any W8 ⟨#[97]⟩ (by decide)).mono ?_
 rintro e w9 ⟨rfl, H9⟩
 rw [nameA]
 go_wp2_with (with_reducible refine stop_store _ (.tmp 63) _ rfl ?_)
 unfold Stopped
 have hb9 := H9.out.trans (((Below.refl w9.heap.size w9).alloc (Nat.le_refl _) (.cells #[.string nA, .int .u16 1, .int .u16 1, .int .u32 0, .string ⟨#[49, 50, 51, 52]⟩] 69)).mono H9.out.size)
 have HR9 : Hid (Lies (w9.alloc (.cells #[.string nA, .int .u16 1, .int .u16 1, .int .u32 0, .string ⟨#[49, 50, 51, 52]⟩] 69)) 5 (.slice (some ⟨w9.heap.size, 0, none⟩) 1 1) ([rA].map Rc.cells)) := lies_row (heap_new w9 _) rfl (fun x hx => by simp at hx; subst hx; rfl) rfl
 have HM9 := hide ((hb9.block _ hM8).trans HM8.out)
 have HB9 := hide (HB8.out.trans (hb9.mono HB8.out.size))
 have HK9 := hide (HK8.out.below hb9)
 have HX9 := hide ((hb9.block _ (heap_lt HX8.out)).trans HX8.out)
 have HQ9 := hide (HQ8'.out.below hb9)
 have HU9 := hide (And.intro (HU8'.out.1.below hb9) (HU8'.out.2.below hb9))
 have hz9 := H9.out.size
 have hz9' : w9.heap.size < (w9.alloc (.cells #[.string nA, .int .u16 1, .int .u16 1, .int .u32 0, .string ⟨#[49, 50, 51, 52]⟩] 69)).heap.size := heap_lt (heap_new w9 _)
 clear hb9 H9 HM8 HB8 HK8 HX8 HQ8' HU8'
 generalize w9.alloc _ = W9 at HR9 HM9 HB9 HK9 HX9 HQ9 HU9 hz9' ⊢
 generalize w9.heap.size = R at HR9 hz9 hz9' ⊢
 have hG := grownBy_setCell W9 M 9 (.slice (some ⟨R, 0, none⟩) 1 1)
 have hc9 := box_cells HM9.out
 have hf9 := frozen_of_block HM9.out
 go_wp2_with fail
 have HM10 := hide (heap_setCell_eq (j := 9) HM9.out (.slice (some ⟨R, 0, none⟩) 1 1))
 have HB10 := hide (HB9.out.trans (kb_put hG (by omega) HB9.out.size))
 have HK10 := hide (HK9.out.aside hG hnM)
 have hkp : ∀ j, j < W9.heap.size → j ≠ M → (W9.setCell ⟨M, 9, none⟩ (.slice (some ⟨R, 0, none⟩) 1 1)).heap[j]? = W9.heap[j]? := fun j hj hne => hG.block j hj (fun e => hne (Option.some.inj e))
 have HAT : Hid (MsgAt (W9.setCell ⟨M, 9, none⟩ (.slice (some ⟨R, 0, none⟩) 1 1)) mB (.slice aq 1 cq) (.slice (some ⟨R, 0, none⟩) 1 1) (.slice au 0 cu) (.slice ax 0 cx)) :=
  ⟨HQ9.out.keep hG.size (fun j e hj => hkp j hj (fun h => by have := HLB.out j (.inl e); omega)), HR9.out.keep hG.size (fun j e hj => hkp j hj (fun h => by have := Option.some.inj e; simp at this; omega)),
   HU9.out.1.keep hG.size (fun j e hj => hkp j hj (fun h => by have := HLB.out j (.inr (.inl e)); omega)), HU9.out.2.keep hG.size (fun j e hj => hkp j hj (fun h => by have := HLB.out j (.inr (.inr e)); omega))⟩
 have hz10 := hG.size
 clear hG hkp hc9 hf9 HM9 HB9 HK9 HX9 HQ9 HU9 HR9
 generalize W9.setCell ⟨M, 9, none⟩ (.slice (some ⟨R, 0, none⟩) 1 1) = W10 at HM10 HB10 HK10 HAT hz10 ⊢
 have hp := tpack2 mB (.slice aq 1 cq) (.slice (some ⟨R, 0, none⟩) 1 1) (.slice au 0 cu) (.slice ax 0 cx) W10 mB_wf HAT.out
 rw [known3.2.1] at hp
 have h4 := known4
 have hB := factsB
 have hC := factsC
 generalize packL mB = lB at hp h4 hB
 generalize replyL (doneM st1 0 [rA]) = lC at h4 hC
 have H4 := hide h4
 have HB := hide hB
 have HC := hide hC
 clear h4 hB hC
 refine hp.mono ?_
 clear hp
 rintro e w11 ⟨hb11, a11, c11, rfl, ho11⟩
 have HB11 := hide (HB10.out.trans (hb11.mono HB10.out.size))
 have HK11 := hide (HK10.out.below hb11)
 obtain ⟨b11, rfl, hby11, hcap11, hlt11⟩ := own_bytes (own_zero ho11) HB.out.1
 have hszB := HB.out.2
 have hb11' : W10.heap.size ≤ b11 := (ho11.lt b11 rfl).1
 have HBY11 := hide hby11
 clear hby11 ho11 hb11 HAT HM10 HB10 HK10
 go_wp2_with fail
 have hpa := (pHeard_any w11 xb sb b11 c11 vr5 st1 7 (str lB) HK11.out.at_ (by show lB.length ≤ _; omega) hcap11 hlt11 HBY11.out (by omega))
 rw [H4.out] at hpa
 refine hpa.mono ?_
 clear hpa
 rintro e w12 ⟨k12, t12, a12, l12, c12, rfl, H12⟩
 have hv := H12.out.1
 dsimp only at hv
 obtain ⟨rfl, rfl, hl12⟩ := stepV_inj hv.symm
 have hl12 := (str_inj hl12).symm
 subst hl12
 obtain ⟨vr12, sp12⟩ := H12.out.2
 have S12 := hide (HK11.out.spoke sp12)
 have HB12 := hide (HB11.out.trans (S12.out.below.mono (by have := HK11.out.lo xb (.inl rfl); omega)))
 obtain ⟨b12, rfl, hby12, hcap12, hlt12⟩ := own_bytes S12.out.own HC.out.1
 have HBY12 := hide hby12
 have hszC := HC.out.2.1
 clear H12 hv sp12 HB11 HK11 HBY11 hby12 S12
 have hb13 := (Below.refl w12.heap.size w12).alloc (Nat.le_refl _) (.cells #[.int .i64 2, .int .u32 0, .slice (some ⟨b12, 0, none⟩) lC.length c12] 59)
 have HX13 := hide (heap_new w12 (.cells #[.int .i64 2, .int .u32 0, .slice (some ⟨b12, 0, none⟩) lC.length c12] 59))
 have HB13 := hide (HB12.out.trans (hb13.mono HB12.out.size))
 have HBY13 := hide (HBY12.out.below hlt12 hb13)
 have hz13 := hb13.size
 have hcx := box_cells HX13.out
 clear hb13 HB12 HBY12
 unfold stepX
 go_wp2_with fail
 generalize w12.alloc _ = W13 at HX13 HB13 HBY13 hz13 hcx ⊢
 refine (tUnpack2 W13 b12 c12 (str lC) (by show lC.length ≤ _; omega) hcap12 (by omega) HBY13.out).mono ?_
 rw [(unM_of HC.out.2.2).1, (unM_of HC.out.2.2).2]
 rintro e w14 ⟨aq', cq', aa', ca', au', cu', ax', cx', rfl, H14⟩
 have HB14 := hide (HB13.out.trans (H14.out.1.mono HB13.out.size))
 have HR14 := hide H14.out.2.2
 clear H14 HB13 HX13 HBY13 hcx
 rw [show msgCells mC (.slice aq' mC.qs.length cq') (.slice aa' mC.an.length ca') (.slice au' mC.au.length cu') (.slice ax' mC.ex.length cx') = #[.int .u16 77, .bool true, .int .i64 0, .bool false, .bool false, .bool true, .bool true, .int .i64 0, .slice aq' 1 cq', .slice aa' 1 ca', .slice au' 0 cu', .slice ax' 0 cx'] from rfl]
 have hla := own_lies (es := ([rA] : List Rc).map Rc.cells) HR14.out.a (fun x hx => by simp at hx; subst hx; rfl) rfl
 obtain ⟨_, _, hva, _, hlie⟩ := hla
 rcases hlie with he | ⟨b14, off14, he, hbl14, hc14⟩
 ·simp at he
 rw [he] at hva
 have hv2 : (Value.slice aa' 1 ca') = .slice (some ⟨b14, off14, none⟩) 1 _ := hva
 injection hv2 with hv2
 subst hv2
 obtain ⟨_, _, _, _, d4⟩ := Lies.rat hc14 (show ([rA] : List Rc)[0]? = some rA from rfl)
 have hb15 := (Below.refl w14.heap.size w14).alloc (Nat.le_refl _) (.cells #[.int .u16 77, .bool true, .int .i64 0, .bool false, .bool false, .bool true, .bool true, .int .i64 0, .slice aq' 1 cq', .slice (some ⟨b14, off14, none⟩) 1 ca', .slice au' 0 cu', .slice ax' 0 cx'] 30)
 have HB15 := hide (HB14.out.trans (hb15.mono HB14.out.size))
 have d4' := (cell_of_heap (hb15.block b14 hbl14) d4)
 go_wp2_with fail
 go_ret
 have e : (rA.data.toList == [49, 50, 51, 52]) = true := by decide +kernel
 rw [e]
 exact ⟨rfl, HB15.out⟩
end Go.Proofs.YtafoepfhepdcoaaGreat
namespace Go.Proofs.YtafoepfhepdcoaaGreat
open Go.RowKit Go.Trawl
theorem toList_loop (b : ByteArray) (i : Nat) (r : List UInt8) : ByteArray.toList.loop b i r = r.reverse ++ b.data.toList.drop i := by
 rw [ByteArray.toList.loop]
 split
 ·rename_i h
  rw [toList_loop b (i + 1)]
  have h' : i < b.data.toList.length := by simpa using h
  rw [List.drop_eq_getElem_cons h']
  simp [ByteArray.get!]
  have : b.data[i]! = b.data[i] := by
   have h2 : i < b.data.size := h
   exact getElem!_pos b.data i h2
  rw [this]
 ·rename_i h
  rw [List.drop_of_length_le (by simp; omega)]
  simp
termination_by b.size - i
theorem toList_eq (b : ByteArray) : b.toList = b.data.toList := by
 rw [ByteArray.toList, toList_loop]
 rfl
theorem own_block {w : World} {g n sz : Nat} {cs : Array Value} {t : TypeId} {xs : List Value} (h : w.heap[g]? = some (.cells cs t)) (hx : cs.toList = xs) (hl : xs.length = n * sz) (hm : n ≤ 1000000) : w.ownsRow 0 t sz (.slice (some ⟨g, 0, none⟩) n n) n xs := by
 subst hx
 refine ⟨hl, .inr ⟨g, n, cs, rfl, Nat.zero_le _, h, Nat.le_refl _, by unfold maxLen; omega, by rw [← hl]; simp, ?_⟩⟩
 rw [← hl]
 exact List.take_length
theorem k_apart {w : World} {e e' : TypeId} {sz sz' : Nat} {v v' : Value} {n n' : Nat} {x x' : List Value} (h : w.ownsRow 0 e sz v n x) (h' : w.ownsRow 0 e' sz' v' n' x') (hne : e ≠ e') {k : Nat} (hk : v.ownBlock = some k) (hk' : v'.ownBlock = some k) : False := by
 rcases h.2 with ⟨rfl, _⟩ | ⟨g, cap, cur, rfl, _, h5, _⟩
 ·cases hk
 ·cases hk
  rcases h'.2 with ⟨rfl, _⟩ | ⟨g', cap', cur', rfl, _, h5', _⟩
  ·cases hk'
  ·cases hk'
   rw [h5] at h5'
   injection h5' with h5'
   injection h5' with _ h5'
   exact hne h5'
def pkN (c : Int) (n : Nat) : Nat := ((if c < 0 then -(c + 1) else c) % (n : Int)).toNat
theorem pkN_lt {c : Int} {n : Nat} (h : 1 ≤ n) : pkN c n < n := by
 unfold pkN
 have := Int.emod_lt_of_pos (if c < 0 then -(c + 1) else c) (show (0 : Int) < n by omega)
 have := Int.emod_nonneg (if c < 0 then -(c + 1) else c) (show (n : Int) ≠ 0 by omega)
 omega
theorem kPick_any (c : Int) (n : Nat) (h1 : 1 ≤ n) (h2 : n ≤ 1000) (c0 : -9223372036854775808 ≤ c) (c1 : c ≤ 9223372036854775807) (w : World) :
  Calls Tryz.prog 18 #[.int .i64 c, .int .i64 n] w fun e w' => e = .returned (.int .i64 (pkN c n : Nat)) ∧ w' = w := by
 have hn : ¬ (n : Int) = 0 := by omega
 by_cases hc : c < 0
 ·have hw : IntKind.i64.wrap (-(IntKind.i64.wrap (c + 1))) = -(c + 1) := by rw [IntKind.wrap_i64, IntKind.wrap_i64]; omega
  go_enter Tryz.func18, Tryz.ntmps18
  go_wp2
  go_ret
  have hx : -(c + 1).tmod (n : Int) = ((pkN c n : Nat) : Int) := by
   unfold pkN
   rw [if_pos hc, ← Int.neg_tmod, Int.tmod_eq_emod_of_nonneg (by omega), Int.toNat_of_nonneg (Int.emod_nonneg _ hn)]
  exact ⟨congrArg (fun x => Ending.returned (.int .i64 x)) hx, rfl⟩
 ·go_enter Tryz.func18, Tryz.ntmps18
  go_wp2
  go_ret
  have hx : c % (n : Int) = ((pkN c n : Nat) : Int) := by
   unfold pkN
   rw [if_neg (by omega), Int.toNat_of_nonneg (Int.emod_nonneg _ hn)]
  exact ⟨congrArg (fun x => Ending.returned (.int .i64 x)) hx, rfl⟩
structure BX (w wr : World) (B xb sb X C : Nat) (cf : Array Value) (vr : PV) (st : RSt) (k t : Int) (v : Value) : Prop where
 below : Below w.heap.size w wr
 lo : w.heap.size ≤ B
 kb : KB B wr xb sb vr st
 box : wr.heap[X]? = some (.cells #[.int .i64 k, .int .u32 t, v] 59)
 cbox : wr.heap[C]? = some (.cells cf 57)
 nx : ¬ pOwns xb sb vr X
 nc : ¬ pOwns xb sb vr C
 xlo : w.heap.size ≤ X
structure BD (w wr : World) (B xb sb X C : Nat) (cf : Array Value) (vr : PV) (st : RSt) (k t : Int) (v : Value) (l : List UInt8) : Prop where
 bx : BX w wr B xb sb X C cf vr st k t v
 own : wr.ownsRow 0 5 1 v l.length (bytesV l)
 apart : ∀ j, v.ownBlock = some j → ¬ pOwns xb sb vr j ∧ j ≠ X ∧ j ≠ C ∧ w.heap.size ≤ j
section
variable {w wr wr' : World} {B xb sb X C : Nat} {cf : Array Value} {vr vr' : PV} {st st' : RSt} {k t k' t' : Int} {v v' : Value} {l l' : List UInt8}
theorem BX.next (h : BX w wr B xb sb X C cf vr st k t v) (hb : Below wr.heap.size wr wr') : BX w wr' B xb sb X C cf vr st k t v :=
 { h with below := h.below.trans (hb.mono h.below.size), kb := h.kb.below hb, box := (hb.block _ (heap_lt h.box)).trans h.box, cbox := (hb.block _ (heap_lt h.cbox)).trans h.cbox }
theorem BX.put (h : BX w wr B xb sb X C cf vr st k t v) {j : Nat} (hw : wr.grownBy wr' (some j)) (hj : ¬ pOwns xb sb vr j ∧ j ≠ X ∧ j ≠ C ∧ w.heap.size ≤ j) : BX w wr' B xb sb X C cf vr st k t v :=
 { h with below := h.below.trans (kb_put hw hj.2.2.2 h.below.size), kb := h.kb.aside hw hj.1, box := (hw.block _ (heap_lt h.box) (fun e => hj.2.1 (Option.some.inj e).symm)).trans h.box, cbox := (hw.block _ (heap_lt h.cbox) (fun e => hj.2.2.1 (Option.some.inj e).symm)).trans h.cbox }
theorem BX.turn (h : BX w wr B xb sb X C cf vr st k t v) (hxc : X ≠ C) (sp : Spoke wr wr' xb sb vr vr' st' v' l') : wr'.heap[X]? = some (.cells #[.int .i64 k, .int .u32 t, v] 59) ∧ BD w (put3 wr' X (.int .i64 k') (.int .u32 t') v') B xb sb X C cf vr' st' k' t' v' l' := by
 have S := h.kb.spoke sp
 have hX := heap_lt h.box
 have hC := heap_lt h.cbox
 have hbx := (S.keep X hX h.nx).trans h.box
 have hG := put3_grown wr' X (.int .i64 k') (.int .u32 t') v'
 have nX : ¬ pOwns xb sb vr' X := fun e => by
  rcases S.owns X e with e | e
  ·exact h.nx e
  ·omega
 have nC : ¬ pOwns xb sb vr' C := fun e => by
  rcases S.owns C e with e | e
  ·exact h.nc e
  ·omega
 have hlo := h.lo
 have hbl := h.below.size
 refine ⟨hbx, ⟨(h.below.trans (S.below.mono h.lo)).trans (kb_put hG h.xlo (by have := S.below.size; omega)), h.lo, S.kb.aside hG nX, put3_box _ _ _ hbx, (hG.block C (by have := S.below.size; omega) (fun e => hxc (Option.some.inj e).symm)).trans ((S.keep C hC h.nc).trans h.cbox), nX, nC, h.xlo⟩, own_grown S.own hG (fun e => by have := S.new _ e; omega), fun j hj => ?_⟩
 have := S.new j hj
 exact ⟨S.apart j hj, by omega, by omega, by omega⟩
end
structure Tr where
 zone : List Int
 has : List Int
 for_ : List Int
 server : List Int
structure TrOk (t : Tr) : Prop where
 z : t.zone.length = 12
 h : t.has.length = 12
 f : t.for_.length = 12
 s : t.server.length = 12
 rz : ∀ x ∈ t.zone, -9223372036854775808 ≤ x ∧ x ≤ 9223372036854775807
 rh : ∀ x ∈ t.has, -9223372036854775808 ≤ x ∧ x ≤ 9223372036854775807
 rf : ∀ x ∈ t.for_, -9223372036854775808 ≤ x ∧ x ≤ 9223372036854775807
 rs : ∀ x ∈ t.server, -9223372036854775808 ≤ x ∧ x ≤ 9223372036854775807
def trL (t : Tr) (v : Value) : List Value := (t.zone ++ t.has ++ t.for_ ++ t.server).map (fun x => .int .i64 x) ++ [v]
def trA (t : Tr) (v : Value) : Array Value := (trL t v).toArray
def liesS (n z : ByteArray) : Bool := decide (z.size ≤ n.size) && ((n.extract (n.size - z.size) n.size).toList == z.toList)
def zoneB (t : Tr) (i : Nat) : Bool := decide (i = 0) || decide (pkN (t.zone.getD i 0) 2 = 1)
theorem kLies_any (w : World) (n z : ByteArray) (hn : n.size ≤ 2097152) (hz : z.size ≤ 2097152) :
  Calls Tryz.prog 80 #[.string n, .string z] w fun e w' => e = .returned (.bool (liesS n z)) ∧ w' = w := by
 by_cases h : z.size ≤ n.size
 ·have hd : decide ((z.size : Int) ≤ (n.size : Int)) = true := by simp; omega
  have HL : Hid (liesS n z = ((n.extract (n.size - z.size) n.size).toList == z.toList)) := by
   unfold Hid liesS
   rw [decide_eq_true h, Bool.true_and]
  go_enter Tryz.func80, Tryz.ntmps80
  go_wp2
  go_ret
  exact ⟨by rw [HL.out]; rfl, rfl⟩
 ·have hd : decide ((z.size : Int) ≤ (n.size : Int)) = false := by simp; omega
  have HL : Hid (liesS n z = false) := by
   unfold Hid liesS
   rw [decide_eq_false h, Bool.false_and]
  go_enter Tryz.func80, Tryz.ntmps80
  go_wp2
  go_ret
  exact ⟨by rw [HL.out]; rfl, rfl⟩
theorem tr_zone {t : Tr} (h : TrOk t) (v : Value) {i : Nat} (hi : i < 12) : (trA t v)[i]? = some (.int .i64 (t.zone.getD i 0)) := by
 have hl := h.z
 unfold trA trL
 rw [List.getElem?_toArray, List.getElem?_append_left (by simp; omega), List.getElem?_map, List.append_assoc, List.append_assoc, List.getElem?_append_left (by omega), List.getElem?_eq_getElem (by omega), List.getD_eq_getElem?_getD, List.getElem?_eq_getElem (by omega)]
 rfl
theorem get_range {l : List Int} (h : l.length = 12) (hr : ∀ x ∈ l, -9223372036854775808 ≤ x ∧ x ≤ 9223372036854775807) {i : Nat} (hi : i < 12) : -9223372036854775808 ≤ l.getD i 0 ∧ l.getD i 0 ≤ 9223372036854775807 := by
 rw [List.getD_eq_getElem?_getD, List.getElem?_eq_getElem (by omega)]
 exact hr _ (List.getElem_mem _)
theorem kZone_any (w : World) (t : Tr) (v : Value) (i : Nat) (ht : TrOk t) (hi : i < 12) :
  Calls Tryz.prog 79 #[.agg (trA t v), .int .i64 i] w fun e w' => e = .returned (.bool (zoneB t i)) ∧ Hid (Below w.heap.size w w') := by
 have HB := hide ((Below.refl w.heap.size w).alloc (Nat.le_refl _) (.cells (trA t v) 49))
 have hc : (w.alloc (.cells (trA t v) 49)).cell? ⟨w.heap.size, i, none⟩ = some (.int .i64 (t.zone.getD i 0)) := (box_cells (heap_new w _) i).trans (tr_zone ht v hi)
 have hr := get_range ht.z ht.rz hi
 have HZ : Hid (zoneB t i = (decide (i = 0) || decide (pkN (t.zone.getD i 0) 2 = 1))) := rfl
 generalize t.zone.getD i 0 = z at hc hr HZ
 generalize trA t v = A at HB hc ⊢
 by_cases h0 : i = 0
 ·have HZ0 : Hid (zoneB t i = true) := by unfold Hid; rw [HZ.out, decide_eq_true h0, Bool.true_or]
  have h0' : ((i : Int) == 0) = true := by simp; exact h0
  clear h0
  go_enter Tryz.func79, Tryz.ntmps79
  go_wp2_with fail
  go_ret
  exact ⟨by rw [HZ0.out]; rfl, HB.out⟩
 ·have HZ0 : Hid (zoneB t i = decide (pkN z 2 = 1)) := by unfold Hid; rw [HZ.out, decide_eq_false h0, Bool.false_or]
  have h0' : ((i : Int) == 0) = false := by simp; exact h0
  go_enter Tryz.func79, Tryz.ntmps79
  go_wp2_with fail
  refine (kPick_any z 2 (by decide) (by decide) hr.1 hr.2 _).mono ?_
  rintro e w2 ⟨rfl, hw⟩
  have hw := hw.symm
  subst hw
  go_wp2_with fail
  go_ret
  refine ⟨?_, HB.out⟩
  rw [HZ0.out]
  congr 2
  by_cases hp : pkN z 2 = 1
  ·rw [hp]; rfl
  ·rw [decide_eq_false hp]; simp; omega
end Go.Proofs.YtafoepfhepdcoaaGreat
