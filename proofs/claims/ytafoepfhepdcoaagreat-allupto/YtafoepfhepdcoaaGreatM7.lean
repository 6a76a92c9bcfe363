import Derived.Test.YtafoepfhepdcoaaGreatM6
import Derived.Test.YtafoepfhepdcoaaGreatM3
import Derived.Test.YtafoepfhepdcoaaGreatM5
set_option maxRecDepth 100000
set_option maxHeartbeats 8000000
namespace Go.Proofs.YtafoepfhepdcoaaGreat
open Go.RowKit Go.Trawl
attribute [local go_sem] Stg.upon
theorem wirePack_any (m : Msg) (vq va vu vx : Value) (w : World) (hwf : WfM m) (hat : MsgAt w m vq va vu vx) :
  Calls Tryz.prog 30 #[.agg (mc_ m vq va vu vx)] w fun e w' => Below w.heap.size w w' ∧
   (packOk m = false → e = .returned (.tuple #[.slice none 0 0, .int .i64 1])) ∧
   (packOk m = true → ∃ v, e = .returned (.tuple #[v, .int .i64 0]) ∧ w'.ownsRow w.heap.size 5 1 v (pack m).length (bytesV (pack m))) := by
 obtain ⟨i0, hi, hz0, hz1, hz2⟩ := info_parts u8_info
 have hat0 := hat
 obtain ⟨aq, cq, hvq, -, hq⟩ := hat.q
 obtain ⟨aa, ca, hva, -, ha⟩ := hat.a
 obtain ⟨au, cu, hvu, -, hu⟩ := hat.u
 obtain ⟨ax, cx, hvx, -, hx⟩ := hat.x
 rw [List.length_map] at hvq hva hvu hvx
 subst hvq hva hvu hvx
 cases hok : packOk m with
 | false =>
  have HAT := hide (hat.below ((Below.refl _ _).alloc (Nat.le_refl _) (.cells (mc_ m (.slice aq m.qs.length cq) (.slice aa m.an.length ca) (.slice au m.au.length cu) (.slice ax m.ex.length cx)) 30)))
  have HP := hide hok
  clear hok
  go_enter Tryz.func30, Tryz.ntmps30
  unfold mc_
  go_wp2_with fail
  refine (packedSize_any m _ _ _ _ _ hwf HAT.out).mono ?_
  rintro e w1 ⟨hb1, r, rfl, -⟩
  rw [HP.out]
  go_wp2_with fail
  go_ret2
  refine ⟨((Below.refl _ _).alloc (Nat.le_refl _) _).trans (hb1.mono (by simp)), fun _ => rfl, fun h => by cases h⟩
 | true =>
  have HAT := hide (hat.below ((Below.refl _ _).alloc (Nat.le_refl _) (.cells (mc_ m (.slice aq m.qs.length cq) (.slice aa m.an.length ca) (.slice au m.au.length cu) (.slice ax m.ex.length cx)) 30)))
  have HP := hide hok
  have hr : inRange m = true ∧ m.qs.all okQ = true ∧ (recs m).all okR = true ∧ 12 + (body m).length ≤ 512 := by
   unfold packOk at hok
   simp only [Bool.and_eq_true, decide_eq_true_eq] at hok
   exact ⟨hok.1.1.1, hok.1.1.2, hok.1.2, hok.2⟩
  clear hok
  obtain ⟨hr1, hr2, hr3, hr4⟩ := hr
  have HR1 := hide (of_decide_eq_true hr1)
  have HR2 := hide hr2
  have HR3 := hide hr3
  clear hr1 hr2 hr3
  go_enter Tryz.func30, Tryz.ntmps30
  unfold mc_
  go_wp2_with fail
  refine (packedSize_any m _ _ _ _ _ hwf HAT.out).mono ?_
  rintro e w1 ⟨hb1, r, rfl, hsz⟩
  have HS := hide (hsz HP.out)
  clear hsz
  rw [HP.out]
  go_wp2_with (at_make; refine wpList_make_own _ rfl _ _ 32 rfl 0 5 i0 (.int .u8 0) 1 und_bytes hi hz0 hz1 _ _ r (12 + (body m).length) rfl rfl (by rw [HS.out]; omega) (by rw [hz2]; omega) (by unfold maxLen; omega) (Nat.zero_le _) ?_; intro w2 ho2 hg2)
  obtain ⟨M, hM⟩ : ∃ M : Obj, M = .cells (mc_ m (.slice aq m.qs.length cq) (.slice aa m.an.length ca) (.slice au m.au.length cu) (.slice ax m.ex.length cx)) 30 := ⟨_, rfl⟩
  obtain ⟨L6, hL6⟩ : ∃ L6 : Obj, L6 = .cells #[.int .u16 m.id, .int .u16 (flags m), .int .u16 m.qs.length, .int .u16 m.an.length, .int .u16 m.au.length, .int .u16 m.ex.length] 26 := ⟨_, rfl⟩
  obtain ⟨f, hf0, hf1, hf2, hfp⟩ := Stg.cover3 w2 (w2.alloc M) ((w2.alloc M).alloc L6)
  refine Stg.wp_region_stage [3, 6, 9, 12, 15, 16] (fun j w' => ∃ n, w' = (Stg.pick3 6 w2 (w2.alloc M) ((w2.alloc M).alloc L6) j).drewN n) (by kernel_rfl) (by kernel_rfl) ⟨1, rfl⟩ ?_
  have HU := hide (Stg.pick3_cover hf0 hf1 hf2 6 7)
  have hcell : ∀ k o, (f k).cell? ⟨w.heap.size, o, none⟩ = (mc_ m (.slice aq m.qs.length cq) (.slice aa m.an.length ca) (.slice au m.au.length cu) (.slice ax m.ex.length cx))[o]? := by
   have hb1' := hb1
   rw [as_] at hb1'
   have q1 : w.heap.size + 1 ≤ w1.heap.size := bx2 hb1'
   have q2 := hg2.size
   have h2 : w2.heap[w.heap.size]? = some M := by rw [hg2.block _ (by omega) (by simp), hM]; exact bx0 hb1'
   refine fun k => hfp (fun x => ∀ o, x.cell? ⟨w.heap.size, o, none⟩ = (mc_ m (.slice aq m.qs.length cq) (.slice aa m.an.length ca) (.slice au m.au.length cu) (.slice ax m.ex.length cx))[o]?) (fun n => ?_) (fun n => ?_) (fun n => ?_) k
   ·exact bc_ (w := w2.drewN n) (by show w2.heap[w.heap.size]? = _; rw [h2, hM])
   ·exact bc_ (w := (w2.alloc M).drewN n) (by show (w2.heap.push M)[w.heap.size]? = _; rw [Array.getElem?_push, if_neg (by omega), h2, hM])
   ·exact bc_ (w := ((w2.alloc M).alloc L6).drewN n) (by show ((w2.heap.push M).push L6)[w.heap.size]? = _; rw [Array.getElem?_push, if_neg (by simp; omega), Array.getElem?_push, if_neg (by omega), h2, hM])
  have HM := hide hM
  have HL6 := hide hL6
  obtain ⟨l1, l2, l3, l4⟩ := lens_of_body hr4
  clear hf0 hf1 hf2 hfp hM hL6
  simp only [mc_] at hcell
  refine Stg.lex_upto 3 7 (by decide) (by kernel_rfl) HU.out ?_
  simp only [List.take_succ_cons, List.take_zero, List.drop_succ_cons, List.drop_zero]
  repeat (first | go_big_quiet_step (fail) | quiet_step (fail))
  refine wpQuiet_nil ?_
  refine Stg.lex_move 0 (by kernel_rfl) (.int .u16 (flags m)) ?_ ?_
  ·rintro w' ⟨n, rfl⟩
   go_simp
   refine (packFlags_any _ _ _ _ _ _ _ _ _ _ _ _ _ HR1.out.1 HR1.out.2.1 HR1.out.2.2.1 HR1.out.2.2.2).mono ?_
   rintro e w'' ⟨rfl, k, rfl⟩
   exact ⟨rfl, n + k, by rw [alloc_drewN, World.drewN_drewN, HM.out]; rfl⟩
  refine Stg.lex_upto 2 7 (by decide) (by kernel_rfl) HU.out ?_
  simp only [List.take_succ_cons, List.take_zero, List.drop_succ_cons, List.drop_zero]
  repeat (first | go_big_quiet_step (fail) | quiet_step (fail))
  refine wpQuiet_nil ?_
  refine Stg.lex_move 1 (by kernel_rfl) (.int .u16 m.qs.length) ?_ ?_
  ·rintro w' ⟨n, rfl⟩
   go_simp
   exact (countQ_any _ _ _ (by omega) _).mono fun e w'' ⟨he, hw⟩ => ⟨he, n, hw⟩
  refine Stg.lex_upto 2 7 (by decide) (by kernel_rfl) HU.out ?_
  simp only [List.take_succ_cons, List.take_zero, List.drop_succ_cons, List.drop_zero]
  repeat (first | go_big_quiet_step (fail) | quiet_step (fail))
  refine wpQuiet_nil ?_
  refine Stg.lex_move 2 (by kernel_rfl) (.int .u16 m.an.length) ?_ ?_
  ·rintro w' ⟨n, rfl⟩
   go_simp
   exact (countR_any _ _ _ (by omega) _).mono fun e w'' ⟨he, hw⟩ => ⟨he, n, hw⟩
  refine Stg.lex_upto 2 7 (by decide) (by kernel_rfl) HU.out ?_
  simp only [List.take_succ_cons, List.take_zero, List.drop_succ_cons, List.drop_zero]
  repeat (first | go_big_quiet_step (fail) | quiet_step (fail))
  refine wpQuiet_nil ?_
  refine Stg.lex_move 3 (by kernel_rfl) (.int .u16 m.au.length) ?_ ?_
  ·rintro w' ⟨n, rfl⟩
   go_simp
   exact (countR_any _ _ _ (by omega) _).mono fun e w'' ⟨he, hw⟩ => ⟨he, n, hw⟩
  refine Stg.lex_upto 2 7 (by decide) (by kernel_rfl) HU.out ?_
  simp only [List.take_succ_cons, List.take_zero, List.drop_succ_cons, List.drop_zero]
  repeat (first | go_big_quiet_step (fail) | quiet_step (fail))
  refine wpQuiet_nil ?_
  refine Stg.lex_move 4 (by kernel_rfl) (.int .u16 m.ex.length) ?_ ?_
  ·rintro w' ⟨n, rfl⟩
   go_simp
   exact (countR_any _ _ _ (by omega) _).mono fun e w'' ⟨he, hw⟩ => ⟨he, n, hw⟩
  refine Stg.lex_move 5 (by kernel_rfl) (.slice (some ⟨w2.heap.size + 1, 0, none⟩) 6 6) ?_ ?_
  ·rintro w' ⟨n, rfl⟩
   have e5 : (Stg.pick3 6 w2 (w2.alloc M) ((w2.alloc M).alloc L6) 5) = w2.alloc M := rfl
   have e6 : (Stg.pick3 6 w2 (w2.alloc M) ((w2.alloc M).alloc L6) (5 + 1)) = (w2.alloc M).alloc L6 := rfl
   rw [e5, e6]
   go_simp
   exact ⟨n, by rw [alloc_drewN, HL6.out]⟩
  refine Stg.lex_upto 2 7 (by decide) (by kernel_rfl) HU.out ?_
  simp only [List.take_succ_cons, List.take_zero, List.drop_succ_cons, List.drop_zero]
  repeat (first | go_big_quiet_step (fail) | quiet_step (fail))
  refine wpQuiet_nil ?_
  refine Stg.lex_nil ?_
  rintro w3 ⟨nq, rfl⟩
  have e6 : (Stg.pick3 6 w2 (w2.alloc M) ((w2.alloc M).alloc L6) [3, 6, 9, 12, 15, 16].length) = (w2.alloc M).alloc L6 := rfl
  rw [e6]
  clear hcell HU
  have hs2 : w1.heap.size < w2.heap.size := by
   have := (ho2.lt w1.heap.size rfl).2; omega
  rw [as_] at hb1
  have hs1 : w.heap.size + 1 ≤ w1.heap.size := bx2 hb1
  obtain ⟨w3, hw3⟩ : ∃ w3 : World, w3 = (((w2.alloc M).alloc L6).drewN nq) := ⟨_, rfl⟩
  have hb3 : Below w.heap.size w w3 := by
   rw [hw3]
   refine below_drewN ?_ _
   refine ((((bx1 hb1).trans ((below_grownBy hg2).mono (by omega))).alloc (by omega) _).alloc (by simp; omega) _)
  have hs3 : w3.heap.size = w2.heap.size + 2 := by rw [hw3]; show ((w2.heap.push _).push _).size = _; simp
  have hM3 : w3.heap[w.heap.size]? = some M := by
   have h1 : w1.heap[w.heap.size]? = some M := by rw [HM.out]; exact bx0 hb1
   have h2 : w2.heap[w.heap.size]? = some M := by rw [hg2.block _ (by omega) (by simp)]; exact h1
   rw [hw3]
   show ((w2.heap.push _).push _)[w.heap.size]? = _
   rw [Array.getElem?_push, if_neg (by simp; omega), Array.getElem?_push, if_neg (by omega)]; exact h2
  have hL3 : w3.heap[w2.heap.size + 1]? = some L6 := by
   rw [hw3]
   show ((w2.heap.push _).push _)[w2.heap.size + 1]? = _
   rw [Array.getElem?_push, if_pos (by simp)]
  have ho3 : w3.ownsRow 0 5 1 (.slice (some ⟨w1.heap.size, 0, none⟩) 0 (12 + (body m).length)) 0 [] := by
   rw [hw3]
   exact ((ho2.alloc _).alloc _).kept (gd_ _ _ none) (.inr (by simp [Value.ownBlock]))
  rw [← hw3]
  clear hw3
  have HM3 := hide hM3
  have HL3 := hide hL3
  have HO3 := hide ho3
  have HB3 := hide hb3
  have HSH := hide (shorts_range hwf HR1.out ⟨l1, l2, l3, l4⟩)
  clear hM3 hL3 ho3 hb3 hb1 hg2 ho2
  go_wp2_with fail
  go_loopw [6, 42] (fun v i wr => ∃ k : Nat, i = .int .i64 k ∧ k ≤ 6 ∧ Grew 5 1 w3 wr (.slice (some ⟨w1.heap.size, 0, none⟩) 0 (12 + (body m).length)) v (2 * k) (bytesV (((shorts m).take k).flatMap two))) (fun _ i _ => 6 - (intOf i).toNat)
  case atStart => exact ⟨0, rfl, Nat.zero_le _, Grew.refl HO3.out⟩
  case round =>
   obtain ⟨k, rfl, hk, hg⟩ := hrel
   by_cases hk6 : k < 6
   ·obtain ⟨x, hx⟩ : ∃ x, (shorts m)[k]? = some x := ⟨_, List.getElem?_eq_getElem (by simpa [shorts] using hk6)⟩
    have hxr := HSH.out x (List.mem_of_getElem? hx)
    have ck : wr.cell? ⟨w2.heap.size + 1, k, none⟩ = some (.int .u16 x) := by
     have h1 := (hg.keeps (b := w2.heap.size + 1) (by omega) (by simp [Value.ownBlock]; omega)).1.trans HL3.out
     rw [HL6.out] at h1
     rw [bc_ h1 k]
     have : (#[Value.int .u16 m.id, .int .u16 (flags m), .int .u16 m.qs.length, .int .u16 m.an.length, .int .u16 m.au.length, .int .u16 m.ex.length] : Array Value)[k]? = ((shorts m)[k]?).map (fun y => Value.int .u16 y) := by
      rcases (show k = 0 ∨ k = 1 ∨ k = 2 ∨ k = 3 ∨ k = 4 ∨ k = 5 from by omega) with rfl | rfl | rfl | rfl | rfl | rfl <;> rfl
     rw [this, hx]; rfl
    have HX := hide hx
    clear hx
    go_wp2_with fail
    refine (addShort_any _ _ _ _ _ hxr.1 hxr.2 hg.own (by omega)).mono ?_
    rintro e w4 ⟨v4, rfl, g4⟩
    go_wp2_with fail
    have g5 := hg.trans g4
    rw [← bytesV_append, ← two_prefix _ _ _ HX.out] at g5
    exact ⟨⟨k + 1, by go_num, by omega, g5⟩, by simp [intOf]; omega⟩
   ·have HK6 : Hid (k = 6) := by show _ = _; omega
    have hMk : wr.heap[w.heap.size]? = some M := (hg.keeps (b := w.heap.size) (by omega) (by simp [Value.ownBlock]; omega)).1.trans HM3.out
    rw [HM.out] at hMk
    have hcb := bc_ hMk
    simp only [mc_] at hcb
    clear hMk
    rw [HK6.out, show (shorts m).take 6 = shorts m from rfl, shorts_head] at hg
    have HG1 := hide hg
    clear hg
    go_wp2_with fail
    obtain ⟨wa, rfl⟩ : ∃ wa : World, wa = wr := ⟨_, rfl⟩
    clear hcb
    obtain ⟨y1, rfl⟩ : ∃ y1 : Value, y1 = u6 := ⟨_, rfl⟩
    go_loopw [6, 53] (fun v i wr => ∃ k : Nat, i = .int .i64 k ∧ k ≤ m.qs.length ∧ Grew 5 1 w3 wr (.slice (some ⟨w1.heap.size, 0, none⟩) 0 (12 + (body m).length)) v (12 + qlen (m.qs.take k)) (bytesV (head m ++ (m.qs.take k).flatMap qbytes))) (fun _ i _ => m.qs.length - (intOf i).toNat)
    case atStart => exact ⟨0, rfl, Nat.zero_le _, by simpa [qlen] using HG1.out⟩
    case round =>
     obtain ⟨k, rfl, hk, hg⟩ := hrel
     have hbw : Below w.heap.size w wr := HB3.out.trans (hg.below (B := w.heap.size) (by omega) (by simp [Value.ownBlock]; omega)).1
     by_cases hlt : k < m.qs.length
     ·obtain ⟨q, hqk⟩ : ∃ q, m.qs[k]? = some q := ⟨_, List.getElem?_eq_getElem hlt⟩
      rcases hq with hq | ⟨b, off, rfl, hbq, hq⟩
      ·rw [List.map_eq_nil_iff] at hq; rw [hq] at hlt; simp at hlt
      ·have hwq := hwf.qs q (List.mem_of_getElem? hqk)
       have hoq : nameB q.name = true := List.all_eq_true.1 HR2.out q (List.mem_of_getElem? hqk)
       have hqs := (nameB_size hoq).2
       have hle : qlen (m.qs.take k) ≤ 512 := by
        have h1 := qlen_take m.qs k
        rw [body_length] at hr4; omega
       obtain ⟨c0, c1, c2⟩ := Lies.qat hq hqk
       rw [← hbw.cell (p := ⟨b, off + k * 3, none⟩) hbq] at c0
       rw [← hbw.cell (p := ⟨b, off + k * 3 + 1, none⟩) hbq] at c1
       rw [← hbw.cell (p := ⟨b, off + k * 3 + 2, none⟩) hbq] at c2
       clear hbw hoq
       have HQK := hide hqk
       clear hqk
       go_wp2_with fail
       refine (addQ_any _ _ _ q.name q.kind q.cls _ hwq.k0 hwq.k1 hwq.c0 hwq.c1 hqs (hg.own.alloc _) (by omega)).mono ?_
       rintro e w4 ⟨v4, rfl, g4⟩
       go_wp2_with fail
       have g5 := hg.trans (g4.pre (World.grownBy_alloc wr _ _))
       have e1 : 12 + qlen (m.qs.take k) + (qbytes q).length = 12 + qlen (m.qs.take (k + 1)) := by
        rw [take_snoc _ _ _ HQK.out, qlen_append]; simp [qlen]; omega
       have e2 : bytesV (head m ++ (m.qs.take k).flatMap qbytes) ++ bytesV (qbytes q) = bytesV (head m ++ (m.qs.take (k + 1)).flatMap qbytes) := by
        rw [take_snoc _ _ _ HQK.out]; simp [bytesV_append]
       rw [show (⟨q.name, q.kind, q.cls⟩ : Qn) = q from rfl, e1, e2] at g5
       exact ⟨⟨k + 1, by go_num, by omega, g5⟩, by simp [intOf]; omega⟩
     ·have hkl : k = m.qs.length := by omega
      subst hkl
      have hMk : wr.heap[w.heap.size]? = some M := (hg.keeps (b := w.heap.size) (by omega) (by simp [Value.ownBlock]; omega)).1.trans HM3.out
      rw [HM.out] at hMk
      have hcb := bc_ hMk
      simp only [mc_] at hcb
      clear hMk
      rw [List.take_length] at hg
      have HG2 := hide hg
      have HBW := hide hbw
      have hsr := hg.grown.size
      clear hg hbw
      go_wp2_with fail
      obtain ⟨wb, rfl⟩ : ∃ wb : World, wb = wr := ⟨_, rfl⟩
      clear hcb
      obtain ⟨y2, rfl⟩ : ∃ y2 : Value, y2 = u6 := ⟨_, rfl⟩
      have ho6 : (wb.alloc (.cells #[.slice aa m.an.length ca, .slice au m.au.length cu, .slice ax m.ex.length cx] 28)).ownsRow 0 5 1 y2 (12 + qlen m.qs) (bytesV (head m ++ m.qs.flatMap qbytes)) := HG2.out.own.alloc _
      have HO6 := hide ho6
      have hy2 : ∀ k, y2.ownBlock = some k → w.heap.size ≤ k := (HG2.out.below (B := w.heap.size) (by omega) (by simp [Value.ownBlock]; omega)).2
      have HY2 := hide hy2
      have HNE := hide (own_ne HG2.out.own (Nat.le_refl wb.heap.size))
      clear ho6 hy2
      go_loopw [6, 69] (fun v i wr => ∃ j : Nat, i = .int .i64 j ∧ j ≤ 3 ∧ Grew 5 1 (wb.alloc (.cells #[.slice aa m.an.length ca, .slice au m.au.length cu, .slice ax m.ex.length cx] 28)) wr y2 v (12 + qlen m.qs + rlen (preR m j)) (bytesV (head m ++ m.qs.flatMap qbytes ++ (preR m j).flatMap rbytes))) (fun _ i _ => 3 - (intOf i).toNat)
      case atStart => exact ⟨0, rfl, Nat.zero_le _, by simpa [preR, rlen] using Grew.refl HO6.out⟩
      case round =>
       obtain ⟨j, rfl, hj, hg⟩ := hrel
       by_cases hj3 : j < 3
       ·obtain ⟨L, vL, hv, hL, hpre, ⟨B, hrecs⟩, hlen⟩ := list_at hat hwf j hj3
        obtain ⟨aL, cL, rfl, -, hL⟩ := hL
        rw [List.length_map] at hv
        have ci := bc_ ((hg.keeps (b := wb.heap.size) (by rw [as_]; omega) HNE.out).1.trans (hn_ wb _)) j
        rw [hv] at ci
        have HV := hide hv
        have HPRE := hide hpre
        have HRECS := hide hrecs
        clear hv hpre hrecs
        have hj3b : decide ((j : Int) < 3) = true := decide_eq_true (by omega)
        go_wp2_with fail
        obtain ⟨wc, rfl⟩ : ∃ wc : World, wc = wr := ⟨_, rfl⟩
        obtain ⟨y3, rfl⟩ : ∃ y3 : Value, y3 = u6 := ⟨_, rfl⟩
        have HG3 := hide hg
        clear hg ci
        go_loopw [6, 75] (fun v i wr => ∃ k : Nat, i = .int .i64 k ∧ k ≤ L.length ∧ Grew 5 1 (wb.alloc (.cells #[.slice aa m.an.length ca, .slice au m.au.length cu, .slice ax m.ex.length cx] 28)) wr y2 v (12 + qlen m.qs + rlen (preR m j ++ L.take k)) (bytesV (head m ++ m.qs.flatMap qbytes ++ (preR m j ++ L.take k).flatMap rbytes))) (fun _ i _ => L.length - (intOf i).toNat)
        case atStart => exact ⟨0, rfl, Nat.zero_le _, by simpa using HG3.out⟩
        case round =>
         obtain ⟨k2, rfl, hk2, hg⟩ := hrel
         by_cases hlt2 : k2 < L.length
         ·obtain ⟨r, hrk⟩ : ∃ r, L[k2]? = some r := ⟨_, List.getElem?_eq_getElem hlt2⟩
          have hbw : Below w.heap.size w wr := (HBW.out.alloc (by omega) _).trans (hg.below (B := w.heap.size) (by rw [as_]; omega) HY2.out).1
          rcases hL with hL | ⟨b, off, rfl, hbb, hL⟩
          ·rw [List.map_eq_nil_iff] at hL; rw [hL] at hlt2; simp at hlt2
          ·have hsplit : recs m = (preR m j ++ L.take k2) ++ r :: (L.drop (k2 + 1) ++ B) := by
            rw [HRECS.out]
            conv => lhs; rw [split_at L k2 r hrk]
            simp
           have hmem : r ∈ recs m := by rw [hsplit]; simp
           have hwr := hwf.rs r hmem
           have hor : okR r = true := List.all_eq_true.1 HR3.out r hmem
           have hrn : nameB r.name = true := by unfold okR at hor; simp only [Bool.and_eq_true] at hor; exact hor.1
           have hrs := (nameB_size hrn).2
           have hle : rlen (preR m j ++ L.take k2) + (r.name.size + 10 + r.data.size) ≤ 512 := by
            have h1 := rlen_prefix (preR m j ++ L.take k2 ++ [r]) (recs m) ⟨L.drop (k2 + 1) ++ B, by rw [hsplit]; simp⟩
            rw [rlen_append, rlen_one] at h1
            rw [body_length] at hr4; omega
           have hql : qlen m.qs ≤ 512 := by rw [body_length] at hr4; omega
           obtain ⟨c0, c1, c2, c3, c4⟩ := Lies.rat hL hrk
           rw [← hbw.cell (p := ⟨b, off + k2 * 5, none⟩) hbb] at c0
           rw [← hbw.cell (p := ⟨b, off + k2 * 5 + 1, none⟩) hbb] at c1
           rw [← hbw.cell (p := ⟨b, off + k2 * 5 + 2, none⟩) hbb] at c2
           rw [← hbw.cell (p := ⟨b, off + k2 * 5 + 3, none⟩) hbb] at c3
           rw [← hbw.cell (p := ⟨b, off + k2 * 5 + 4, none⟩) hbb] at c4
           have HRK := hide hrk
           clear hbw hsplit hor hrn hrk hmem
           go_wp2_with fail
           refine (addR_any _ _ _ r.name r.kind r.cls r.ttl r.data _ hwr.k0 hwr.k1 hwr.c0 hwr.c1 hwr.t0 hwr.t1 hrs (by omega) (hg.own.alloc _) (by omega)).mono ?_
           rintro e w4 ⟨v4, rfl, g4⟩
           go_wp2_with fail
           have g5 := hg.trans (g4.pre (World.grownBy_alloc wr _ _))
           have e1 : 12 + qlen m.qs + rlen (preR m j ++ L.take k2) + (rbytes r).length = 12 + qlen m.qs + rlen (preR m j ++ L.take (k2 + 1)) := by
            rw [take_snoc _ _ _ HRK.out, ← List.append_assoc, rlen_append (preR m j ++ L.take k2)]; simp [rlen]; omega
           have e2 : bytesV (head m ++ m.qs.flatMap qbytes ++ (preR m j ++ L.take k2).flatMap rbytes) ++ bytesV (rbytes r) = bytesV (head m ++ m.qs.flatMap qbytes ++ (preR m j ++ L.take (k2 + 1)).flatMap rbytes) := by
            rw [take_snoc _ _ _ HRK.out]; simp [bytesV_append]
           rw [show (⟨r.name, r.kind, r.cls, r.ttl, r.data⟩ : Rc) = r from rfl, e1, e2] at g5
           exact ⟨⟨k2 + 1, by go_num, by omega, g5⟩, by simp [intOf]; omega⟩
         ·have hkl : k2 = L.length := by omega
          subst hkl
          rw [List.take_length, ← HPRE.out] at hg
          go_wp2_with fail
          exact ⟨⟨j + 1, by go_num, by omega, hg⟩, by simp [intOf]; omega⟩
       ·have hj' : j = 3 := by omega
        rw [hj', preR_all] at hg
        have HG4 := hide hg
        clear hg hj'
        go_wp2_with fail
        go_ret2
        have hg := HG4.out
        have hbl := hg.below (B := w.heap.size) (by rw [as_]; omega) HY2.out
        refine ⟨(HBW.out.alloc (by omega) _).trans hbl.1, (fun h => by cases h), fun _ => ⟨_, rfl, ?_⟩⟩
        have e1 : 12 + qlen m.qs + rlen (recs m) = (pack m).length := by
         unfold pack; rw [List.length_append, length_head, body_length]; omega
        have e2 : head m ++ m.qs.flatMap qbytes ++ (recs m).flatMap rbytes = pack m := by
         unfold pack body; rw [List.append_assoc]
        rw [e1, e2] at hg
        exact own_base hg.own hbl.2
end Go.Proofs.YtafoepfhepdcoaaGreat
namespace Go.Proofs.YtafoepfhepdcoaaGreat
open Go.RowKit Go.Trawl
attribute [local go_sem] equalQ equalR guardQ guardR buildQ0 buildR0
def zQ : Qn := ⟨⟨#[]⟩, 0, 0⟩
def zR : Rc := ⟨⟨#[]⟩, 0, 0, 0, ⟨#[]⟩⟩
def lentR (L : List Rc) : List Rc := L ++ List.replicate 8 zR
def lentQ (L : List Qn) : List Qn := L ++ List.replicate 8 zQ
theorem qcells_ok (l : List Qn) : ∀ x ∈ l.map Qn.cells, x.length = 3 ∧ ∀ u ∈ x, u.oneCell' = true := by
 intro x hx
 obtain ⟨r, _, rfl⟩ := List.mem_map.1 hx
 refine ⟨rfl, fun u hu => ?_⟩
 simp only [Qn.cells, List.mem_cons, List.not_mem_nil, or_false] at hu
 rcases hu with rfl | rfl | rfl <;> rfl
theorem lentR_flat (L : List Rc) : (L.map Rc.cells).flatten ++ ((List.replicate (L.length + 8) zR.cells).flatten).drop ((L.map Rc.cells).length * 5) = ((lentR L).map Rc.cells).flatten := by
 have := drop_rep_flat zR.cells 8 L.length
 rw [List.length_map]
 rw [show zR.cells.length = 5 from rfl] at this
 rw [this, lentR, List.map_append, List.flatten_append, List.map_replicate]
theorem lentQ_flat (L : List Qn) : (L.map Qn.cells).flatten ++ ((List.replicate (L.length + 8) zQ.cells).flatten).drop ((L.map Qn.cells).length * 3) = ((lentQ L).map Qn.cells).flatten := by
 have := drop_rep_flat zQ.cells 8 L.length
 rw [List.length_map]
 rw [show zQ.cells.length = 3 from rfl] at this
 rw [this, lentQ, List.map_append, List.flatten_append, List.map_replicate]
def newV (g n : Nat) : Value := .slice (some ⟨g, 0, none⟩) n n
theorem records_any (w : World) (v : Value) (L : List Rc) (hL : L.length ≤ 2097152) (hat : Lies w 5 v (L.map Rc.cells)) :
  Calls Tryz.prog 125 #[v] w fun e w' => e = .returned (newV w.heap.size (L.length + 8)) ∧ w'.ownsRow 0 69 5 (newV w.heap.size (L.length + 8)) (L.length + 8) ((lentR L).map Rc.cells).flatten ∧ Below w.heap.size w w' := by
 obtain ⟨ic, ic0, ic1, ic2, ic3⟩ := info_parts rI
 have HAT := hide hat
 obtain ⟨av, cv, rfl, -⟩ := hat
 rw [List.length_map] at HAT
 rw [List.length_map]
 go_enter Tryz.func125, Tryz.ntmps125
 go_wp2_with (at_make; refine wpList_make_full _ rfl _ _ 28 rfl 0 69 ic _ 5 uC ic0 ic1 ic2 _ _ _ _ (L.length + 8) rfl rfl (by omega) (by omega) (by rw [ic3]; omega) (by unfold maxLen; omega) (Nat.zero_le _) ?_; intro w2 ho2 hg2; have HO2 := hide ho2; have HG2 := hide hg2; clear ho2 hg2)
 have ho2 := HO2.out
 have hm := made_flat zR.cells (by decide) (L.length + 8)
 rw [show zR.cells.length = 5 from rfl] at hm
 have e0 : (Value.agg #[Value.string { data := #[] }, Value.int IntKind.u16 0, Value.int IntKind.u16 0, Value.int IntKind.u32 0, Value.string { data := #[] }]).cells = zR.cells.toArray := rfl
 rw [e0, hm] at ho2
 have hat2 : Lies w2 5 (Value.slice av L.length cv) (List.map Rc.cells L) := HAT.out.below (below_grownBy HG2.out)
 obtain ⟨w3, hr, ho3, hg3⟩ := copy_lies (P := Tryz.prog) w2 28 28 3 69 ic 5 uC ic0 ic2 _ _ _ _ ho2 _ _ hat2 (rcells_ok L) (by rw [List.length_map]; omega)
 rw [hr]
 rw [lentR_flat] at ho3
 have HO3 := hide ho3
 have HG3 := hide hg3
 clear ho3 hg3 hr ho2 hat2 hm e0
 go_wp2_with fail
 go_ret
 refine ⟨rfl, HO3.out, ?_⟩
 have h1 := below_grownBy HG2.out
 have h3 := HG3.out
 exact h1.trans ⟨h3.os, h3.tape, h3.output, h3.size, fun k hk => h3.block k (Nat.lt_of_lt_of_le hk h1.size) (by simp; omega)⟩
theorem tpack_any (m : Msg) (vq va vu vx : Value) (w : World) (hwf : WfM m) (hat : MsgAt w m vq va vu vx) :
  Calls Tryz.prog 15 #[.agg (mc_ m vq va vu vx)] w fun e w' => Below w.heap.size w w' ∧
   (packOk m = false → e = .returned (.tuple #[.slice none 0 0, .int .i64 1])) ∧
   (packOk m = true → ∃ v, e = .returned (.tuple #[v, .int .i64 0]) ∧ w'.ownsRow w.heap.size 5 1 v (pack m).length (bytesV (pack m))) := by
 have HAT := hide hat
 have HWF := hide hwf
 clear hat hwf
 unfold mc_
 go_enter Tryz.func15, Tryz.ntmps15
 go_wp2_with fail
 have hb1 : Below w.heap.size w (w.alloc (.cells (mc_ m vq va vu vx) 30)) := (Below.refl _ _).alloc (Nat.le_refl _) _
 refine (wirePack_any m vq va vu vx _ HWF.out (HAT.out.below hb1)).mono ?_
 rintro e w2 ⟨hb2, hno, hyes⟩
 have hb3 : Below w.heap.size w w2 := hb1.trans ⟨hb2.os, hb2.tape, hb2.output, hb2.size, fun k hk => hb2.block k (by rw [as_]; omega)⟩
 have HB3 := hide hb3
 clear hb1 hb2 hb3
 by_cases hp : packOk m = true
 ·obtain ⟨v, rfl, ho⟩ := hyes hp
  have HO := hide ho
  have HP := hide hp
  clear hno hyes ho hp
  go_wp2_with fail
  go_ret2
  refine ⟨HB3.out, fun h => ?_, fun _ => ⟨v, rfl, ?_⟩⟩
  ·rw [HP.out] at h; cases h
  ·exact own_base ⟨HO.out.1, by
    rcases HO.out.2 with h | ⟨g, cap, cur, h1, _, h3⟩
    ·exact .inl h
    ·exact .inr ⟨g, cap, cur, h1, Nat.zero_le _, h3⟩⟩ fun k hk => by
    have := (HO.out.lt k hk).1
    rw [as_] at this; omega
 ·have hp' : packOk m = false := by simpa using hp
  have he := hno hp'
  subst he
  have HP := hide hp'
  clear hno hyes hp hp'
  go_wp2_with fail
  go_ret2
  exact ⟨HB3.out, fun _ => rfl, fun h => by rw [HP.out] at h; cases h⟩
end Go.Proofs.YtafoepfhepdcoaaGreat
namespace Go.Proofs.YtafoepfhepdcoaaGreat
open Go.RowKit Go.Trawl
theorem selfR (s t : ByteArray) (a b c : Int) (W : World) : (Op.equalIn 10000 69 (.agg #[.string s, .int .u16 a, .int .u16 b, .int .u32 c, .string t]) (.agg #[.string s, .int .u16 a, .int .u16 b, .int .u32 c, .string t])).run Tryz.prog W = .ok true W := by
 rw [equalR]; simp
theorem selfQ (s : ByteArray) (a b : Int) (W : World) : (Op.equalIn 10000 41 (.agg #[.string s, .int .u16 a, .int .u16 b]) (.agg #[.string s, .int .u16 a, .int .u16 b])).run Tryz.prog W = .ok true W := by
 rw [equalQ]; simp
attribute [local go_sem] selfQ selfR guardQ guardR buildQ0 buildR0
theorem lentR_lt {L : List Rc} {k : Nat} (h : k < L.length) : (lentR L)[k]? = L[k]? := by
 unfold lentR; rw [List.getElem?_append_left h]
theorem lentR_ge {L : List Rc} {k : Nat} (h : L.length ≤ k) (h2 : k < L.length + 8) : (lentR L)[k]? = some zR := by
 unfold lentR; rw [List.getElem?_append_right h, List.getElem?_replicate, if_pos (by omega)]
theorem lentQ_lt {L : List Qn} {k : Nat} (h : k < L.length) : (lentQ L)[k]? = L[k]? := by
 unfold lentQ; rw [List.getElem?_append_left h]
theorem lentQ_ge {L : List Qn} {k : Nat} (h : L.length ≤ k) (h2 : k < L.length + 8) : (lentQ L)[k]? = some zQ := by
 unfold lentQ; rw [List.getElem?_append_right h, List.getElem?_replicate, if_pos (by omega)]
theorem lentR_length (L : List Rc) : (lentR L).length = L.length + 8 := by simp [lentR]
theorem lentQ_length (L : List Qn) : (lentQ L).length = L.length + 8 := by simp [lentQ]
theorem kept_any (w : World) (b v : Value) (L : List Rc) (hL : L.length ≤ 2097152) (hb : Lies w 5 b ((lentR L).map Rc.cells)) (hv : Lies w 5 v (L.map Rc.cells)) :
  Calls Tryz.prog 126 #[b, v] w fun e w' => e = .returned (.bool true) ∧ ∃ n, w' = w.drewN n := by
 obtain ⟨ab, cb, rfl, -, hb⟩ := hb
 obtain ⟨av, cv, rfl, -, hv⟩ := hv
 rw [List.length_map, lentR_length, List.length_map]
 have HB := hide hb
 have HV := hide hv
 have HW0 : Hid (∃ n, w = w.drewN n) := ⟨0, rfl⟩
 clear hb hv
 go_enter Tryz.func126, Tryz.ntmps126
 go_wp2_with fail
 go_loopw [5] (fun i wr => ∃ k : Nat, i = .int .i64 k ∧ k ≤ L.length + 8 ∧ Hid (∃ n, wr = w.drewN n)) (fun i _ => L.length + 8 - (intOf i).toNat)
 case atStart => exact ⟨0, rfl, Nat.zero_le _, HW0.out⟩
 case round =>
  obtain ⟨k, rfl, hk, HW⟩ := hrel
  have hcw : ∀ p, wr.cell? p = w.cell? p := by obtain ⟨n, rfl⟩ := HW.out; intro p; rfl
  by_cases hlt : k < L.length + 8
  ·rcases HB.out with he | ⟨bb, off, rfl, _, hc⟩
   ·exfalso; have := congrArg List.length he; simp [lentR_length] at this
   by_cases hin : k < L.length
   ·obtain ⟨r, hr⟩ : ∃ r, L[k]? = some r := ⟨_, List.getElem?_eq_getElem hin⟩
    rcases HV.out with he | ⟨bv, offv, rfl, _, hcv⟩
    ·exfalso; have := congrArg List.length he; simp at this; subst this; simp at hin
    obtain ⟨c0, c1, c2, c3, c4⟩ := Lies.rat hc (by rw [lentR_lt hin]; exact hr)
    obtain ⟨d0, d1, d2, d3, d4⟩ := Lies.rat hcv hr
    rw [← hcw] at c0 c1 c2 c3 c4 d0 d1 d2 d3 d4
    obtain ⟨nm, kd, cl, tt, dt⟩ := r
    dsimp only at c0 c1 c2 c3 c4 d0 d1 d2 d3 d4
    have hd1 : decide (k < L.length) = true := by simp; omega
    have hd2 : decide (L.length ≤ k) = false := by simp; omega
    clear hc hcv hcw hr HB HV
    go_wp2_with fail
    go_quiet (fail)
    go_wp2_with fail
    exact ⟨⟨k + 1, by go_num, by omega, by obtain ⟨n, hn⟩ := HW.out; exact ⟨n + nq, by rw [hn, World.drewN_drewN]⟩⟩, by simp [intOf]; omega⟩
   ·obtain ⟨c0, c1, c2, c3, c4⟩ := Lies.rat hc (lentR_ge (by omega) hlt)
    unfold zR at c0 c1 c2 c3 c4
    rw [← hcw] at c0 c1 c2 c3 c4
    have hd1 : decide (k < L.length) = false := by simp; omega
    have hd2 : decide (L.length ≤ k) = true := by simp; omega
    clear hc hcw HB HV
    go_wp2_with fail
    go_quiet (fail)
    go_wp2_with fail
    exact ⟨⟨k + 1, by go_num, by omega, by obtain ⟨n, hn⟩ := HW.out; exact ⟨n + nq, by rw [hn, World.drewN_drewN]⟩⟩, by simp [intOf]; omega⟩
  ·clear hcw
   go_wp2_with fail
   go_ret
   exact ⟨rfl, HW.out⟩
end Go.Proofs.YtafoepfhepdcoaaGreat
