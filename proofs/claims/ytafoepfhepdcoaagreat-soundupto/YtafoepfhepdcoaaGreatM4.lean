import Derived.Test.YtafoepfhepdcoaaGreatM3
import Derived.Test.YtafoepfhepdcoaaGreatM1
import Derived.Test.YtafoepfhepdcoaaGreatM2
set_option maxRecDepth 100000
set_option maxHeartbeats 8000000
namespace Go.Proofs.YtafoepfhepdcoaaGreat
open Go.RowKit Go.Trawl
theorem withQ_yes (size : Int) (q : Qn) (w : World) (h0 : 0 ≤ size) (h1 : size ≤ 512) (hq : WfQ q) (hn : nameB q.name = true) (hl : size + (q.name.size + 4) ≤ 512) :
  Calls Tryz.prog 95 #[.int .i64 size, .agg #[.string q.name, .int .u16 q.kind, .int .u16 q.cls]] w fun e w' => e = .returned (.tuple #[.int .i64 (size + (q.name.size + 4)), .bool true]) ∧ Below w.heap.size w w' := by
 have h := withQ_any size q.name q.kind q.cls w h0 h1 (by have := hq.name; unfold maxLen; omega)
 refine h.mono fun e w' ⟨he, hb⟩ => ⟨?_, hb⟩
 rw [he, withQ, if_pos hn, decide_eq_true hl]
theorem withQ_no (size : Int) (q : Qn) (w : World) (h0 : 0 ≤ size) (h1 : size ≤ 512) (hq : WfQ q) (hn : nameB q.name = false ∨ 512 < size + (q.name.size + 4)) :
  Calls Tryz.prog 95 #[.int .i64 size, .agg #[.string q.name, .int .u16 q.kind, .int .u16 q.cls]] w fun e w' => ∃ r, e = .returned (.tuple #[.int .i64 r, .bool false]) ∧ Below w.heap.size w w' := by
 have h := withQ_any size q.name q.kind q.cls w h0 h1 (by have := hq.name; unfold maxLen; omega)
 refine h.mono fun e w' ⟨he, hb⟩ => ?_
 rw [he, withQ]
 rcases hn with hn | hn
 ·rw [if_neg (by rw [hn]; exact Bool.false_ne_true)]; exact ⟨_, rfl, hb⟩
 ·split
  ·exact ⟨_, by rw [decide_eq_false (by simp only []; omega)], hb⟩
  ·exact ⟨_, rfl, hb⟩
theorem withR_yes (size : Int) (r : Rc) (w : World) (h0 : 0 ≤ size) (h1 : size ≤ 512) (hr : WfR r) (hn : okR r = true) (hl : size + (r.name.size + 10 + r.data.size) ≤ 512) :
  Calls Tryz.prog 96 #[.int .i64 size, .agg #[.string r.name, .int .u16 r.kind, .int .u16 r.cls, .int .u32 r.ttl, .string r.data]] w fun e w' => e = .returned (.tuple #[.int .i64 (size + (r.name.size + 10 + r.data.size)), .bool true]) ∧ Below w.heap.size w w' := by
 have h := withR_any size r.name r.kind r.cls r.ttl r.data w h0 h1 (by have := hr.name; unfold maxLen; omega) (by have := hr.data; unfold maxLen; omega)
 refine h.mono fun e w' ⟨he, hb⟩ => ⟨?_, hb⟩
 have : (okR r && decide (r.data.size ≤ 512)) = true := by rw [hn, decide_eq_true (by omega)]; rfl
 rw [he, withR, if_pos this, decide_eq_true hl]
theorem withR_no (size : Int) (r : Rc) (w : World) (h0 : 0 ≤ size) (h1 : size ≤ 512) (hr : WfR r) (hn : okR r = false ∨ 512 < size + (r.name.size + 10 + r.data.size)) :
  Calls Tryz.prog 96 #[.int .i64 size, .agg #[.string r.name, .int .u16 r.kind, .int .u16 r.cls, .int .u32 r.ttl, .string r.data]] w fun e w' => ∃ x, e = .returned (.tuple #[.int .i64 x, .bool false]) ∧ Below w.heap.size w w' := by
 have h := withR_any size r.name r.kind r.cls r.ttl r.data w h0 h1 (by have := hr.name; unfold maxLen; omega) (by have := hr.data; unfold maxLen; omega)
 refine h.mono fun e w' ⟨he, hb⟩ => ?_
 rw [he, withR]
 rcases hn with hn | hn
 ·rw [if_neg (by rw [show okR (⟨r.name, r.kind, r.cls, r.ttl, r.data⟩ : Rc) = false from hn]; exact Bool.false_ne_true)]; exact ⟨_, rfl, hb⟩
 ·split
  ·exact ⟨_, by rw [decide_eq_false (by simp only []; omega)], hb⟩
  ·exact ⟨_, rfl, hb⟩
theorem all_snoc {α : Type} {p : α → Bool} {l : List α} {k : Nat} {x : α} (h : (l.take k).all p = true) (hx : l[k]? = some x) (hp : p x = true) : (l.take (k + 1)).all p = true := by
 rw [take_snoc l k x hx, List.all_append, h]; simp [hp]
theorem bx0 {w wr : World} {o : Obj} (h : Below (w.heap.size + 1) (w.alloc o) wr) : wr.heap[w.heap.size]? = some o := by
 rw [h.block _ (by omega)]; exact heap_new _ _
theorem bx1 {w wr : World} {o : Obj} (h : Below (w.heap.size + 1) (w.alloc o) wr) : Below w.heap.size w wr :=
 ((Below.refl _ _).alloc (Nat.le_refl _) o).trans (h.mono (by omega))
theorem bx2 {w wr : World} {o : Obj} (h : Below (w.heap.size + 1) (w.alloc o) wr) : w.heap.size + 1 ≤ wr.heap.size := by
 have := h.size; simpa using this
theorem packedSize_any (m : Msg) (vq va vu vx : Value) (w : World) (hwf : WfM m) (hat : MsgAt w m vq va vu vx) :
  Calls Tryz.prog 60 #[.agg (msgCells m vq va vu vx)] w fun e w' => Below w.heap.size w w' ∧ ∃ r, e = .returned (.tuple #[.int .i64 r, .bool (packOk m)]) ∧ (packOk m = true → r = 12 + (body m).length) := by
 obtain ⟨aq, cq, hvq, -, hq⟩ := hat.q
 obtain ⟨aa, ca, hva, -, ha⟩ := hat.a
 obtain ⟨au, cu, hvu, -, hu⟩ := hat.u
 obtain ⟨ax, cx, hvx, -, hx⟩ := hat.x
 rw [List.length_map] at hvq hva hvu hvx
 subst hvq hva hvu hvx
 have hop0 := hwf.op0
 have hop1 := hwf.op1
 have hco0 := hwf.code0
 have hco1 := hwf.code1
 have hnq := hwf.nq
 have hna := hwf.na
 have hnu := hwf.nu
 have hnx := hwf.nx
 by_cases hr : 0 ≤ m.op ∧ m.op ≤ 15 ∧ 0 ≤ m.code ∧ m.code ≤ 15
 ·obtain ⟨r1, r2, r3, r4⟩ := hr
  go_enter Tryz.func60, Tryz.ntmps60
  unfold msgCells
  go_wp2
  go_loopw [4, 5, 33] (fun s ok i wr => ∃ k : Nat, i = .int .i64 k ∧ k ≤ m.qs.length ∧ s = .int .i64 (12 + (qlen (m.qs.take k) : Int)) ∧ ok = .bool true ∧ Below (w.heap.size + 1) (w.alloc (.cells (msgCells m (.slice aq m.qs.length cq) (.slice aa m.an.length ca) (.slice au m.au.length cu) (.slice ax m.ex.length cx)) 30)) wr ∧ 12 + qlen (m.qs.take k) ≤ 512 ∧ Hid ((m.qs.take k).all okQ = true)) (fun _ _ i _ => m.qs.length - (intOf i).toNat)
  case atStart => exact ⟨0, rfl, Nat.zero_le _, rfl, rfl, Below.refl _ _, by simp [qlen], rfl⟩
  case round =>
   obtain ⟨k, rfl, hk, rfl, rfl, hb, hle, hall⟩ := hrel
   by_cases hlt : k < m.qs.length
   ·obtain ⟨q, hqk⟩ : ∃ q, m.qs[k]? = some q := ⟨_, List.getElem?_eq_getElem hlt⟩
    rcases hq with hq | ⟨b, off, rfl, hbw, hq⟩
    ·rw [List.map_eq_nil_iff] at hq; rw [hq] at hlt; simp at hlt
    ·have hwq := hwf.qs q (List.mem_of_getElem? hqk)
     obtain ⟨c0, c1, c2⟩ := Lies.qat hq hqk
     rw [← (bx1 hb).cell (p := ⟨b, off + k * 3, none⟩) hbw] at c0
     rw [← (bx1 hb).cell (p := ⟨b, off + k * 3 + 1, none⟩) hbw] at c1
     rw [← (bx1 hb).cell (p := ⟨b, off + k * 3 + 2, none⟩) hbw] at c2
     have hsz := bx2 hb
     by_cases hy : nameB q.name = true ∧ 12 + (qlen (m.qs.take k) : Int) + (q.name.size + 4) ≤ 512
     ·have hnext : Hid ((m.qs.take (k + 1)).all okQ = true) := all_snoc hall.out hqk hy.1
      have hql : Hid (qlen (m.qs.take (k + 1)) = qlen (m.qs.take k) + (q.name.size + 4)) := by
       show _ = _
       rw [take_snoc _ _ _ hqk, qlen_append, qlen_one]
      go_wp2_with fail
      refine (withQ_yes _ q _ (by omega) (by omega) hwq hy.1 hy.2).mono ?_
      rintro e w1 ⟨rfl, hb1⟩
      go_wp2_with fail
      have hz := hb1.size
      refine ⟨⟨k + 1, by go_num, by omega, by rw [hql.out]; go_num, rfl, ?_, by rw [hql.out]; omega, hnext⟩, by simp [intOf]; omega⟩
      exact (hb.alloc (by omega) _).trans (hb1.mono (by simp; omega))
     ·have hno : Hid (packOk m = false) := pack_q_no (split_at _ _ _ hqk) (by
       rcases Classical.not_and_iff_not_or_not.1 hy with h | h
       ·exact .inl (by simpa using h)
       ·exact .inr (by omega))
      have hy' : nameB q.name = false ∨ 512 < 12 + (qlen (m.qs.take k) : Int) + (q.name.size + 4) := by
       rcases Classical.not_and_iff_not_or_not.1 hy with h | h
       ·exact .inl (by simpa using h)
       ·exact .inr (by omega)
      clear hy
      go_wp2_with fail
      refine (withQ_no _ q _ (by omega) (by omega) hwq hy').mono ?_
      rintro e w1 ⟨r, rfl, hb1⟩
      go_wp2_with fail
      go_ret2
      refine ⟨?_, 0, by rw [hno.out]; rfl, fun h => by rw [hno.out] at h; cases h⟩
      exact ((bx1 hb).alloc (by omega) _).trans (hb1.mono (by simp; omega))
   ·have hcb := box_cells (bx0 hb)
    simp only [msgCells] at hcb
    have hkq : Hid (k = m.qs.length) := by show _ = _; omega
    go_wp2_with fail
    obtain ⟨wa, rfl⟩ : ∃ wa : World, wa = wr := ⟨_, rfl⟩
    have hsa := bx2 hb
    have HB : Hid _ := hb
    have HC : Hid _ := hcb
    clear hb hcb
    go_loopw [4, 5, 54] (fun s ok i wb => ∃ j : Nat, i = .int .i64 j ∧ j ≤ 3 ∧ s = .int .i64 (12 + (qlen m.qs : Int) + (rlen (preR m j) : Int)) ∧ ok = .bool true ∧ Below (wa.heap.size + 1) (wa.alloc (.cells #[.slice aa m.an.length ca, .slice au m.au.length cu, .slice ax m.ex.length cx] 28)) wb ∧ 12 + qlen m.qs + rlen (preR m j) ≤ 512 ∧ Hid ((preR m j).all okR = true)) (fun _ _ i _ => 3 - (intOf i).toNat)
    case atStart => exact ⟨0, rfl, Nat.zero_le _, by rw [hkq.out, List.take_length]; simp [preR, rlen], rfl, Below.refl _ _, by rw [hkq.out, List.take_length] at hle; simpa [preR, rlen] using hle, rfl⟩
    case round =>
     obtain ⟨j, rfl, hj, rfl, rfl, hb2, hle2, hall2⟩ := hrel
     by_cases hj3 : j < 3
     ·obtain ⟨L, v, hv, hL, hpre, ⟨B, hrecs⟩, hlen⟩ := list_at hat hwf j hj3
      obtain ⟨aL, cL, rfl, -, hL⟩ := hL
      rw [List.length_map] at hv
      have ci := box_cells (bx0 hb2) j
      rw [hv] at ci
      have HV := hide hv
      clear hv
      have hj3b : decide ((j : Int) < 3) = true := decide_eq_true (by omega)
      go_wp2_with fail
      obtain ⟨wb, rfl⟩ : ∃ wb : World, wb = wr := ⟨_, rfl⟩
      have HB2 : Hid _ := hb2
      have hsb := bx2 hb2
      clear hb2 ci
      go_loopw [4, 5, 60] (fun s ok i wc => ∃ k : Nat, i = .int .i64 k ∧ k ≤ L.length ∧ s = .int .i64 (12 + (qlen m.qs : Int) + (rlen (preR m j ++ L.take k) : Int)) ∧ ok = .bool true ∧ Below (wa.heap.size + 1) wb wc ∧ 12 + qlen m.qs + rlen (preR m j ++ L.take k) ≤ 512 ∧ Hid ((preR m j ++ L.take k).all okR = true)) (fun _ _ i _ => L.length - (intOf i).toNat)
      case atStart => exact ⟨0, rfl, Nat.zero_le _, by simp, rfl, Below.refl _ _, by simpa using hle2, by show _ = _; rw [List.take_zero, List.append_nil]; exact hall2.out⟩
      case round =>
       obtain ⟨k2, rfl, hk2, rfl, rfl, hb3, hle3, hall3⟩ := hrel
       have hbw : Below w.heap.size w wr := (bx1 HB.out).trans (((bx1 HB2.out).mono (by omega)).trans (hb3.mono (by omega)))
       have HBW := hide hbw
       have hsc := hb3.size
       by_cases hlt2 : k2 < L.length
       ·obtain ⟨r, hrk⟩ : ∃ r, L[k2]? = some r := ⟨_, List.getElem?_eq_getElem hlt2⟩
        rcases hL with hL | ⟨b, off, rfl, hbb, hL⟩
        ·rw [List.map_eq_nil_iff] at hL; rw [hL] at hlt2; simp at hlt2
        ·have hsplit : Hid (recs m = (preR m j ++ L.take k2) ++ r :: (L.drop (k2 + 1) ++ B)) := by
          show _ = _
          rw [hrecs]
          conv => lhs; rw [split_at L k2 r hrk]
          simp
         have hwr := hwf.rs r (by rw [hsplit.out]; simp)
         obtain ⟨c0, c1, c2, c3, c4⟩ := Lies.rat hL hrk
         rw [← hbw.cell (p := ⟨b, off + k2 * 5, none⟩) hbb] at c0
         rw [← hbw.cell (p := ⟨b, off + k2 * 5 + 1, none⟩) hbb] at c1
         rw [← hbw.cell (p := ⟨b, off + k2 * 5 + 2, none⟩) hbb] at c2
         rw [← hbw.cell (p := ⟨b, off + k2 * 5 + 3, none⟩) hbb] at c3
         rw [← hbw.cell (p := ⟨b, off + k2 * 5 + 4, none⟩) hbb] at c4
         clear hbw
         have hwL : w.heap.size + 1 ≤ wr.heap.size := by omega
         by_cases hy : okR r = true ∧ 12 + (qlen m.qs : Int) + (rlen (preR m j ++ L.take k2) : Int) + (r.name.size + 10 + r.data.size) ≤ 512
         ·have hnext : Hid ((preR m j ++ L.take (k2 + 1)).all okR = true) := by
           show _ = _
           rw [take_snoc _ _ _ hrk, ← List.append_assoc, List.all_append, hall3.out]; simp [hy.1]
          have hql : Hid (rlen (preR m j ++ L.take (k2 + 1)) = rlen (preR m j ++ L.take k2) + (r.name.size + 10 + r.data.size)) := by
           show _ = _
           rw [take_snoc _ _ _ hrk, ← List.append_assoc, rlen_append, rlen_one]
          go_wp2_with fail
          refine (withR_yes _ r _ (by omega) (by omega) hwr hy.1 hy.2).mono ?_
          rintro e w1 ⟨rfl, hb4⟩
          go_wp2_with fail
          have hz := hb4.size
          refine ⟨⟨k2 + 1, by go_num, by omega, by rw [hql.out]; go_num, rfl, ?_, by rw [hql.out]; omega, hnext⟩, by simp [intOf]; omega⟩
          exact (hb3.alloc (by omega) _).trans (hb4.mono (by simp; omega))
         ·have hno : Hid (packOk m = false) := pack_r_no hsplit.out (by
           rcases Classical.not_and_iff_not_or_not.1 hy with h | h
           ·exact .inl (by simpa using h)
           ·exact .inr (.inr (by omega)))
          have hy' : okR r = false ∨ 512 < 12 + (qlen m.qs : Int) + (rlen (preR m j ++ L.take k2) : Int) + (r.name.size + 10 + r.data.size) := by
           rcases Classical.not_and_iff_not_or_not.1 hy with h | h
           ·exact .inl (by simpa using h)
           ·exact .inr (by omega)
          clear hy
          go_wp2_with fail
          refine (withR_no _ r _ (by omega) (by omega) hwr hy').mono ?_
          rintro e w1 ⟨x, rfl, hb4⟩
          go_wp2_with fail
          go_ret2
          refine ⟨?_, 0, by rw [hno.out]; rfl, fun h => by rw [hno.out] at h; cases h⟩
          exact (HBW.out.alloc (by omega) _).trans (hb4.mono (by simp; omega))
       ·have hkl : k2 = L.length := by omega
        subst hkl
        go_wp2_with fail
        rw [List.take_length] at hle3 hall3
        exact ⟨⟨j + 1, by go_num, by omega, by rw [hpre, List.take_length], rfl, HB2.out.trans hb3, by rw [hpre]; exact hle3, by rw [hpre]; exact hall3⟩, by simp [intOf]; omega⟩
     ·have hj' : j = 3 := by omega
      subst hj'
      have hyes : Hid (packOk m = true) := by
       refine pack_yes ?_ ?_ ?_ ?_
       ·unfold inRange; exact decide_eq_true ⟨r1, r2, r3, r4⟩
       ·have := hall.out; rw [hkq.out, List.take_length] at this; exact this
       ·have := hall2.out; rw [preR_all] at this; exact this
       ·rw [preR_all] at hle2; exact hle2
      go_wp2_with fail
      go_ret2
      refine ⟨(bx1 HB.out).trans ((bx1 hb2).mono (by omega)), 12 + ((body m).length : Int), ?_, fun _ => rfl⟩
      rw [hyes.out, body_length, ← preR_all, Int.natCast_add, ← Int.add_assoc]
      rfl
 ·have hno : Hid (packOk m = false) := pack_range_no (by unfold inRange; exact decide_eq_false hr)
  have hr' : m.op < 0 ∨ 15 < m.op ∨ m.code < 0 ∨ 15 < m.code := by omega
  clear hr
  go_enter Tryz.func60, Tryz.ntmps60
  unfold msgCells
  go_wp2
  all_goals first | (exfalso; omega) | skip
  all_goals go_ret2
  all_goals exact ⟨(Below.refl _ _).alloc (Nat.le_refl _) _, 0, by rw [hno.out]; rfl, fun h => by rw [hno.out] at h; cases h⟩
attribute [local go_sem] Stg.upon
theorem wirePack_any (m : Msg) (vq va vu vx : Value) (w : World) (hwf : WfM m) (hat : MsgAt w m vq va vu vx) :
  Calls Tryz.prog 30 #[.agg (msgCells m vq va vu vx)] w fun e w' => Below w.heap.size w w' ∧
   (packOk m = false → e = .returned (.tuple #[.slice none 0 0, .int .i64 1])) ∧
   (packOk m = true → ∃ v, e = .returned (.tuple #[v, .int .i64 0]) ∧ w'.ownsRow w.heap.size 5 1 v (pack m).length (bytesV (pack m))) := by
 obtain ⟨i0, hi, hz0, hz1, hz2⟩ := info_parts u8_info
 have hat0 := hat
 obtain ⟨aq, cq, hvq, -, hq⟩ := hat.q
 obtain ⟨aa, ca, hva, -, ha⟩ := hat.a
 obtain ⟨au, cu, hvu, -, hu⟩ := hat.u
 obtain ⟨ax, cx, hvx, -, hx⟩ := hat.x
 rw [List.length_map] at hvq hva hvu hvx
 subst hvq hva hvu hvx
 cases hok : packOk m with
 | false =>
  have HAT := hide (hat.below ((Below.refl _ _).alloc (Nat.le_refl _) (.cells (msgCells m (.slice aq m.qs.length cq) (.slice aa m.an.length ca) (.slice au m.au.length cu) (.slice ax m.ex.length cx)) 30)))
  have HP := hide hok
  clear hok
  go_enter Tryz.func30, Tryz.ntmps30
  unfold msgCells
  go_wp2_with fail
  refine (packedSize_any m _ _ _ _ _ hwf HAT.out).mono ?_
  rintro e w1 ⟨hb1, r, rfl, -⟩
  rw [HP.out]
  go_wp2_with fail
  go_ret2
  refine ⟨((Below.refl _ _).alloc (Nat.le_refl _) _).trans (hb1.mono (by simp)), fun _ => rfl, fun h => by cases h⟩
 | true =>
  have HAT := hide (hat.below ((Below.refl _ _).alloc (Nat.le_refl _) (.cells (msgCells m (.slice aq m.qs.length cq) (.slice aa m.an.length ca) (.slice au m.au.length cu) (.slice ax m.ex.length cx)) 30)))
  have HP := hide hok
  have hr : inRange m = true ∧ m.qs.all okQ = true ∧ (recs m).all okR = true ∧ 12 + (body m).length ≤ 512 := by
   unfold packOk at hok
   simp only [Bool.and_eq_true, decide_eq_true_eq] at hok
   exact ⟨hok.1.1.1, hok.1.1.2, hok.1.2, hok.2⟩
  clear hok
  obtain ⟨hr1, hr2, hr3, hr4⟩ := hr
  have HR1 := hide (of_decide_eq_true hr1)
  have HR2 := hide hr2
  have HR3 := hide hr3
  clear hr1 hr2 hr3
  go_enter Tryz.func30, Tryz.ntmps30
  unfold msgCells
  go_wp2_with fail
  refine (packedSize_any m _ _ _ _ _ hwf HAT.out).mono ?_
  rintro e w1 ⟨hb1, r, rfl, hsz⟩
  have HS := hide (hsz HP.out)
  clear hsz
  rw [HP.out]
  go_wp2_with (at_make; refine wpList_make_own _ rfl _ _ 32 rfl 0 5 i0 (.int .u8 0) 1 und_bytes hi hz0 hz1 _ _ r (12 + (body m).length) rfl rfl (by rw [HS.out]; omega) (by rw [hz2]; omega) (by unfold maxLen; omega) (Nat.zero_le _) ?_; intro w2 ho2 hg2)
  obtain ⟨M, hM⟩ : ∃ M : Obj, M = .cells (msgCells m (.slice aq m.qs.length cq) (.slice aa m.an.length ca) (.slice au m.au.length cu) (.slice ax m.ex.length cx)) 30 := ⟨_, rfl⟩
  obtain ⟨L6, hL6⟩ : ∃ L6 : Obj, L6 = .cells #[.int .u16 m.id, .int .u16 (flags m), .int .u16 m.qs.length, .int .u16 m.an.length, .int .u16 m.au.length, .int .u16 m.ex.length] 26 := ⟨_, rfl⟩
  obtain ⟨f, hf0, hf1, hf2, hfp⟩ := Stg.cover3 w2 (w2.alloc M) ((w2.alloc M).alloc L6)
  refine Stg.wp_region_stage [3, 6, 9, 12, 15, 16] (fun j w' => ∃ n, w' = (Stg.pick3 6 w2 (w2.alloc M) ((w2.alloc M).alloc L6) j).drewN n) (by kernel_rfl) (by kernel_rfl) ⟨1, rfl⟩ ?_
  have HU := hide (Stg.pick3_cover hf0 hf1 hf2 6 7)
  have hcell : ∀ k o, (f k).cell? ⟨w.heap.size, o, none⟩ = (msgCells m (.slice aq m.qs.length cq) (.slice aa m.an.length ca) (.slice au m.au.length cu) (.slice ax m.ex.length cx))[o]? := by
   have hb1' := hb1
   rw [alloc_size] at hb1'
   have q1 : w.heap.size + 1 ≤ w1.heap.size := bx2 hb1'
   have q2 := hg2.size
   have h2 : w2.heap[w.heap.size]? = some M := by rw [hg2.block _ (by omega) (by simp), hM]; exact bx0 hb1'
   refine fun k => hfp (fun x => ∀ o, x.cell? ⟨w.heap.size, o, none⟩ = (msgCells m (.slice aq m.qs.length cq) (.slice aa m.an.length ca) (.slice au m.au.length cu) (.slice ax m.ex.length cx))[o]?) (fun n => ?_) (fun n => ?_) (fun n => ?_) k
   ·exact box_cells (w := w2.drewN n) (by show w2.heap[w.heap.size]? = _; rw [h2, hM])
   ·exact box_cells (w := (w2.alloc M).drewN n) (by show (w2.heap.push M)[w.heap.size]? = _; rw [Array.getElem?_push, if_neg (by omega), h2, hM])
   ·exact box_cells (w := ((w2.alloc M).alloc L6).drewN n) (by show ((w2.heap.push M).push L6)[w.heap.size]? = _; rw [Array.getElem?_push, if_neg (by simp; omega), Array.getElem?_push, if_neg (by omega), h2, hM])
  have HM := hide hM
  have HL6 := hide hL6
  obtain ⟨l1, l2, l3, l4⟩ := lens_of_body hr4
  clear hf0 hf1 hf2 hfp hM hL6
  simp only [msgCells] at hcell
  refine Stg.lex_upto 3 7 (by decide) (by kernel_rfl) HU.out ?_
  simp only [List.take_succ_cons, List.take_zero, List.drop_succ_cons, List.drop_zero]
  repeat (first | go_big_quiet_step (fail) | quiet_step (fail))
  refine wpQuiet_nil ?_
  refine Stg.lex_move 0 (by kernel_rfl) (.int .u16 (flags m)) ?_ ?_
  ·rintro w' ⟨n, rfl⟩
   go_simp
   refine (packFlags_any _ _ _ _ _ _ _ _ _ _ _ _ _ HR1.out.1 HR1.out.2.1 HR1.out.2.2.1 HR1.out.2.2.2).mono ?_
   rintro e w'' ⟨rfl, k, rfl⟩
   exact ⟨rfl, n + k, by rw [alloc_drewN, World.drewN_drewN, HM.out]; rfl⟩
  refine Stg.lex_upto 2 7 (by decide) (by kernel_rfl) HU.out ?_
  simp only [List.take_succ_cons, List.take_zero, List.drop_succ_cons, List.drop_zero]
  repeat (first | go_big_quiet_step (fail) | quiet_step (fail))
  refine wpQuiet_nil ?_
  refine Stg.lex_move 1 (by kernel_rfl) (.int .u16 m.qs.length) ?_ ?_
  ·rintro w' ⟨n, rfl⟩
   go_simp
   exact (countQ_any _ _ _ (by omega) _).mono fun e w'' ⟨he, hw⟩ => ⟨he, n, hw⟩
  refine Stg.lex_upto 2 7 (by decide) (by kernel_rfl) HU.out ?_
  simp only [List.take_succ_cons, List.take_zero, List.drop_succ_cons, List.drop_zero]
  repeat (first | go_big_quiet_step (fail) | quiet_step (fail))
  refine wpQuiet_nil ?_
  refine Stg.lex_move 2 (by kernel_rfl) (.int .u16 m.an.length) ?_ ?_
  ·rintro w' ⟨n, rfl⟩
   go_simp
   exact (countR_any _ _ _ (by omega) _).mono fun e w'' ⟨he, hw⟩ => ⟨he, n, hw⟩
  refine Stg.lex_upto 2 7 (by decide) (by kernel_rfl) HU.out ?_
  simp only [List.take_succ_cons, List.take_zero, List.drop_succ_cons, List.drop_zero]
  repeat (first | go_big_quiet_step (fail) | quiet_step (fail))
  refine wpQuiet_nil ?_
  refine Stg.lex_move 3 (by kernel_rfl) (.int .u16 m.au.length) ?_ ?_
  ·rintro w' ⟨n, rfl⟩
   go_simp
   exact (countR_any _ _ _ (by omega) _).mono fun e w'' ⟨he, hw⟩ => ⟨he, n, hw⟩
  refine Stg.lex_upto 2 7 (by decide) (by kernel_rfl) HU.out ?_
  simp only [List.take_succ_cons, List.take_zero, List.drop_succ_cons, List.drop_zero]
  repeat (first | go_big_quiet_step (fail) | quiet_step (fail))
  refine wpQuiet_nil ?_
  refine Stg.lex_move 4 (by kernel_rfl) (.int .u16 m.ex.length) ?_ ?_
  ·rintro w' ⟨n, rfl⟩
   go_simp
   exact (countR_any _ _ _ (by omega) _).mono fun e w'' ⟨he, hw⟩ => ⟨he, n, hw⟩
  refine Stg.lex_move 5 (by kernel_rfl) (.slice (some ⟨w2.heap.size + 1, 0, none⟩) 6 6) ?_ ?_
  ·rintro w' ⟨n, rfl⟩
   have e5 : (Stg.pick3 6 w2 (w2.alloc M) ((w2.alloc M).alloc L6) 5) = w2.alloc M := rfl
   have e6 : (Stg.pick3 6 w2 (w2.alloc M) ((w2.alloc M).alloc L6) (5 + 1)) = (w2.alloc M).alloc L6 := rfl
   rw [e5, e6]
   go_simp
   exact ⟨n, by rw [alloc_drewN, HL6.out]⟩
  refine Stg.lex_upto 2 7 (by decide) (by kernel_rfl) HU.out ?_
  simp only [List.take_succ_cons, List.take_zero, List.drop_succ_cons, List.drop_zero]
  repeat (first | go_big_quiet_step (fail) | quiet_step (fail))
  refine wpQuiet_nil ?_
  refine Stg.lex_nil ?_
  rintro w3 ⟨nq, rfl⟩
  have e6 : (Stg.pick3 6 w2 (w2.alloc M) ((w2.alloc M).alloc L6) [3, 6, 9, 12, 15, 16].length) = (w2.alloc M).alloc L6 := rfl
  rw [e6]
  clear hcell HU
  have hs2 : w1.heap.size < w2.heap.size := by
   have := (ho2.lt w1.heap.size rfl).2; omega
  rw [alloc_size] at hb1
  have hs1 : w.heap.size + 1 ≤ w1.heap.size := bx2 hb1
  obtain ⟨w3, hw3⟩ : ∃ w3 : World, w3 = (((w2.alloc M).alloc L6).drewN nq) := ⟨_, rfl⟩
  have hb3 : Below w.heap.size w w3 := by
   rw [hw3]
   refine below_drewN ?_ _
   refine ((((bx1 hb1).trans ((below_grownBy hg2).mono (by omega))).alloc (by omega) _).alloc (by simp; omega) _)
  have hs3 : w3.heap.size = w2.heap.size + 2 := by rw [hw3]; show ((w2.heap.push _).push _).size = _; simp
  have hM3 : w3.heap[w.heap.size]? = some M := by
   have h1 : w1.heap[w.heap.size]? = some M := by rw [HM.out]; exact bx0 hb1
   have h2 : w2.heap[w.heap.size]? = some M := by rw [hg2.block _ (by omega) (by simp)]; exact h1
   rw [hw3]
   show ((w2.heap.push _).push _)[w.heap.size]? = _
   rw [Array.getElem?_push, if_neg (by simp; omega), Array.getElem?_push, if_neg (by omega)]; exact h2
  have hL3 : w3.heap[w2.heap.size + 1]? = some L6 := by
   rw [hw3]
   show ((w2.heap.push _).push _)[w2.heap.size + 1]? = _
   rw [Array.getElem?_push, if_pos (by simp)]
  have ho3 : w3.ownsRow 0 5 1 (.slice (some ⟨w1.heap.size, 0, none⟩) 0 (12 + (body m).length)) 0 [] := by
   rw [hw3]
   exact ((ho2.alloc _).alloc _).kept (grownBy_drewN _ _ none) (.inr (by simp [Value.ownBlock]))
  rw [← hw3]
  clear hw3
  have HM3 := hide hM3
  have HL3 := hide hL3
  have HO3 := hide ho3
  have HB3 := hide hb3
  have HSH := hide (shorts_range hwf HR1.out ⟨l1, l2, l3, l4⟩)
  clear hM3 hL3 ho3 hb3 hb1 hg2 ho2
  go_wp2_with fail
  go_loopw [6, 42] (fun v i wr => ∃ k : Nat, i = .int .i64 k ∧ k ≤ 6 ∧ Grew 5 1 w3 wr (.slice (some ⟨w1.heap.size, 0, none⟩) 0 (12 + (body m).length)) v (2 * k) (bytesV (((shorts m).take k).flatMap two))) (fun _ i _ => 6 - (intOf i).toNat)
  case atStart => exact ⟨0, rfl, Nat.zero_le _, Grew.refl HO3.out⟩
  case round =>
   obtain ⟨k, rfl, hk, hg⟩ := hrel
   by_cases hk6 : k < 6
   ·obtain ⟨x, hx⟩ : ∃ x, (shorts m)[k]? = some x := ⟨_, List.getElem?_eq_getElem (by simpa [shorts] using hk6)⟩
    have hxr := HSH.out x (List.mem_of_getElem? hx)
    have ck : wr.cell? ⟨w2.heap.size + 1, k, none⟩ = some (.int .u16 x) := by
     have h1 := (hg.keeps (b := w2.heap.size + 1) (by omega) (by simp [Value.ownBlock]; omega)).1.trans HL3.out
     rw [HL6.out] at h1
     rw [box_cells h1 k]
     have : (#[Value.int .u16 m.id, .int .u16 (flags m), .int .u16 m.qs.length, .int .u16 m.an.length, .int .u16 m.au.length, .int .u16 m.ex.length] : Array Value)[k]? = ((shorts m)[k]?).map (fun y => Value.int .u16 y) := by
      rcases (show k = 0 ∨ k = 1 ∨ k = 2 ∨ k = 3 ∨ k = 4 ∨ k = 5 from by omega) with rfl | rfl | rfl | rfl | rfl | rfl <;> rfl
     rw [this, hx]; rfl
    have HX := hide hx
    clear hx
    go_wp2_with fail
    refine (addShort_any _ _ _ _ _ hxr.1 hxr.2 hg.own (by omega)).mono ?_
    rintro e w4 ⟨v4, rfl, g4⟩
    go_wp2_with fail
    have g5 := hg.trans g4
    rw [← bytesV_append, ← two_prefix _ _ _ HX.out] at g5
    exact ⟨⟨k + 1, by go_num, by omega, g5⟩, by simp [intOf]; omega⟩
   ·have HK6 : Hid (k = 6) := by show _ = _; omega
    have hMk : wr.heap[w.heap.size]? = some M := (hg.keeps (b := w.heap.size) (by omega) (by simp [Value.ownBlock]; omega)).1.trans HM3.out
    rw [HM.out] at hMk
    have hcb := box_cells hMk
    simp only [msgCells] at hcb
    clear hMk
    rw [HK6.out, show (shorts m).take 6 = shorts m from rfl, shorts_head] at hg
    have HG1 := hide hg
    clear hg
    go_wp2_with fail
    obtain ⟨wa, rfl⟩ : ∃ wa : World, wa = wr := ⟨_, rfl⟩
    clear hcb
    obtain ⟨y1, rfl⟩ : ∃ y1 : Value, y1 = u6 := ⟨_, rfl⟩
    go_loopw [6, 53] (fun v i wr => ∃ k : Nat, i = .int .i64 k ∧ k ≤ m.qs.length ∧ Grew 5 1 w3 wr (.slice (some ⟨w1.heap.size, 0, none⟩) 0 (12 + (body m).length)) v (12 + qlen (m.qs.take k)) (bytesV (head m ++ (m.qs.take k).flatMap qbytes))) (fun _ i _ => m.qs.length - (intOf i).toNat)
    case atStart => exact ⟨0, rfl, Nat.zero_le _, by simpa [qlen] using HG1.out⟩
    case round =>
     obtain ⟨k, rfl, hk, hg⟩ := hrel
     have hbw : Below w.heap.size w wr := HB3.out.trans (hg.below (B := w.heap.size) (by omega) (by simp [Value.ownBlock]; omega)).1
     by_cases hlt : k < m.qs.length
     ·obtain ⟨q, hqk⟩ : ∃ q, m.qs[k]? = some q := ⟨_, List.getElem?_eq_getElem hlt⟩
      rcases hq with hq | ⟨b, off, rfl, hbq, hq⟩
      ·rw [List.map_eq_nil_iff] at hq; rw [hq] at hlt; simp at hlt
      ·have hwq := hwf.qs q (List.mem_of_getElem? hqk)
       have hoq : nameB q.name = true := List.all_eq_true.1 HR2.out q (List.mem_of_getElem? hqk)
       have hqs := (nameB_size hoq).2
       have hle : qlen (m.qs.take k) ≤ 512 := by
        have h1 := qlen_take m.qs k
        rw [body_length] at hr4; omega
       obtain ⟨c0, c1, c2⟩ := Lies.qat hq hqk
       rw [← hbw.cell (p := ⟨b, off + k * 3, none⟩) hbq] at c0
       rw [← hbw.cell (p := ⟨b, off + k * 3 + 1, none⟩) hbq] at c1
       rw [← hbw.cell (p := ⟨b, off + k * 3 + 2, none⟩) hbq] at c2
       clear hbw hoq
       have HQK := hide hqk
       clear hqk
       go_wp2_with fail
       refine (addQ_any _ _ _ q.name q.kind q.cls _ hwq.k0 hwq.k1 hwq.c0 hwq.c1 hqs (hg.own.alloc _) (by omega)).mono ?_
       rintro e w4 ⟨v4, rfl, g4⟩
       go_wp2_with fail
       have g5 := hg.trans (g4.pre (World.grownBy_alloc wr _ _))
       have e1 : 12 + qlen (m.qs.take k) + (qbytes q).length = 12 + qlen (m.qs.take (k + 1)) := by
        rw [take_snoc _ _ _ HQK.out, qlen_append]; simp [qlen]; omega
       have e2 : bytesV (head m ++ (m.qs.take k).flatMap qbytes) ++ bytesV (qbytes q) = bytesV (head m ++ (m.qs.take (k + 1)).flatMap qbytes) := by
        rw [take_snoc _ _ _ HQK.out]; simp [bytesV_append]
       rw [show (⟨q.name, q.kind, q.cls⟩ : Qn) = q from rfl, e1, e2] at g5
       exact ⟨⟨k + 1, by go_num, by omega, g5⟩, by simp [intOf]; omega⟩
     ·have hkl : k = m.qs.length := by omega
      subst hkl
      have hMk : wr.heap[w.heap.size]? = some M := (hg.keeps (b := w.heap.size) (by omega) (by simp [Value.ownBlock]; omega)).1.trans HM3.out
      rw [HM.out] at hMk
      have hcb := box_cells hMk
      simp only [msgCells] at hcb
      clear hMk
      rw [List.take_length] at hg
      have HG2 := hide hg
      have HBW := hide hbw
      have hsr := hg.grown.size
      clear hg hbw
      go_wp2_with fail
      obtain ⟨wb, rfl⟩ : ∃ wb : World, wb = wr := ⟨_, rfl⟩
      clear hcb
      obtain ⟨y2, rfl⟩ : ∃ y2 : Value, y2 = u6 := ⟨_, rfl⟩
      have ho6 : (wb.alloc (.cells #[.slice aa m.an.length ca, .slice au m.au.length cu, .slice ax m.ex.length cx] 28)).ownsRow 0 5 1 y2 (12 + qlen m.qs) (bytesV (head m ++ m.qs.flatMap qbytes)) := HG2.out.own.alloc _
      have HO6 := hide ho6
      have hy2 : ∀ k, y2.ownBlock = some k → w.heap.size ≤ k := (HG2.out.below (B := w.heap.size) (by omega) (by simp [Value.ownBlock]; omega)).2
      have HY2 := hide hy2
      have HNE := hide (own_ne HG2.out.own (Nat.le_refl wb.heap.size))
      clear ho6 hy2
      go_loopw [6, 69] (fun v i wr => ∃ j : Nat, i = .int .i64 j ∧ j ≤ 3 ∧ Grew 5 1 (wb.alloc (.cells #[.slice aa m.an.length ca, .slice au m.au.length cu, .slice ax m.ex.length cx] 28)) wr y2 v (12 + qlen m.qs + rlen (preR m j)) (bytesV (head m ++ m.qs.flatMap qbytes ++ (preR m j).flatMap rbytes))) (fun _ i _ => 3 - (intOf i).toNat)
      case atStart => exact ⟨0, rfl, Nat.zero_le _, by simpa [preR, rlen] using Grew.refl HO6.out⟩
      case round =>
       obtain ⟨j, rfl, hj, hg⟩ := hrel
       by_cases hj3 : j < 3
       ·obtain ⟨L, vL, hv, hL, hpre, ⟨B, hrecs⟩, hlen⟩ := list_at hat hwf j hj3
        obtain ⟨aL, cL, rfl, -, hL⟩ := hL
        rw [List.length_map] at hv
        have ci := box_cells ((hg.keeps (b := wb.heap.size) (by rw [alloc_size]; omega) HNE.out).1.trans (heap_new wb _)) j
        rw [hv] at ci
        have HV := hide hv
        have HPRE := hide hpre
        have HRECS := hide hrecs
        clear hv hpre hrecs
        have hj3b : decide ((j : Int) < 3) = true := decide_eq_true (by omega)
        go_wp2_with fail
        obtain ⟨wc, rfl⟩ : ∃ wc : World, wc = wr := ⟨_, rfl⟩
        obtain ⟨y3, rfl⟩ : ∃ y3 : Value, y3 = u6 := ⟨_, rfl⟩
        have HG3 := hide hg
        clear hg ci
        go_loopw [6, 75] (fun v i wr => ∃ k : Nat, i = .int .i64 k ∧ k ≤ L.length ∧ Grew 5 1 (wb.alloc (.cells #[.slice aa m.an.length ca, .slice au m.au.length cu, .slice ax m.ex.length cx] 28)) wr y2 v (12 + qlen m.qs + rlen (preR m j ++ L.take k)) (bytesV (head m ++ m.qs.flatMap qbytes ++ (preR m j ++ L.take k).flatMap rbytes))) (fun _ i _ => L.length - (intOf i).toNat)
        case atStart => exact ⟨0, rfl, Nat.zero_le _, by simpa using HG3.out⟩
        case round =>
         obtain ⟨k2, rfl, hk2, hg⟩ := hrel
         by_cases hlt2 : k2 < L.length
         ·obtain ⟨r, hrk⟩ : ∃ r, L[k2]? = some r := ⟨_, List.getElem?_eq_getElem hlt2⟩
          have hbw : Below w.heap.size w wr := (HBW.out.alloc (by omega) _).trans (hg.below (B := w.heap.size) (by rw [alloc_size]; omega) HY2.out).1
          rcases hL with hL | ⟨b, off, rfl, hbb, hL⟩
          ·rw [List.map_eq_nil_iff] at hL; rw [hL] at hlt2; simp at hlt2
          ·have hsplit : recs m = (preR m j ++ L.take k2) ++ r :: (L.drop (k2 + 1) ++ B) := by
            rw [HRECS.out]
            conv => lhs; rw [split_at L k2 r hrk]
            simp
           have hmem : r ∈ recs m := by rw [hsplit]; simp
           have hwr := hwf.rs r hmem
           have hor : okR r = true := List.all_eq_true.1 HR3.out r hmem
           have hrn : nameB r.name = true := by unfold okR at hor; simp only [Bool.and_eq_true] at hor; exact hor.1
           have hrs := (nameB_size hrn).2
           have hle : rlen (preR m j ++ L.take k2) + (r.name.size + 10 + r.data.size) ≤ 512 := by
            have h1 := rlen_prefix (preR m j ++ L.take k2 ++ [r]) (recs m) ⟨L.drop (k2 + 1) ++ B, by rw [hsplit]; simp⟩
            rw [rlen_append, rlen_one] at h1
            rw [body_length] at hr4; omega
           have hql : qlen m.qs ≤ 512 := by rw [body_length] at hr4; omega
           obtain ⟨c0, c1, c2, c3, c4⟩ := Lies.rat hL hrk
           rw [← hbw.cell (p := ⟨b, off + k2 * 5, none⟩) hbb] at c0
           rw [← hbw.cell (p := ⟨b, off + k2 * 5 + 1, none⟩) hbb] at c1
           rw [← hbw.cell (p := ⟨b, off + k2 * 5 + 2, none⟩) hbb] at c2
           rw [← hbw.cell (p := ⟨b, off + k2 * 5 + 3, none⟩) hbb] at c3
           rw [← hbw.cell (p := ⟨b, off + k2 * 5 + 4, none⟩) hbb] at c4
           have HRK := hide hrk
           clear hbw hsplit hor hrn hrk hmem
           go_wp2_with fail
           refine (addR_any _ _ _ r.name r.kind r.cls r.ttl r.data _ hwr.k0 hwr.k1 hwr.c0 hwr.c1 hwr.t0 hwr.t1 hrs (by omega) (hg.own.alloc _) (by omega)).mono ?_
           rintro e w4 ⟨v4, rfl, g4⟩
           go_wp2_with fail
           have g5 := hg.trans (g4.pre (World.grownBy_alloc wr _ _))
           have e1 : 12 + qlen m.qs + rlen (preR m j ++ L.take k2) + (rbytes r).length = 12 + qlen m.qs + rlen (preR m j ++ L.take (k2 + 1)) := by
            rw [take_snoc _ _ _ HRK.out, ← List.append_assoc, rlen_append (preR m j ++ L.take k2)]; simp [rlen]; omega
           have e2 : bytesV (head m ++ m.qs.flatMap qbytes ++ (preR m j ++ L.take k2).flatMap rbytes) ++ bytesV (rbytes r) = bytesV (head m ++ m.qs.flatMap qbytes ++ (preR m j ++ L.take (k2 + 1)).flatMap rbytes) := by
            rw [take_snoc _ _ _ HRK.out]; simp [bytesV_append]
           rw [show (⟨r.name, r.kind, r.cls, r.ttl, r.data⟩ : Rc) = r from rfl, e1, e2] at g5
           exact ⟨⟨k2 + 1, by go_num, by omega, g5⟩, by simp [intOf]; omega⟩
         ·have hkl : k2 = L.length := by omega
          subst hkl
          rw [List.take_length, ← HPRE.out] at hg
          go_wp2_with fail
          exact ⟨⟨j + 1, by go_num, by omega, hg⟩, by simp [intOf]; omega⟩
       ·have hj' : j = 3 := by omega
        rw [hj', preR_all] at hg
        have HG4 := hide hg
        clear hg hj'
        go_wp2_with fail
        go_ret2
        have hg := HG4.out
        have hbl := hg.below (B := w.heap.size) (by rw [alloc_size]; omega) HY2.out
        refine ⟨(HBW.out.alloc (by omega) _).trans hbl.1, (fun h => by cases h), fun _ => ⟨_, rfl, ?_⟩⟩
        have e1 : 12 + qlen m.qs + rlen (recs m) = (pack m).length := by
         unfold pack; rw [List.length_append, length_head, body_length]; omega
        have e2 : head m ++ m.qs.flatMap qbytes ++ (recs m).flatMap rbytes = pack m := by
         unfold pack body; rw [List.append_assoc]
        rw [e1, e2] at hg
        exact own_base hg.own hbl.2
end Go.Proofs.YtafoepfhepdcoaaGreat
