import Derived.Test.YtafoepfhepdcoaaGreatM6
import Derived.Test.YtafoepfhepdcoaaGreatM2
set_option maxRecDepth 100000
set_option maxHeartbeats 8000000
namespace Go.Proofs.YtafoepfhepdcoaaGreat
open Go.RowKit Go.Trawl
theorem withQ_yes (size : Int) (q : Qn) (w : World) (h0 : 0 ≤ size) (h1 : size ≤ 512) (hq : WfQ q) (hn : nameB q.name = true) (hl : size + (q.name.size + 4) ≤ 512) :
  Calls Tryz.prog 95 #[.int .i64 size, .agg #[.string q.name, .int .u16 q.kind, .int .u16 q.cls]] w fun e w' => e = .returned (.tuple #[.int .i64 (size + (q.name.size + 4)), .bool true]) ∧ Below w.heap.size w w' := by
 have h := withQ_any size q.name q.kind q.cls w h0 h1 (by have := hq.name; unfold maxLen; omega)
 refine h.mono fun e w' ⟨he, hb⟩ => ⟨?_, hb⟩
 rw [he, withQ, if_pos hn, decide_eq_true hl]
theorem withQ_no (size : Int) (q : Qn) (w : World) (h0 : 0 ≤ size) (h1 : size ≤ 512) (hq : WfQ q) (hn : nameB q.name = false ∨ 512 < size + (q.name.size + 4)) :
  Calls Tryz.prog 95 #[.int .i64 size, .agg #[.string q.name, .int .u16 q.kind, .int .u16 q.cls]] w fun e w' => ∃ r, e = .returned (.tuple #[.int .i64 r, .bool false]) ∧ Below w.heap.size w w' := by
 have h := withQ_any size q.name q.kind q.cls w h0 h1 (by have := hq.name; unfold maxLen; omega)
 refine h.mono fun e w' ⟨he, hb⟩ => ?_
 rw [he, withQ]
 rcases hn with hn | hn
 ·rw [if_neg (by rw [hn]; exact Bool.false_ne_true)]; exact ⟨_, rfl, hb⟩
 ·split
  ·exact ⟨_, by rw [decide_eq_false (by simp only []; omega)], hb⟩
  ·exact ⟨_, rfl, hb⟩
theorem withR_yes (size : Int) (r : Rc) (w : World) (h0 : 0 ≤ size) (h1 : size ≤ 512) (hr : WfR r) (hn : okR r = true) (hl : size + (r.name.size + 10 + r.data.size) ≤ 512) :
  Calls Tryz.prog 96 #[.int .i64 size, .agg #[.string r.name, .int .u16 r.kind, .int .u16 r.cls, .int .u32 r.ttl, .string r.data]] w fun e w' => e = .returned (.tuple #[.int .i64 (size + (r.name.size + 10 + r.data.size)), .bool true]) ∧ Below w.heap.size w w' := by
 have h := withR_any size r.name r.kind r.cls r.ttl r.data w h0 h1 (by have := hr.name; unfold maxLen; omega) (by have := hr.data; unfold maxLen; omega)
 refine h.mono fun e w' ⟨he, hb⟩ => ⟨?_, hb⟩
 have : (okR r && decide (r.data.size ≤ 512)) = true := by rw [hn, decide_eq_true (by omega)]; rfl
 rw [he, withR, if_pos this, decide_eq_true hl]
theorem withR_no (size : Int) (r : Rc) (w : World) (h0 : 0 ≤ size) (h1 : size ≤ 512) (hr : WfR r) (hn : okR r = false ∨ 512 < size + (r.name.size + 10 + r.data.size)) :
  Calls Tryz.prog 96 #[.int .i64 size, .agg #[.string r.name, .int .u16 r.kind, .int .u16 r.cls, .int .u32 r.ttl, .string r.data]] w fun e w' => ∃ x, e = .returned (.tuple #[.int .i64 x, .bool false]) ∧ Below w.heap.size w w' := by
 have h := withR_any size r.name r.kind r.cls r.ttl r.data w h0 h1 (by have := hr.name; unfold maxLen; omega) (by have := hr.data; unfold maxLen; omega)
 refine h.mono fun e w' ⟨he, hb⟩ => ?_
 rw [he, withR]
 rcases hn with hn | hn
 ·rw [if_neg (by rw [show okR (⟨r.name, r.kind, r.cls, r.ttl, r.data⟩ : Rc) = false from hn]; exact Bool.false_ne_true)]; exact ⟨_, rfl, hb⟩
 ·split
  ·exact ⟨_, by rw [decide_eq_false (by simp only []; omega)], hb⟩
  ·exact ⟨_, rfl, hb⟩
theorem all_snoc {α : Type} {p : α → Bool} {l : List α} {k : Nat} {x : α} (h : (l.take k).all p = true) (hx : l[k]? = some x) (hp : p x = true) : (l.take (k + 1)).all p = true := by
 rw [take_snoc l k x hx, List.all_append, h]; simp [hp]
theorem bx0 {w wr : World} {o : Obj} (h : Below (w.heap.size + 1) (w.alloc o) wr) : wr.heap[w.heap.size]? = some o := by
 rw [h.block _ (by omega)]; exact heap_new _ _
theorem bx1 {w wr : World} {o : Obj} (h : Below (w.heap.size + 1) (w.alloc o) wr) : Below w.heap.size w wr :=
 ((Below.refl _ _).alloc (Nat.le_refl _) o).trans (h.mono (by omega))
theorem bx2 {w wr : World} {o : Obj} (h : Below (w.heap.size + 1) (w.alloc o) wr) : w.heap.size + 1 ≤ wr.heap.size := by
 have := h.size; simpa using this
theorem packedSize_any (m : Msg) (vq va vu vx : Value) (w : World) (hwf : WfM m) (hat : MsgAt w m vq va vu vx) :
    Calls Tryz.prog 60 #[.agg (msgCells m vq va vu vx)] w fun e w' => Below w.heap.size w w' ∧ ∃ r, e = .returned (.tuple #[.int .i64 r, .bool (packOk m)]) ∧ (packOk m = true → r = 12 + (body m).length) := by
  obtain ⟨aq, cq, hvq, -, hq⟩ := hat.q
  obtain ⟨aa, ca, hva, -, ha⟩ := hat.a
  obtain ⟨au, cu, hvu, -, hu⟩ := hat.u
  obtain ⟨ax, cx, hvx, -, hx⟩ := hat.x
  rw [List.length_map] at hvq hva hvu hvx
  subst hvq hva hvu hvx
  have hop0 := hwf.op0
  have hop1 := hwf.op1
  have hco0 := hwf.code0
  have hco1 := hwf.code1
  have hnq := hwf.nq
  have hna := hwf.na
  have hnu := hwf.nu
  have hnx := hwf.nx
  by_cases hr : 0 ≤ m.op ∧ m.op ≤ 15 ∧ 0 ≤ m.code ∧ m.code ≤ 15
  · obtain ⟨r1, r2, r3, r4⟩ := hr
    go_enter Tryz.func60, Tryz.ntmps60
    unfold msgCells
    go_wp2
    go_loopw [4, 5, 33] (fun s ok i wr => ∃ k : Nat, i = .int .i64 k ∧ k ≤ m.qs.length ∧ s = .int .i64 (12 + (qlen (m.qs.take k) : Int)) ∧ ok = .bool true ∧ Below (w.heap.size + 1) (w.alloc (.cells (msgCells m (.slice aq m.qs.length cq) (.slice aa m.an.length ca) (.slice au m.au.length cu) (.slice ax m.ex.length cx)) 30)) wr ∧ 12 + qlen (m.qs.take k) ≤ 512 ∧ Hid ((m.qs.take k).all okQ = true)) (fun _ _ i _ => m.qs.length - (intOf i).toNat)
    case atStart => exact ⟨0, rfl, Nat.zero_le _, rfl, rfl, Below.refl _ _, by simp [qlen], rfl⟩
    case round =>
      obtain ⟨k, rfl, hk, rfl, rfl, hb, hle, hall⟩ := hrel
      by_cases hlt : k < m.qs.length
      · obtain ⟨q, hqk⟩ : ∃ q, m.qs[k]? = some q := ⟨_, List.getElem?_eq_getElem hlt⟩
        rcases hq with hq | ⟨b, off, rfl, hbw, hq⟩
        · rw [List.map_eq_nil_iff] at hq; rw [hq] at hlt; simp at hlt
        · have hwq := hwf.qs q (List.mem_of_getElem? hqk)
          obtain ⟨c0, c1, c2⟩ := Lies.qat hq hqk
          rw [← (bx1 hb).cell (p := ⟨b, off + k * 3, none⟩) hbw] at c0
          rw [← (bx1 hb).cell (p := ⟨b, off + k * 3 + 1, none⟩) hbw] at c1
          rw [← (bx1 hb).cell (p := ⟨b, off + k * 3 + 2, none⟩) hbw] at c2
          have hsz := bx2 hb
          by_cases hy : nameB q.name = true ∧ 12 + (qlen (m.qs.take k) : Int) + (q.name.size + 4) ≤ 512
          · have hnext : Hid ((m.qs.take (k + 1)).all okQ = true) := all_snoc hall.out hqk hy.1
            have hql : Hid (qlen (m.qs.take (k + 1)) = qlen (m.qs.take k) + (q.name.size + 4)) := by
              show _ = _
              rw [take_snoc _ _ _ hqk, qlen_append, qlen_one]
            go_wp2_with fail
            refine (withQ_yes _ q _ (by omega) (by omega) hwq hy.1 hy.2).mono ?_
            rintro e w1 ⟨rfl, hb1⟩
            go_wp2_with fail
            have hz := hb1.size
            refine ⟨⟨k + 1, by go_num, by omega, by rw [hql.out]; go_num, rfl, ?_, by rw [hql.out]; omega, hnext⟩, by simp [intOf]; omega⟩
            exact (hb.alloc (by omega) _).trans (hb1.mono (by simp; omega))
          · have hno : Hid (packOk m = false) := pack_q_no (split_at _ _ _ hqk) (by
              rcases Classical.not_and_iff_not_or_not.1 hy with h | h
              · exact .inl (by simpa using h)
              · exact .inr (by omega))
            have hy' : nameB q.name = false ∨ 512 < 12 + (qlen (m.qs.take k) : Int) + (q.name.size + 4) := by
              rcases Classical.not_and_iff_not_or_not.1 hy with h | h
              · exact .inl (by simpa using h)
              · exact .inr (by omega)
            clear hy
            go_wp2_with fail
            refine (withQ_no _ q _ (by omega) (by omega) hwq hy').mono ?_
            rintro e w1 ⟨r, rfl, hb1⟩
            go_wp2_with fail
            go_ret2
            refine ⟨?_, 0, by rw [hno.out]; rfl, fun h => by rw [hno.out] at h; cases h⟩
            exact ((bx1 hb).alloc (by omega) _).trans (hb1.mono (by simp; omega))
      · have hcb := box_cells (bx0 hb)
        simp only [msgCells] at hcb
        have hkq : Hid (k = m.qs.length) := by show _ = _; omega
        go_wp2_with fail
        obtain ⟨wa, rfl⟩ : ∃ wa : World, wa = wr := ⟨_, rfl⟩
        have hsa := bx2 hb
        have HB : Hid _ := hb
        have HC : Hid _ := hcb
        clear hb hcb
        go_loopw [4, 5, 54] (fun s ok i wb => ∃ j : Nat, i = .int .i64 j ∧ j ≤ 3 ∧ s = .int .i64 (12 + (qlen m.qs : Int) + (rlen (preR m j) : Int)) ∧ ok = .bool true ∧ Below (wa.heap.size + 1) (wa.alloc (.cells #[.slice aa m.an.length ca, .slice au m.au.length cu, .slice ax m.ex.length cx] 28)) wb ∧ 12 + qlen m.qs + rlen (preR m j) ≤ 512 ∧ Hid ((preR m j).all okR = true)) (fun _ _ i _ => 3 - (intOf i).toNat)
        case atStart => exact ⟨0, rfl, Nat.zero_le _, by rw [hkq.out, List.take_length]; simp [preR, rlen], rfl, Below.refl _ _, by rw [hkq.out, List.take_length] at hle; simpa [preR, rlen] using hle, rfl⟩
        case round =>
          obtain ⟨j, rfl, hj, rfl, rfl, hb2, hle2, hall2⟩ := hrel
          by_cases hj3 : j < 3
          · obtain ⟨L, v, hv, hL, hpre, ⟨B, hrecs⟩, hlen⟩ := list_at hat hwf j hj3
            obtain ⟨aL, cL, rfl, -, hL⟩ := hL
            rw [List.length_map] at hv
            have ci := box_cells (bx0 hb2) j
            rw [hv] at ci
            have HV := hide hv
            clear hv
            have hj3b : decide ((j : Int) < 3) = true := decide_eq_true (by omega)
            go_wp2_with fail
            obtain ⟨wb, rfl⟩ : ∃ wb : World, wb = wr := ⟨_, rfl⟩
            have HB2 : Hid _ := hb2
            have hsb := bx2 hb2
            clear hb2 ci
            go_loopw [4, 5, 60] (fun s ok i wc => ∃ k : Nat, i = .int .i64 k ∧ k ≤ L.length ∧ s = .int .i64 (12 + (qlen m.qs : Int) + (rlen (preR m j ++ L.take k) : Int)) ∧ ok = .bool true ∧ Below (wa.heap.size + 1) wb wc ∧ 12 + qlen m.qs + rlen (preR m j ++ L.take k) ≤ 512 ∧ Hid ((preR m j ++ L.take k).all okR = true)) (fun _ _ i _ => L.length - (intOf i).toNat)
            case atStart => exact ⟨0, rfl, Nat.zero_le _, by simp, rfl, Below.refl _ _, by simpa using hle2, by show _ = _; rw [List.take_zero, List.append_nil]; exact hall2.out⟩
            case round =>
              obtain ⟨k2, rfl, hk2, rfl, rfl, hb3, hle3, hall3⟩ := hrel
              have hbw : Below w.heap.size w wr := (bx1 HB.out).trans (((bx1 HB2.out).mono (by omega)).trans (hb3.mono (by omega)))
              have HBW := hide hbw
              have hsc := hb3.size
              by_cases hlt2 : k2 < L.length
              · obtain ⟨r, hrk⟩ : ∃ r, L[k2]? = some r := ⟨_, List.getElem?_eq_getElem hlt2⟩
                rcases hL with hL | ⟨b, off, rfl, hbb, hL⟩
                · rw [List.map_eq_nil_iff] at hL; rw [hL] at hlt2; simp at hlt2
                · have hsplit : Hid (recs m = (preR m j ++ L.take k2) ++ r :: (L.drop (k2 + 1) ++ B)) := by
                    show _ = _
                    rw [hrecs]
                    conv => lhs; rw [split_at L k2 r hrk]
                    simp
                  have hwr := hwf.rs r (by rw [hsplit.out]; simp)
                  obtain ⟨c0, c1, c2, c3, c4⟩ := Lies.rat hL hrk
                  rw [← hbw.cell (p := ⟨b, off + k2 * 5, none⟩) hbb] at c0
                  rw [← hbw.cell (p := ⟨b, off + k2 * 5 + 1, none⟩) hbb] at c1
                  rw [← hbw.cell (p := ⟨b, off + k2 * 5 + 2, none⟩) hbb] at c2
                  rw [← hbw.cell (p := ⟨b, off + k2 * 5 + 3, none⟩) hbb] at c3
                  rw [← hbw.cell (p := ⟨b, off + k2 * 5 + 4, none⟩) hbb] at c4
                  clear hbw
                  have hwL : w.heap.size + 1 ≤ wr.heap.size := by omega
                  by_cases hy : okR r = true ∧ 12 + (qlen m.qs : Int) + (rlen (preR m j ++ L.take k2) : Int) + (r.name.size + 10 + r.data.size) ≤ 512
                  · have hnext : Hid ((preR m j ++ L.take (k2 + 1)).all okR = true) := by
                      show _ = _
                      rw [take_snoc _ _ _ hrk, ← List.append_assoc, List.all_append, hall3.out]; simp [hy.1]
                    have hql : Hid (rlen (preR m j ++ L.take (k2 + 1)) = rlen (preR m j ++ L.take k2) + (r.name.size + 10 + r.data.size)) := by
                      show _ = _
                      rw [take_snoc _ _ _ hrk, ← List.append_assoc, rlen_append, rlen_one]
                    go_wp2_with fail
                    refine (withR_yes _ r _ (by omega) (by omega) hwr hy.1 hy.2).mono ?_
                    rintro e w1 ⟨rfl, hb4⟩
                    go_wp2_with fail
                    have hz := hb4.size
                    refine ⟨⟨k2 + 1, by go_num, by omega, by rw [hql.out]; go_num, rfl, ?_, by rw [hql.out]; omega, hnext⟩, by simp [intOf]; omega⟩
                    exact (hb3.alloc (by omega) _).trans (hb4.mono (by simp; omega))
                  · have hno : Hid (packOk m = false) := pack_r_no hsplit.out (by
                      rcases Classical.not_and_iff_not_or_not.1 hy with h | h
                      · exact .inl (by simpa using h)
                      · exact .inr (.inr (by omega)))
                    have hy' : okR r = false ∨ 512 < 12 + (qlen m.qs : Int) + (rlen (preR m j ++ L.take k2) : Int) + (r.name.size + 10 + r.data.size) := by
                      rcases Classical.not_and_iff_not_or_not.1 hy with h | h
                      · exact .inl (by simpa using h)
                      · exact .inr (by omega)
                    clear hy
                    go_wp2_with fail
                    refine (withR_no _ r _ (by omega) (by omega) hwr hy').mono ?_
                    rintro e w1 ⟨x, rfl, hb4⟩
                    go_wp2_with fail
                    go_ret2
                    refine ⟨?_, 0, by rw [hno.out]; rfl, fun h => by rw [hno.out] at h; cases h⟩
                    exact (HBW.out.alloc (by omega) _).trans (hb4.mono (by simp; omega))
              · have hkl : k2 = L.length := by omega
                subst hkl
                go_wp2_with fail
                rw [List.take_length] at hle3 hall3
                exact ⟨⟨j + 1, by go_num, by omega, by rw [hpre, List.take_length], rfl, HB2.out.trans hb3, by rw [hpre]; exact hle3, by rw [hpre]; exact hall3⟩, by simp [intOf]; omega⟩
          · have hj' : j = 3 := by omega
            subst hj'
            have hyes : Hid (packOk m = true) := by
              refine pack_yes ?_ ?_ ?_ ?_
              · unfold inRange; exact decide_eq_true ⟨r1, r2, r3, r4⟩
              · have := hall.out; rw [hkq.out, List.take_length] at this; exact this
              · have := hall2.out; rw [preR_all] at this; exact this
              · rw [preR_all] at hle2; exact hle2
            go_wp2_with fail
            go_ret2
            refine ⟨(bx1 HB.out).trans ((bx1 hb2).mono (by omega)), 12 + ((body m).length : Int), ?_, fun _ => rfl⟩
            rw [hyes.out, body_length, ← preR_all, Int.natCast_add, ← Int.add_assoc]
            rfl
  · have hno : Hid (packOk m = false) := pack_range_no (by unfold inRange; exact decide_eq_false hr)
    have hr' : m.op < 0 ∨ 15 < m.op ∨ m.code < 0 ∨ 15 < m.code := by omega
    clear hr
    go_enter Tryz.func60, Tryz.ntmps60
    unfold msgCells
    go_wp2
    all_goals first | (exfalso; omega) | skip
    all_goals go_ret2
    all_goals exact ⟨(Below.refl _ _).alloc (Nat.le_refl _) _, 0, by rw [hno.out]; rfl, fun h => by rw [hno.out] at h; cases h⟩
end Go.Proofs.YtafoepfhepdcoaaGreat
