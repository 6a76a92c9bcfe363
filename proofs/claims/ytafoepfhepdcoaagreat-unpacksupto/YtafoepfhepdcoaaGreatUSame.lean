/- alike, same: two messages are one. -/
import Derived.Test.YtafoepfhepdcoaaGreatKept
namespace Go.Proofs.YtafoepfhepdcoaaGreat
open Go.RowKit Go.Trawl
attribute [local go_sem] selfQ selfR guardQ guardR

set_option maxRecDepth 10000 in
set_option maxHeartbeats 1000000 in
theorem alike_any (w : World) (b v : Value) (L : List Rc) (hL : L.length ≤ 2097152) (hb : Lies w 5 b (L.map Rc.cells)) (hv : Lies w 5 v (L.map Rc.cells)) :
    Calls Tryz.prog 130 #[b, v] w fun e w' => e = .returned (.bool true) ∧ ∃ n, w' = w.drewN n := by
  obtain ⟨ab, cb, rfl, -, hb⟩ := hb
  obtain ⟨av, cv, rfl, -, hv⟩ := hv
  rw [List.length_map]
  have HB := hide hb
  have HV := hide hv
  have HW0 : Hid (∃ n, w = w.drewN n) := ⟨0, rfl⟩
  clear hb hv
  go_enter Tryz.func130, Tryz.ntmps130
  go_wp2_with fail
  go_loopw [5] (fun i wr => ∃ k : Nat, i = .int .i64 k ∧ k ≤ L.length ∧ Hid (∃ n, wr = w.drewN n)) (fun i _ => L.length - (intOf i).toNat)
  case atStart => exact ⟨0, rfl, Nat.zero_le _, HW0.out⟩
  case round =>
    obtain ⟨k, rfl, hk, HW⟩ := hrel
    have hcw : ∀ p, wr.cell? p = w.cell? p := by obtain ⟨n, rfl⟩ := HW.out; intro p; rfl
    by_cases hin : k < L.length
    · obtain ⟨r, hr⟩ : ∃ r, L[k]? = some r := ⟨_, List.getElem?_eq_getElem hin⟩
      rcases HB.out with he | ⟨bb, off, rfl, _, hc⟩
      · exfalso; have := congrArg List.length he; simp at this; subst this; simp at hin
      rcases HV.out with he | ⟨bv, offv, rfl, _, hcv⟩
      · exfalso; have := congrArg List.length he; simp at this; subst this; simp at hin
      obtain ⟨c0, c1, c2, c3, c4⟩ := Lies.rat hc hr
      obtain ⟨d0, d1, d2, d3, d4⟩ := Lies.rat hcv hr
      rw [← hcw] at c0 c1 c2 c3 c4 d0 d1 d2 d3 d4
      obtain ⟨nm, kd, cl, tt, dt⟩ := r
      dsimp only at c0 c1 c2 c3 c4 d0 d1 d2 d3 d4
      clear hc hcv hcw hr HB HV
      go_wp2_with fail
      go_quiet (fail)
      go_wp2_with fail
      exact ⟨⟨k + 1, by go_num, by omega, by obtain ⟨n, hn⟩ := HW.out; exact ⟨n + nq, by rw [hn, World.drewN_drewN]⟩⟩, by simp [intOf]; omega⟩
    · clear hcw
      go_wp2_with fail
      go_ret
      exact ⟨rfl, HW.out⟩

set_option maxRecDepth 10000 in
set_option maxHeartbeats 2000000 in
theorem same_any (w : World) (m : Msg) (vq va vu vx vq' va' vu' vx' : Value) (hm : WfM m) (h1 : MsgAt w m vq va vu vx) (h2 : MsgAt w m vq' va' vu' vx') :
    Calls Tryz.prog 85 #[.agg (msgCells m vq va vu vx), .agg (msgCells m vq' va' vu' vx')] w fun e w' => e = .returned (.bool true) ∧ Hid (Below w.heap.size w w') := by
  have hB : ∀ A B, Below w.heap.size w ((w.alloc A).alloc B) := fun A B => ((Below.refl _ _).alloc (Nat.le_refl _) A).alloc (by rw [alloc_size]; omega) B
  have HB := hide hB
  have HM := hide hm
  have H1 := hide h1
  have H2 := hide h2
  have hnq := hm.nq
  obtain ⟨aq, cq, rfl, -, hq⟩ := h1.q
  obtain ⟨aq', cq', rfl, -, hq'⟩ := h2.q
  rw [List.length_map] at H1 H2
  simp only [List.length_map]
  have HQ := hide hq
  have HQ' := hide hq'
  clear hB hm h1 h2 hq hq'
  obtain ⟨id, rsp, op, own, ct, wt, ab, cd, qs, an, au, ex⟩ := m
  simp only [msgCells]
  dsimp only at hnq HQ HQ' H1 H2
  go_enter Tryz.func85, Tryz.ntmps85
  go_wp2_with fail
  generalize hW : (w.alloc _).alloc _ = W
  have HA : Hid (W.heap[w.heap.size]? = some (.cells (msgCells ⟨id, rsp, op, own, ct, wt, ab, cd, qs, an, au, ex⟩ (.slice aq qs.length cq) va vu vx) 30)) := by rw [← hW]; exact heap_old (heap_new _ _) _
  have HAB : Hid (W.heap[w.heap.size + 1]? = some (.cells (msgCells ⟨id, rsp, op, own, ct, wt, ab, cd, qs, an, au, ex⟩ (.slice aq' qs.length cq') va' vu' vx') 30)) := by
    rw [← hW]
    have := heap_new (w.alloc (.cells (msgCells ⟨id, rsp, op, own, ct, wt, ab, cd, qs, an, au, ex⟩ (.slice aq qs.length cq) va vu vx) 30)) (.cells (msgCells ⟨id, rsp, op, own, ct, wt, ab, cd, qs, an, au, ex⟩ (.slice aq' qs.length cq') va' vu' vx') 30)
    rw [alloc_size] at this
    exact this
  have HBW : Hid (Below w.heap.size w W) := by rw [← hW]; exact HB.out _ _
  clear hW HB
  have hcA := box_cells HA.out
  have hcB := box_cells HAB.out
  simp only [msgCells] at hcA hcB
  go_loopw [5] (fun i wr => ∃ k n : Nat, i = .int .i64 k ∧ k ≤ qs.length ∧ wr = W.drewN n) (fun i _ => qs.length - (intOf i).toNat)
  case atStart => exact ⟨0, 0, rfl, Nat.zero_le _, rfl⟩
  case round =>
    obtain ⟨k, n, rfl, hk, rfl⟩ := hrel
    by_cases hin : k < qs.length
    · obtain ⟨r, hr⟩ : ∃ r, qs[k]? = some r := ⟨_, List.getElem?_eq_getElem hin⟩
      rcases HQ.out with he | ⟨bb, off, rfl, hb1, hc⟩
      · exfalso; have := congrArg List.length he; simp at this; subst this; simp at hin
      rcases HQ'.out with he | ⟨bv, offv, rfl, hb2, hcv⟩
      · exfalso; have := congrArg List.length he; simp at this; subst this; simp at hin
      obtain ⟨c0, c1, c2⟩ := Lies.qat hc hr
      obtain ⟨d0, d1, d2⟩ := Lies.qat hcv hr
      have t1 : ∀ o u, w.cell? ⟨bb, o, none⟩ = some u → W.cell? ⟨bb, o, none⟩ = some u := fun o u => cell_of_heap (HBW.out.block bb hb1)
      have t2 : ∀ o u, w.cell? ⟨bv, o, none⟩ = some u → W.cell? ⟨bv, o, none⟩ = some u := fun o u => cell_of_heap (HBW.out.block bv hb2)
      replace c0 := t1 _ _ c0
      replace c1 := t1 _ _ c1
      replace c2 := t1 _ _ c2
      replace d0 := t2 _ _ d0
      replace d1 := t2 _ _ d1
      replace d2 := t2 _ _ d2
      obtain ⟨nm, kd, cl⟩ := r
      dsimp only at c0 c1 c2 d0 d1 d2
      clear hc hcv hr HQ HQ' t1 t2
      go_wp2_with fail
      go_quiet (fail)
      go_wp2_with fail
      exact ⟨⟨k + 1, _, by go_num, by omega, rfl⟩, by simp [intOf]; omega⟩
    · have HD : ∀ j, Hid (Below w.heap.size w (W.drewN j)) := fun j => below_drewN HBW.out j
      go_wp2_with fail
      refine (alike_any (W.drewN n) va va' an HM.out.na (H1.out.a.below (HD n).out) (H2.out.a.below (HD n).out)).mono ?_
      rintro e w1 ⟨rfl, n1, rfl⟩
      go_wp2_with fail
      refine (alike_any _ vu vu' au HM.out.nu (H1.out.u.below (HD _).out) (H2.out.u.below (HD _).out)).mono ?_
      rintro e w1 ⟨rfl, n2, rfl⟩
      go_wp2_with fail
      refine (alike_any _ vx vx' ex HM.out.nx (H1.out.x.below (HD _).out) (H2.out.x.below (HD _).out)).mono ?_
      rintro e w1 ⟨rfl, n3, rfl⟩
      go_wp2_with fail
      go_ret
      exact ⟨rfl, (HD _).out⟩
end Go.Proofs.YtafoepfhepdcoaaGreat
