/- kept: records that were lent are as they were. -/
import Derived.Test.YtafoepfhepdcoaaGreatRecs
namespace Go.Proofs.YtafoepfhepdcoaaGreat
open Go.RowKit Go.Trawl

theorem selfR (s t : ByteArray) (a b c : Int) (W : World) : (Op.equalIn 10000 69 (.agg #[.string s, .int .u16 a, .int .u16 b, .int .u32 c, .string t]) (.agg #[.string s, .int .u16 a, .int .u16 b, .int .u32 c, .string t])).run Tryz.prog W = .ok true W := by
  rw [equalR]; simp
theorem selfQ (s : ByteArray) (a b : Int) (W : World) : (Op.equalIn 10000 41 (.agg #[.string s, .int .u16 a, .int .u16 b]) (.agg #[.string s, .int .u16 a, .int .u16 b])).run Tryz.prog W = .ok true W := by
  rw [equalQ]; simp
attribute [local go_sem] selfQ selfR guardQ guardR buildQ0 buildR0

theorem lentR_lt {L : List Rc} {k : Nat} (h : k < L.length) : (lentR L)[k]? = L[k]? := by
  unfold lentR; rw [List.getElem?_append_left h]
theorem lentR_ge {L : List Rc} {k : Nat} (h : L.length ≤ k) (h2 : k < L.length + 8) : (lentR L)[k]? = some zR := by
  unfold lentR; rw [List.getElem?_append_right h, List.getElem?_replicate, if_pos (by omega)]
theorem lentQ_lt {L : List Qn} {k : Nat} (h : k < L.length) : (lentQ L)[k]? = L[k]? := by
  unfold lentQ; rw [List.getElem?_append_left h]
theorem lentQ_ge {L : List Qn} {k : Nat} (h : L.length ≤ k) (h2 : k < L.length + 8) : (lentQ L)[k]? = some zQ := by
  unfold lentQ; rw [List.getElem?_append_right h, List.getElem?_replicate, if_pos (by omega)]
theorem lentR_length (L : List Rc) : (lentR L).length = L.length + 8 := by simp [lentR]
theorem lentQ_length (L : List Qn) : (lentQ L).length = L.length + 8 := by simp [lentQ]

set_option maxRecDepth 10000 in
set_option maxHeartbeats 1000000 in
theorem kept_any (w : World) (b v : Value) (L : List Rc) (hL : L.length ≤ 2097152) (hb : Lies w 5 b ((lentR L).map Rc.cells)) (hv : Lies w 5 v (L.map Rc.cells)) :
    Calls Tryz.prog 126 #[b, v] w fun e w' => e = .returned (.bool true) ∧ ∃ n, w' = w.drewN n := by
  obtain ⟨ab, cb, rfl, -, hb⟩ := hb
  obtain ⟨av, cv, rfl, -, hv⟩ := hv
  rw [List.length_map, lentR_length, List.length_map]
  have HB := hide hb
  have HV := hide hv
  have HW0 : Hid (∃ n, w = w.drewN n) := ⟨0, rfl⟩
  clear hb hv
  go_enter Tryz.func126, Tryz.ntmps126
  go_wp2_with fail
  go_loopw [5] (fun i wr => ∃ k : Nat, i = .int .i64 k ∧ k ≤ L.length + 8 ∧ Hid (∃ n, wr = w.drewN n)) (fun i _ => L.length + 8 - (intOf i).toNat)
  case atStart => exact ⟨0, rfl, Nat.zero_le _, HW0.out⟩
  case round =>
    obtain ⟨k, rfl, hk, HW⟩ := hrel
    have hcw : ∀ p, wr.cell? p = w.cell? p := by obtain ⟨n, rfl⟩ := HW.out; intro p; rfl
    by_cases hlt : k < L.length + 8
    · rcases HB.out with he | ⟨bb, off, rfl, _, hc⟩
      · exfalso; have := congrArg List.length he; simp [lentR_length] at this
      by_cases hin : k < L.length
      · obtain ⟨r, hr⟩ : ∃ r, L[k]? = some r := ⟨_, List.getElem?_eq_getElem hin⟩
        rcases HV.out with he | ⟨bv, offv, rfl, _, hcv⟩
        · exfalso; have := congrArg List.length he; simp at this; subst this; simp at hin
        obtain ⟨c0, c1, c2, c3, c4⟩ := Lies.rat hc (by rw [lentR_lt hin]; exact hr)
        obtain ⟨d0, d1, d2, d3, d4⟩ := Lies.rat hcv hr
        rw [← hcw] at c0 c1 c2 c3 c4 d0 d1 d2 d3 d4
        obtain ⟨nm, kd, cl, tt, dt⟩ := r
        dsimp only at c0 c1 c2 c3 c4 d0 d1 d2 d3 d4
        have hd1 : decide (k < L.length) = true := by simp; omega
        have hd2 : decide (L.length ≤ k) = false := by simp; omega
        clear hc hcv hcw hr HB HV
        go_wp2_with fail
        go_quiet (fail)
        go_wp2_with fail
        exact ⟨⟨k + 1, by go_num, by omega, by obtain ⟨n, hn⟩ := HW.out; exact ⟨n + nq, by rw [hn, World.drewN_drewN]⟩⟩, by simp [intOf]; omega⟩
      · obtain ⟨c0, c1, c2, c3, c4⟩ := Lies.rat hc (lentR_ge (by omega) hlt)
        unfold zR at c0 c1 c2 c3 c4
        rw [← hcw] at c0 c1 c2 c3 c4
        have hd1 : decide (k < L.length) = false := by simp; omega
        have hd2 : decide (L.length ≤ k) = true := by simp; omega
        clear hc hcw HB HV
        go_wp2_with fail
        go_quiet (fail)
        go_wp2_with fail
        exact ⟨⟨k + 1, by go_num, by omega, by obtain ⟨n, hn⟩ := HW.out; exact ⟨n + nq, by rw [hn, World.drewN_drewN]⟩⟩, by simp [intOf]; omega⟩
    · clear hcw
      go_wp2_with fail
      go_ret
      exact ⟨rfl, HW.out⟩
end Go.Proofs.YtafoepfhepdcoaaGreat
