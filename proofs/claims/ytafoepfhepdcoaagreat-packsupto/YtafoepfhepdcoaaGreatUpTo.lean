/- UpTo: every Pack of a script. -/
import Derived.Test.YtafoepfhepdcoaaGreatStep
namespace Go.Proofs.YtafoepfhepdcoaaGreat
open Go.RowKit Go.Trawl

theorem buildW (W : World) : (Instr.build 84 #[]).run Tryz.prog W = .ok (.agg #[.slice none 0 0, .slice none 0 0]) W := run_build W _ _ _ (by kernel_rfl)
attribute [local go_sem] buildW

theorem St.start (w : World) : St w.heap.size (fun _ => False) (w.alloc (.cells #[.slice none 0 0, .slice none 0 0] 84)) w.heap.size (.slice none 0 0) [] (.slice none 0 0) := by
  refine ⟨⟨heap_new _ _, World.ownsRow_nil _ _ _ _, (fun k hk => by cases hk), (fun h hh => by cases hh)⟩, fun k hk => hk.elim, Nat.le_refl _, by rw [alloc_size]; omega⟩

/-- The script's cells. -/
theorem scr_at {w : World} {a : Option Addr} {n c : Nat} {os : List OpV} (h : Lies w 21 (.slice a n c) (os.map OpV.cells)) {k : Nat} {o : OpV} (ho : os[k]? = some o) :
    ∃ b off, a = some ⟨b, off, none⟩ ∧ w.cell? ⟨b, off + k * 21, none⟩ = some (.int .i64 o.kind) ∧ ∀ j v, o.arr.toList[j]? = some v → w.cell? ((⟨b, off + k * 21, none⟩ : Addr).add j) = some v := by
  obtain ⟨_, _, hv, _, hc⟩ := h
  rcases hc with he | ⟨b, off, he, _, hc⟩
  · exfalso
    have h1 := congrArg List.length he
    simp at h1
    rw [h1] at ho
    simp at ho
  · subst he
    injection hv with hv
    have h2 := hc k o.cells (by simp [ho])
    refine ⟨b, off, hv, h2 0 _ rfl, fun j v hj => ?_⟩
    have e1 : (⟨b, off + k * 21, none⟩ : Addr).add j = ⟨b, off + k * 21 + j, none⟩ := by simp [Addr.add]
    rw [e1]
    exact h2 j v hj

set_option maxRecDepth 10000 in
set_option maxHeartbeats 2000000 in
theorem upTo1 (w : World) (v : Value) (os : List OpV) (hn : os.length ≤ 4000000) (hv : Lies w 21 v (os.map OpV.cells)) (hat : ∀ o ∈ os, OpAt w o) :
    Calls Tryz.prog 13 #[v, .int .i64 1, .int .i64 1] w fun e w' => e = .returned (.int .i64 (-1)) ∧ Below w.heap.size w w' := by
  have hv0 := hv
  obtain ⟨a, c, rfl, -⟩ := hv0
  rw [List.length_map] at hv ⊢
  have HV := hide hv
  have HAT := hide hat
  have HS := hide (St.start w)
  clear hv hat
  go_enter Tryz.func13, Tryz.ntmps13
  go_wp2_with fail
  go_loopw [8] (fun i wr => ∃ (k : Nat) (U : Nat → Prop) (hs : List Nat) (vh : Value), i = .int .i64 k ∧ k ≤ os.length ∧ hs.length ≤ 20 * k ∧ Hid (St w.heap.size U wr w.heap.size (.slice none 0 0) hs vh) ∧ Hid (Below w.heap.size w wr)) (fun i _ => os.length - (intOf i).toNat)
  case atStart => exact ⟨0, _, [], _, rfl, Nat.zero_le _, by simp, HS.out, (Below.refl _ _).alloc (Nat.le_refl _) _⟩
  case round =>
    obtain ⟨k, U, hs, vh, rfl, hk, hhs, HST, HB⟩ := hrel
    by_cases hlt : k < os.length
    · obtain ⟨o, ho⟩ : ∃ o, os[k]? = some o := ⟨_, List.getElem?_eq_getElem hlt⟩
      have hoa := HAT.out o (List.mem_of_getElem? ho)
      obtain ⟨b, off, rfl, hkc, hcs⟩ := scr_at (HV.out.below HB.out) ho
      have HC := hide hcs
      have HOA := hide (hoa.below HB.out)
      clear hcs ho hoa
      by_cases h1 : o.kind < 1
      · have hd1 : decide (o.kind < 1) = true := by simp; exact h1
        go_wp2_with fail
        exact ⟨⟨k + 1, U, hs, vh, by go_num, by omega, by omega, HST.out, HB.out⟩, by simp [intOf]; omega⟩
      · by_cases h2 : 1 < o.kind
        · have hd1 : decide (o.kind < 1) = false := by simp; omega
          have hd2 : decide (1 < o.kind) = true := by simp; omega
          go_wp2_with fail
          exact ⟨⟨k + 1, U, hs, vh, by go_num, by omega, by omega, HST.out, HB.out⟩, by simp [intOf]; omega⟩
        · have hk1 : o.kind = 1 := by omega
          rw [hk1] at hkc
          have HK1 := hide hk1
          clear h1 h2 hk1
          go_wp2_with (refine wpList_load_cells _ rfl 79 _ rfl ⟨b, off + k * 21, none⟩ rfl o.arr _ undO rfl oI HC.out ?_)
          refine (step1 wr w.heap.size w.heap.size U (.slice none 0 0) hs vh o HK1.out (by omega) HST.out HOA.out).mono ?_
          rintro e w2 ⟨rfl, hb2, U2, hs2, vh2, hst2, hl2, -⟩
          have HST2 := hide hst2
          have HB2 := hide (HB.out.trans hb2)
          clear hkc hb2 hst2
          go_wp2_with fail
          refine (looks_any w2 w.heap.size w.heap.size U2 (.slice none 0 0) hs2 vh2 (by omega) HST2.out.world).mono ?_
          rintro e w3 ⟨rfl, n3, hw3⟩
          have HST3 : Hid (St w.heap.size U2 w3 w.heap.size (.slice none 0 0) hs2 vh2) := by rw [hw3]; exact HST2.out.below (below_drewN (Below.refl _ _) n3)
          have HB3 : Hid (Below w.heap.size w w3) := by rw [hw3]; exact below_drewN HB2.out n3
          clear hw3
          go_wp2_with fail
          exact ⟨⟨k + 1, U2, hs2, vh2, by go_num, by omega, by omega, HST3.out, HB3.out⟩, by simp [intOf]; omega⟩
    · go_wp2_with fail
      go_ret
      exact ⟨rfl, HB.out⟩
end Go.Proofs.YtafoepfhepdcoaaGreat
