/- step and UpTo, of every Unpack. -/
import Derived.Test.YtafoepfhepdcoaaGreatUFree
import Derived.Test.YtafoepfhepdcoaaGreatUpTo
namespace Go.Proofs.YtafoepfhepdcoaaGreat
open Go.RowKit Go.Trawl
attribute [local go_sem] buildW

set_option maxRecDepth 10000 in
set_option maxHeartbeats 1000000 in
theorem step2 (w : World) (B ws : Nat) (U : Nat → Prop) (vps : Value) (hs : List Nat) (vh : Value) (o : OpV) (hk : o.kind = 2) (hl : hs.length ≤ 99999960) (hst : St B U w ws vps hs vh) (ho : OpAt w o) :
    Calls Tryz.prog 28 #[ptrV ws, .agg o.arr] w fun e w' => e = .returned (.bool true) ∧ Below B w w' ∧ ∃ U' hs' vh', St B U' w' ws vps hs' vh' ∧ hs'.length = hs.length + 20 ∧ Went w w' ws (fun _ => False) U U' vh vh' := by
  obtain ⟨kind, n, m, vq, va, vu, vx, s, frm, b, d, c, t, vr, rs⟩ := o
  dsimp only at hk
  subst hk
  have HST := hide hst
  have HO := hide ho
  clear hst ho
  unfold ptrV OpV.arr
  dsimp only
  go_enter Tryz.func28, Tryz.ntmps28
  go_wp2_with (refine wpList_load_cells _ rfl 79 _ rfl ⟨w.heap.size, 0, none⟩ rfl (OpV.arr ⟨2, n, m, vq, va, vu, vx, s, frm, b, d, c, t, vr, rs⟩) _ undO rfl oI (cells_new w (OpV.arr ⟨2, n, m, vq, va, vu, vx, s, frm, b, d, c, t, vr, rs⟩) 79) ?_)
  have hbl : Below w.heap.size w (w.alloc (.cells (OpV.arr ⟨2, n, m, vq, va, vu, vx, s, frm, b, d, c, t, vr, rs⟩) 79)) := (Below.refl _ _).alloc (Nat.le_refl _) _
  refine (free2 _ B ws U vps hs vh ⟨2, n, m, vq, va, vu, vx, s, frm, b, d, c, t, vr, rs⟩ rfl hl (HST.out.below hbl) (HO.out.below hbl)).mono ?_
  rintro e w2 ⟨rfl, hb2, U2, hs2, vh2, hex1, hex2, hex3⟩
  have hex := (⟨U2, hs2, vh2, hex1, hex2, Went.after hbl hex3⟩ : ∃ U' hs' vh', St B U' w2 ws vps hs' vh' ∧ hs'.length = hs.length + 20 ∧ Went w w2 ws (fun _ => False) U U' vh vh')
  have HB2 := hide ((hbl.mono HST.out.sz).trans hb2)
  have HE := hide hex
  clear hb2 hex hex1 hex2 hex3 hbl
  go_wp2_with fail
  go_ret
  exact ⟨rfl, HB2.out, HE.out⟩

set_option maxRecDepth 10000 in
set_option maxHeartbeats 2000000 in
theorem upTo2 (w : World) (v : Value) (os : List OpV) (hn : os.length ≤ 4000000) (hv : Lies w 21 v (os.map OpV.cells)) (hat : ∀ o ∈ os, OpAt w o) :
    Calls Tryz.prog 13 #[v, .int .i64 2, .int .i64 2] w fun e w' => e = .returned (.int .i64 (-1)) ∧ Below w.heap.size w w' := by
  have hv0 := hv
  obtain ⟨a, c, rfl, -⟩ := hv0
  rw [List.length_map] at hv ⊢
  have HV := hide hv
  have HAT := hide hat
  have HS := hide (St.start w)
  clear hv hat
  go_enter Tryz.func13, Tryz.ntmps13
  go_wp2_with fail
  go_loopw [8] (fun i wr => ∃ (k : Nat) (U : Nat → Prop) (hs : List Nat) (vh : Value), i = .int .i64 k ∧ k ≤ os.length ∧ hs.length ≤ 20 * k ∧ Hid (St w.heap.size U wr w.heap.size (.slice none 0 0) hs vh) ∧ Hid (Below w.heap.size w wr)) (fun i _ => os.length - (intOf i).toNat)
  case atStart => exact ⟨0, _, [], _, rfl, Nat.zero_le _, by simp, HS.out, (Below.refl _ _).alloc (Nat.le_refl _) _⟩
  case round =>
    obtain ⟨k, U, hs, vh, rfl, hk, hhs, HST, HB⟩ := hrel
    by_cases hlt : k < os.length
    · obtain ⟨o, ho⟩ : ∃ o, os[k]? = some o := ⟨_, List.getElem?_eq_getElem hlt⟩
      have hoa := HAT.out o (List.mem_of_getElem? ho)
      obtain ⟨b, off, rfl, hkc, hcs⟩ := scr_at (HV.out.below HB.out) ho
      have HC := hide hcs
      have HOA := hide (hoa.below HB.out)
      clear hcs ho hoa
      by_cases h1 : o.kind < 2
      · have hd1 : decide (o.kind < 2) = true := by simp; exact h1
        go_wp2_with fail
        exact ⟨⟨k + 1, U, hs, vh, by go_num, by omega, by omega, HST.out, HB.out⟩, by simp [intOf]; omega⟩
      · by_cases h2 : 2 < o.kind
        · have hd1 : decide (o.kind < 2) = false := by simp; omega
          have hd2 : decide (2 < o.kind) = true := by simp; omega
          go_wp2_with fail
          exact ⟨⟨k + 1, U, hs, vh, by go_num, by omega, by omega, HST.out, HB.out⟩, by simp [intOf]; omega⟩
        · have hk1 : o.kind = 2 := by omega
          rw [hk1] at hkc
          have HK1 := hide hk1
          clear h1 h2 hk1
          go_wp2_with (refine wpList_load_cells _ rfl 79 _ rfl ⟨b, off + k * 21, none⟩ rfl o.arr _ undO rfl oI HC.out ?_)
          refine (step2 wr w.heap.size w.heap.size U (.slice none 0 0) hs vh o HK1.out (by omega) HST.out HOA.out).mono ?_
          rintro e w2 ⟨rfl, hb2, U2, hs2, vh2, hst2, hl2, -⟩
          have HST2 := hide hst2
          have HB2 := hide (HB.out.trans hb2)
          clear hkc hb2 hst2
          go_wp2_with fail
          refine (looks_any w2 w.heap.size w.heap.size U2 (.slice none 0 0) hs2 vh2 (by omega) HST2.out.world).mono ?_
          rintro e w3 ⟨rfl, n3, hw3⟩
          have HST3 : Hid (St w.heap.size U2 w3 w.heap.size (.slice none 0 0) hs2 vh2) := by rw [hw3]; exact HST2.out.below (below_drewN (Below.refl _ _) n3)
          have HB3 : Hid (Below w.heap.size w w3) := by rw [hw3]; exact below_drewN HB2.out n3
          clear hw3
          go_wp2_with fail
          exact ⟨⟨k + 1, U2, hs2, vh2, by go_num, by omega, by omega, HST3.out, HB3.out⟩, by simp [intOf]; omega⟩
    · go_wp2_with fail
      go_ret
      exact ⟨rfl, HB.out⟩
end Go.Proofs.YtafoepfhepdcoaaGreat
