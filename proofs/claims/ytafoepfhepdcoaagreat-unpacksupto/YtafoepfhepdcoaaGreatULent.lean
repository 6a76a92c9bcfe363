/- lent, still: the bytes that are handed in. -/
import Derived.Test.YtafoepfhepdcoaaGreatUWire
import Derived.Test.YtafoepfhepdcoaaGreatUIn
import Derived.Test.YtafoepfhepdcoaaGreatCopy
import Derived.Test.YtafoepfhepdcoaaGreatRecs
namespace Go.Proofs.YtafoepfhepdcoaaGreat
open Go.RowKit Go.Trawl

theorem bI0 : (Tryz.prog.info? 5).map (fun i => (i.zero, i.size, i.bytes)) = some (some (.int .u8 0), 1, 1) := by kernel_rfl
def m201 : Value := .int .u8 201
/-- The bytes with spare room, k of whose places are marked. -/
def lentC (s : ByteArray) (k : Nat) : List Value := bytesV s.data.toList ++ (List.replicate k m201 ++ List.replicate (8 - k) (.int .u8 0))
theorem lentC_length (s : ByteArray) (k : Nat) (h : k ≤ 8) : (lentC s k).length = s.size + 8 := by
  unfold lentC
  rw [List.length_append, List.length_append, bytesV_length, List.length_replicate, List.length_replicate, Array.length_toList]
  show s.data.size + _ = s.data.size + 8
  omega
theorem lentC_set (s : ByteArray) (k : Nat) (h : k < 8) : (lentC s k).set (s.size + k) m201 = lentC s (k + 1) := by
  have hl : (bytesV s.data.toList).length = s.size := by rw [bytesV_length, Array.length_toList]; rfl
  unfold lentC
  rw [List.set_append_right _ _ (by omega), hl, Nat.add_sub_cancel_left, List.set_append_right _ _ (by simp)]
  obtain ⟨j, hj⟩ : ∃ j, 8 - k = j + 1 := ⟨8 - k - 1, by omega⟩
  have hj2 : 8 - (k + 1) = j := by omega
  rw [hj, hj2, List.length_replicate, Nat.sub_self, List.replicate_succ, List.set_cons_zero, List.replicate_succ']
  simp
theorem lentC_at (s : ByteArray) (k : Nat) (h : k < 8) : (lentC s k)[s.size + k]? = some (.int .u8 0) := by
  have hl : (bytesV s.data.toList).length = s.size := by rw [bytesV_length, Array.length_toList]; rfl
  unfold lentC
  rw [List.getElem?_append_right (by omega), hl, Nat.add_sub_cancel_left, List.getElem?_append_right (by simp), List.length_replicate, Nat.sub_self]
  obtain ⟨j, hj⟩ : ∃ j, 8 - k = j + 1 := ⟨8 - k - 1, by omega⟩
  rw [hj, List.replicate_succ]
  rfl
theorem lentC_byte (s : ByteArray) (k i : Nat) (h : i < s.size) : (lentC s k)[i]? = some (.int .u8 (at8 s i)) := by
  have hl : (bytesV s.data.toList).length = s.size := by rw [bytesV_length, Array.length_toList]; rfl
  unfold lentC
  rw [List.getElem?_append_left (by omega)]
  unfold bytesV
  have h' : i < s.data.size := h
  rw [List.getElem?_map, Array.getElem?_toList, Array.getElem?_eq_getElem h']
  simp only [Option.map_some, Option.some.injEq, Value.int.injEq, true_and]
  rw [← at8_eq s i h]
  rfl
theorem lentC_mark (s : ByteArray) (i : Nat) (h : i < 8) : (lentC s 8)[s.size + i]? = some m201 := by
  have hl : (bytesV s.data.toList).length = s.size := by rw [bytesV_length, Array.length_toList]; rfl
  unfold lentC
  rw [List.getElem?_append_right (by omega), hl, Nat.add_sub_cancel_left, List.getElem?_append_left (by simp; exact h), List.getElem?_replicate, if_pos h]

theorem copy_str {P : Program} (w : World) (t s ty e : TypeId) (i : TypeInfo) (ht : P.underlying t = some (.slice e)) (hi : P.info? e = some i) (hsize : i.size = 1) (g n c : Nat) (cur : Array Value) (hg : w.heap[g]? = some (.cells cur e)) (x : ByteArray) (hle : x.size ≤ n) (hcs : x.size ≤ cur.size) :
    (Builtin.copy_ #[t, s] ty #[.slice (some ⟨g, 0, none⟩) n c, .string x]).run P w = .ok (goInt x.size) (w.setRow g (bytesV x.data.toList ++ cur.toList.drop x.size).toArray) := by
  have hmin : Nat.min x.size n = x.size := Nat.min_eq_left hle
  have hl : (Lib.strCells x).length = x.size := Lib.strCells_length x
  have hst := run_storeCells_at P g 0 e (Lib.strCells x) 0 cur w hg (by rw [hl]; omega) (Lib.strCells_oneCell x)
  have hf := Lib.run_firstCells_string (P := P) w 1 x
  simp only [Nat.add_zero, Nat.zero_add, List.take_zero, List.nil_append, hl] at hst
  rw [strCells_bytesV] at hst hf
  simp [Builtin.copy_, run_underlying ht, Builtin.lenOf, sizeOf, typeInfo, hi, hsize, hmin, hf, hst]

set_option maxRecDepth 10000 in
set_option maxHeartbeats 1000000 in
theorem lent_any (w : World) (s : ByteArray) (hs : s.size ≤ 2097152) :
    Calls Tryz.prog 52 #[.string s] w fun e w' => e = .returned (newV w.heap.size (s.size + 8)) ∧ Hid (w'.heap[w.heap.size]? = some (.cells (lentC s 8).toArray 5) ∧ Below w.heap.size w w') := by
  obtain ⟨ib, ib0, ib1, ib2, ib3⟩ := info_parts bI0
  go_enter Tryz.func52, Tryz.ntmps52
  go_wp2_with (at_make; refine wpList_make_full _ rfl _ _ 32 rfl 0 5 ib _ 1 und_bytes ib0 ib1 ib2 _ _ _ _ (s.size + 8) rfl rfl (by omega) (by omega) (by rw [ib3]; omega) (by unfold maxLen; omega) (Nat.zero_le _) ?_; intro w2 ho2 hg2; have HO2 := hide ho2; have HG2 := hide hg2; clear ho2 hg2)
  have hblk : ∃ cur : Array Value, w2.heap[w.heap.size]? = some (.cells cur 5) ∧ cur.toList = List.replicate (s.size + 8) (.int .u8 0) := by
    have ho := HO2.out
    have hm := made_flat [Value.int .u8 0] (by decide) (s.size + 8)
    have e0 : (Value.int IntKind.u8 0).cells = [Value.int .u8 0].toArray := rfl
    rw [e0, show (s.size + 8) * 1 = (s.size + 8) * [Value.int .u8 0].length from rfl, hm] at ho
    rcases ho.2 with ⟨h0, _⟩ | ⟨g', cap, cur, e1, _, hg, hnc, hcm, hcs, htake⟩
    · cases h0
    · injection e1 with e2 _ e3
      injection e2 with e2
      injection e2 with e4
      subst e3 e4
      refine ⟨cur, hg, ?_⟩
      rw [List.take_of_length_le (by rw [Array.length_toList, hcs]; omega)] at htake
      rw [htake]
      have : ∀ n, (List.replicate n [Value.int .u8 0]).flatten = List.replicate n (Value.int .u8 0) := by
        intro n
        induction n with
        | zero => rfl
        | succ n ih => rw [List.replicate_succ, List.flatten_cons, ih]; rfl
      exact this _
  obtain ⟨cur, hg, hcur⟩ := hblk
  have hcz : cur.size = s.size + 8 := by rw [← Array.length_toList, hcur, List.length_replicate]
  rw [copy_str (P := Tryz.prog) w2 32 9 3 5 ib und_bytes ib0 ib2 w.heap.size (s.size + 8) (s.size + 8) cur hg s (by omega) (by omega)]
  have hl0 : bytesV s.data.toList ++ cur.toList.drop s.size = lentC s 0 := by
    rw [hcur, List.drop_replicate, show s.size + 8 - s.size = 8 from by omega]
    rfl
  rw [hl0]
  have HG3 : Hid ((w2.setRow w.heap.size (lentC s 0).toArray).heap[w.heap.size]? = some (.cells (lentC s 0).toArray 5)) := setRow_heap w2 _ cur _ _ _ hg
  have HB3 : Hid (Below w.heap.size w (w2.setRow w.heap.size (lentC s 0).toArray)) := below_of_grown (below_grownBy HG2.out) (Nat.le_refl _) (grownBy_setRow _ _ _)
  clear hl0 hcz hcur hg HO2 HG2
  generalize w2.setRow w.heap.size (lentC s 0).toArray = w3 at HG3 HB3 ⊢
  go_wp2_with fail
  go_loopw [4] (fun i wr => ∃ k : Nat, i = .int .i64 ((s.size : Int) + (k : Int)) ∧ k ≤ 8 ∧ Hid (wr.heap[w.heap.size]? = some (.cells (lentC s k).toArray 5)) ∧ Hid (Below w.heap.size w wr)) (fun i _ => (s.size + 8) - (intOf i).toNat)
  case atStart => exact ⟨0, by simp, by omega, HG3.out, HB3.out⟩
  case round =>
    obtain ⟨k, rfl, hk, HG, HB⟩ := hrel
    by_cases hlt : k < 8
    · have hc := box_cells HG.out (s.size + k)
      rw [List.getElem?_toArray, lentC_at s k hlt] at hc
      have hf := frozen_of_block HG.out (s.size + k)
      have hlt2 : ((s.size : Int) + (k : Int)).toNat = s.size + k := by omega
      go_wp2_with fail
      refine ⟨⟨k + 1, by rw [Int.natCast_add, Int.add_assoc]; rfl, by omega, ?_, HB.out.setCell (Nat.le_refl _) _⟩, by simp [intOf]; omega⟩
      unfold Hid
      rw [heap_setCell_eq HG.out, List.setIfInBounds_toArray]
      exact congrArg (fun l => some (Obj.cells (List.toArray l) 5)) (lentC_set s k hlt)
    · go_wp2_with fail
      go_ret
      have e : k = 8 := by omega
      subst e
      exact ⟨rfl, HG.out, HB.out⟩

set_option maxRecDepth 10000 in
set_option maxHeartbeats 1000000 in
theorem still_any (w : World) (g : Nat) (s : ByteArray) (hs : s.size ≤ 2097152) (hg : w.heap[g]? = some (.cells (lentC s 8).toArray 5)) :
    Calls Tryz.prog 57 #[newV g (s.size + 8), .string s] w fun e w' => e = .returned (.bool true) ∧ ∃ n, w' = w.drewN n := by
  have HG := hide hg
  clear hg
  unfold newV
  go_enter Tryz.func57, Tryz.ntmps57
  go_wp2_with fail
  go_loopw [5] (fun i wr => ∃ k m : Nat, i = .int .i64 k ∧ k ≤ s.size + 8 ∧ wr = w.drewN m) (fun i _ => (s.size + 8) - (intOf i).toNat)
  case atStart => exact ⟨0, 0, rfl, by omega, rfl⟩
  case round =>
    obtain ⟨k, m, rfl, hk, rfl⟩ := hrel
    by_cases hlt : k < s.size + 8
    · by_cases hks : k < s.size
      · have hc := box_cells HG.out k
        rw [List.getElem?_toArray, lentC_byte s 8 k hks] at hc
        have hidx := idx s k hks
        have hd1 : decide (k < s.size) = true := by simp; exact hks
        have hd2 : decide (s.size ≤ k) = false := by simp; omega
        go_wp2_with fail
        go_quiet (fail)
        go_wp2_with fail
        exact ⟨⟨k + 1, _, by go_num, by omega, rfl⟩, by simp [intOf]; omega⟩
      · have hc := box_cells HG.out k
        have hmk := lentC_mark s (k - s.size) (by omega)
        rw [show s.size + (k - s.size) = k from by omega] at hmk
        rw [List.getElem?_toArray, hmk] at hc
        unfold m201 at hc
        clear hmk
        have hd1 : decide (k < s.size) = false := by simp; omega
        have hd2 : decide (s.size ≤ k) = true := by simp; omega
        go_wp2_with fail
        go_quiet (fail)
        go_wp2_with fail
        exact ⟨⟨k + 1, _, by go_num, by omega, rfl⟩, by simp [intOf]; omega⟩
    · go_wp2_with fail
      go_ret
      exact ⟨rfl, m, rfl⟩
end Go.Proofs.YtafoepfhepdcoaaGreat
