import Derived.Test.YtafoepfhepdcoaaGreatM17
import Derived.Test.YtafoepfhepdcoaaGreatM18
import Derived.Test.YtafoepfhepdcoaaGreatM6
import Derived.Test.YtafoepfhepdcoaaGreatM7
set_option maxRecDepth 100000
set_option maxHeartbeats 8000000
namespace Go.Proofs.YtafoepfhepdcoaaGreat
open Go.RowKit Go.Trawl
theorem bI0 : (Tryz.prog.info? 5).map (fun i => (i.zero, i.size, i.bytes)) = some (some (.int .u8 0), 1, 1) := by kernel_rfl
def m201 : Value := .int .u8 201
def lentC (s : ByteArray) (k : Nat) : List Value := bytesV s.data.toList ++ (List.replicate k m201 ++ List.replicate (8 - k) (.int .u8 0))
theorem lentC_length (s : ByteArray) (k : Nat) (h : k ≤ 8) : (lentC s k).length = s.size + 8 := by
 unfold lentC
 rw [List.length_append, List.length_append, bytesV_length, List.length_replicate, List.length_replicate, Array.length_toList]
 show s.data.size + _ = s.data.size + 8
 omega
theorem lentC_set (s : ByteArray) (k : Nat) (h : k < 8) : (lentC s k).set (s.size + k) m201 = lentC s (k + 1) := by
 have hl : (bytesV s.data.toList).length = s.size := by rw [bytesV_length, Array.length_toList]; rfl
 unfold lentC
 rw [List.set_append_right _ _ (by omega), hl, Nat.add_sub_cancel_left, List.set_append_right _ _ (by simp)]
 obtain ⟨j, hj⟩ : ∃ j, 8 - k = j + 1 := ⟨8 - k - 1, by omega⟩
 have hj2 : 8 - (k + 1) = j := by omega
 rw [hj, hj2, List.length_replicate, Nat.sub_self, List.replicate_succ, List.set_cons_zero, List.replicate_succ']
 simp
theorem lentC_at (s : ByteArray) (k : Nat) (h : k < 8) : (lentC s k)[s.size + k]? = some (.int .u8 0) := by
 have hl : (bytesV s.data.toList).length = s.size := by rw [bytesV_length, Array.length_toList]; rfl
 unfold lentC
 rw [List.getElem?_append_right (by omega), hl, Nat.add_sub_cancel_left, List.getElem?_append_right (by simp), List.length_replicate, Nat.sub_self]
 obtain ⟨j, hj⟩ : ∃ j, 8 - k = j + 1 := ⟨8 - k - 1, by omega⟩
 rw [hj, List.replicate_succ]
 rfl
theorem lentC_byte (s : ByteArray) (k i : Nat) (h : i < s.size) : (lentC s k)[i]? = some (.int .u8 (at8 s i)) := by
 have hl : (bytesV s.data.toList).length = s.size := by rw [bytesV_length, Array.length_toList]; rfl
 unfold lentC
 rw [List.getElem?_append_left (by omega)]
 unfold bytesV
 have h' : i < s.data.size := h
 rw [List.getElem?_map, Array.getElem?_toList, Array.getElem?_eq_getElem h']
 simp only [Option.map_some, Option.some.injEq, Value.int.injEq, true_and]
 rw [← at8_eq s i h]
 rfl
theorem lentC_mark (s : ByteArray) (i : Nat) (h : i < 8) : (lentC s 8)[s.size + i]? = some m201 := by
 have hl : (bytesV s.data.toList).length = s.size := by rw [bytesV_length, Array.length_toList]; rfl
 unfold lentC
 rw [List.getElem?_append_right (by omega), hl, Nat.add_sub_cancel_left, List.getElem?_append_left (by simp; exact h), List.getElem?_replicate, if_pos h]
theorem copy_str {P : Program} (w : World) (t s ty e : TypeId) (i : TypeInfo) (ht : P.underlying t = some (.slice e)) (hi : P.info? e = some i) (hsize : i.size = 1) (g n c : Nat) (cur : Array Value) (hg : w.heap[g]? = some (.cells cur e)) (x : ByteArray) (hle : x.size ≤ n) (hcs : x.size ≤ cur.size) :
  (Builtin.copy_ #[t, s] ty #[.slice (some ⟨g, 0, none⟩) n c, .string x]).run P w = .ok (goInt x.size) (w.setRow g (bytesV x.data.toList ++ cur.toList.drop x.size).toArray) := by
 have hmin : Nat.min x.size n = x.size := Nat.min_eq_left hle
 have hl : (Lib.strCells x).length = x.size := Lib.strCells_length x
 have hst := run_storeCells_at P g 0 e (Lib.strCells x) 0 cur w hg (by rw [hl]; omega) (Lib.strCells_oneCell x)
 have hf := Lib.run_firstCells_string (P := P) w 1 x
 simp only [Nat.add_zero, Nat.zero_add, List.take_zero, List.nil_append, hl] at hst
 rw [strCells_bytesV] at hst hf
 simp [Builtin.copy_, run_underlying ht, Builtin.lenOf, sizeOf, typeInfo, hi, hsize, hmin, hf, hst]
theorem lent_any (w : World) (s : ByteArray) (hs : s.size ≤ 2097152) :
  Calls Tryz.prog 52 #[.string s] w fun e w' => e = .returned (newV w.heap.size (s.size + 8)) ∧ Hid (w'.heap[w.heap.size]? = some (.cells (lentC s 8).toArray 5) ∧ Below w.heap.size w w') := by
 obtain ⟨ib, ib0, ib1, ib2, ib3⟩ := info_parts bI0
 go_enter Tryz.func52, Tryz.ntmps52
 go_wp2_with (at_make; refine wpList_make_full _ rfl _ _ 32 rfl 0 5 ib _ 1 und_bytes ib0 ib1 ib2 _ _ _ _ (s.size + 8) rfl rfl (by omega) (by omega) (by rw [ib3]; omega) (by unfold maxLen; omega) (Nat.zero_le _) ?_; intro w2 ho2 hg2; have HO2 := hide ho2; have HG2 := hide hg2; clear ho2 hg2)
 have hblk : ∃ cur : Array Value, w2.heap[w.heap.size]? = some (.cells cur 5) ∧ cur.toList = List.replicate (s.size + 8) (.int .u8 0) := by
  have ho := HO2.out
  have hm := made_flat [Value.int .u8 0] (by decide) (s.size + 8)
  have e0 : (Value.int IntKind.u8 0).cells = [Value.int .u8 0].toArray := rfl
  rw [e0, show (s.size + 8) * 1 = (s.size + 8) * [Value.int .u8 0].length from rfl, hm] at ho
  rcases ho.2 with ⟨h0, _⟩ | ⟨g', cap, cur, e1, _, hg, hnc, hcm, hcs, htake⟩
  ·cases h0
  ·injection e1 with e2 _ e3
   injection e2 with e2
   injection e2 with e4
   subst e3 e4
   refine ⟨cur, hg, ?_⟩
   rw [List.take_of_length_le (by rw [Array.length_toList, hcs]; omega)] at htake
   rw [htake]
   have : ∀ n, (List.replicate n [Value.int .u8 0]).flatten = List.replicate n (Value.int .u8 0) := by
    intro n
    induction n with
    | zero => rfl
    | succ n ih => rw [List.replicate_succ, List.flatten_cons, ih]; rfl
   exact this _
 obtain ⟨cur, hg, hcur⟩ := hblk
 have hcz : cur.size = s.size + 8 := by rw [← Array.length_toList, hcur, List.length_replicate]
 rw [copy_str (P := Tryz.prog) w2 32 9 3 5 ib und_bytes ib0 ib2 w.heap.size (s.size + 8) (s.size + 8) cur hg s (by omega) (by omega)]
 have hl0 : bytesV s.data.toList ++ cur.toList.drop s.size = lentC s 0 := by
  rw [hcur, List.drop_replicate, show s.size + 8 - s.size = 8 from by omega]
  rfl
 rw [hl0]
 have HG3 : Hid ((w2.setRow w.heap.size (lentC s 0).toArray).heap[w.heap.size]? = some (.cells (lentC s 0).toArray 5)) := setRow_heap w2 _ cur _ _ _ hg
 have HB3 : Hid (Below w.heap.size w (w2.setRow w.heap.size (lentC s 0).toArray)) := bg_ (below_grownBy HG2.out) (Nat.le_refl _) (grownBy_setRow _ _ _)
 clear hl0 hcz hcur hg HO2 HG2
 generalize w2.setRow w.heap.size (lentC s 0).toArray = w3 at HG3 HB3 ⊢
 go_wp2_with fail
 go_loopw [4] (fun i wr => ∃ k : Nat, i = .int .i64 ((s.size : Int) + (k : Int)) ∧ k ≤ 8 ∧ Hid (wr.heap[w.heap.size]? = some (.cells (lentC s k).toArray 5)) ∧ Hid (Below w.heap.size w wr)) (fun i _ => (s.size + 8) - (intOf i).toNat)
 case atStart => exact ⟨0, by simp, by omega, HG3.out, HB3.out⟩
 case round =>
  obtain ⟨k, rfl, hk, HG, HB⟩ := hrel
  by_cases hlt : k < 8
  ·have hc := bc_ HG.out (s.size + k)
   rw [List.getElem?_toArray, lentC_at s k hlt] at hc
   have hf := fz_ HG.out (s.size + k)
   have hlt2 : ((s.size : Int) + (k : Int)).toNat = s.size + k := by omega
   go_wp2_with fail
   refine ⟨⟨k + 1, by rw [Int.natCast_add, Int.add_assoc]; rfl, by omega, ?_, HB.out.setCell (Nat.le_refl _) _⟩, by simp [intOf]; omega⟩
   unfold Hid
   rw [hs_ HG.out, List.setIfInBounds_toArray]
   exact congrArg (fun l => some (Obj.cells (List.toArray l) 5)) (lentC_set s k hlt)
  ·go_wp2_with fail
   go_ret
   have e : k = 8 := by omega
   subst e
   exact ⟨rfl, HG.out, HB.out⟩
theorem still_any (w : World) (g : Nat) (s : ByteArray) (hs : s.size ≤ 2097152) (hg : w.heap[g]? = some (.cells (lentC s 8).toArray 5)) :
  Calls Tryz.prog 57 #[newV g (s.size + 8), .string s] w fun e w' => e = .returned (.bool true) ∧ ∃ n, w' = w.drewN n := by
 have HG := hide hg
 clear hg
 unfold newV
 go_enter Tryz.func57, Tryz.ntmps57
 go_wp2_with fail
 go_loopw [5] (fun i wr => ∃ k m : Nat, i = .int .i64 k ∧ k ≤ s.size + 8 ∧ wr = w.drewN m) (fun i _ => (s.size + 8) - (intOf i).toNat)
 case atStart => exact ⟨0, 0, rfl, by omega, rfl⟩
 case round =>
  obtain ⟨k, m, rfl, hk, rfl⟩ := hrel
  by_cases hlt : k < s.size + 8
  ·by_cases hks : k < s.size
   ·have hc := bc_ HG.out k
    rw [List.getElem?_toArray, lentC_byte s 8 k hks] at hc
    have hidx := idx s k hks
    have hd1 : decide (k < s.size) = true := by simp; exact hks
    have hd2 : decide (s.size ≤ k) = false := by simp; omega
    go_wp2_with fail
    go_quiet (fail)
    go_wp2_with fail
    exact ⟨⟨k + 1, _, by go_num, by omega, rfl⟩, by simp [intOf]; omega⟩
   ·have hc := bc_ HG.out k
    have hmk := lentC_mark s (k - s.size) (by omega)
    rw [show s.size + (k - s.size) = k from by omega] at hmk
    rw [List.getElem?_toArray, hmk] at hc
    unfold m201 at hc
    clear hmk
    have hd1 : decide (k < s.size) = false := by simp; omega
    have hd2 : decide (s.size ≤ k) = true := by simp; omega
    go_wp2_with fail
    go_quiet (fail)
    go_wp2_with fail
    exact ⟨⟨k + 1, _, by go_num, by omega, rfl⟩, by simp [intOf]; omega⟩
  ·go_wp2_with fail
   go_ret
   exact ⟨rfl, m, rfl⟩
attribute [local go_sem] selfQ selfR guardQ guardR
theorem alike_any (w : World) (b v : Value) (L : List Rc) (hL : L.length ≤ 2097152) (hb : Lies w 5 b (L.map Rc.cells)) (hv : Lies w 5 v (L.map Rc.cells)) :
  Calls Tryz.prog 130 #[b, v] w fun e w' => e = .returned (.bool true) ∧ ∃ n, w' = w.drewN n := by
 obtain ⟨ab, cb, rfl, -, hb⟩ := hb
 obtain ⟨av, cv, rfl, -, hv⟩ := hv
 rw [List.length_map]
 have HB := hide hb
 have HV := hide hv
 have HW0 : Hid (∃ n, w = w.drewN n) := ⟨0, rfl⟩
 clear hb hv
 go_enter Tryz.func130, Tryz.ntmps130
 go_wp2_with fail
 go_loopw [5] (fun i wr => ∃ k : Nat, i = .int .i64 k ∧ k ≤ L.length ∧ Hid (∃ n, wr = w.drewN n)) (fun i _ => L.length - (intOf i).toNat)
 case atStart => exact ⟨0, rfl, Nat.zero_le _, HW0.out⟩
 case round =>
  obtain ⟨k, rfl, hk, HW⟩ := hrel
  have hcw : ∀ p, wr.cell? p = w.cell? p := by obtain ⟨n, rfl⟩ := HW.out; intro p; rfl
  by_cases hin : k < L.length
  ·obtain ⟨r, hr⟩ : ∃ r, L[k]? = some r := ⟨_, List.getElem?_eq_getElem hin⟩
   rcases HB.out with he | ⟨bb, off, rfl, _, hc⟩
   ·exfalso; have := congrArg List.length he; simp at this; subst this; simp at hin
   rcases HV.out with he | ⟨bv, offv, rfl, _, hcv⟩
   ·exfalso; have := congrArg List.length he; simp at this; subst this; simp at hin
   obtain ⟨c0, c1, c2, c3, c4⟩ := Lies.rat hc hr
   obtain ⟨d0, d1, d2, d3, d4⟩ := Lies.rat hcv hr
   rw [← hcw] at c0 c1 c2 c3 c4 d0 d1 d2 d3 d4
   obtain ⟨nm, kd, cl, tt, dt⟩ := r
   dsimp only at c0 c1 c2 c3 c4 d0 d1 d2 d3 d4
   clear hc hcv hcw hr HB HV
   go_wp2_with fail
   go_quiet (fail)
   go_wp2_with fail
   exact ⟨⟨k + 1, by go_num, by omega, by obtain ⟨n, hn⟩ := HW.out; exact ⟨n + nq, by rw [hn, World.drewN_drewN]⟩⟩, by simp [intOf]; omega⟩
  ·clear hcw
   go_wp2_with fail
   go_ret
   exact ⟨rfl, HW.out⟩
theorem same_any (w : World) (m : Msg) (vq va vu vx vq' va' vu' vx' : Value) (hm : WfM m) (h1 : MsgAt w m vq va vu vx) (h2 : MsgAt w m vq' va' vu' vx') :
  Calls Tryz.prog 85 #[.agg (mc_ m vq va vu vx), .agg (mc_ m vq' va' vu' vx')] w fun e w' => e = .returned (.bool true) ∧ Hid (Below w.heap.size w w') := by
 have hB : ∀ A B, Below w.heap.size w ((w.alloc A).alloc B) := fun A B => ((Below.refl _ _).alloc (Nat.le_refl _) A).alloc (by rw [as_]; omega) B
 have HB := hide hB
 have HM := hide hm
 have H1 := hide h1
 have H2 := hide h2
 have hnq := hm.nq
 obtain ⟨aq, cq, rfl, -, hq⟩ := h1.q
 obtain ⟨aq', cq', rfl, -, hq'⟩ := h2.q
 rw [List.length_map] at H1 H2
 simp only [List.length_map]
 have HQ := hide hq
 have HQ' := hide hq'
 clear hB hm h1 h2 hq hq'
 obtain ⟨id, rsp, op, own, ct, wt, ab, cd, qs, an, au, ex⟩ := m
 simp only [mc_]
 dsimp only at hnq HQ HQ' H1 H2
 go_enter Tryz.func85, Tryz.ntmps85
 go_wp2_with fail
 generalize hW : (w.alloc _).alloc _ = W
 have HA : Hid (W.heap[w.heap.size]? = some (.cells (mc_ ⟨id, rsp, op, own, ct, wt, ab, cd, qs, an, au, ex⟩ (.slice aq qs.length cq) va vu vx) 30)) := by rw [← hW]; exact heap_old (hn_ _ _) _
 have HAB : Hid (W.heap[w.heap.size + 1]? = some (.cells (mc_ ⟨id, rsp, op, own, ct, wt, ab, cd, qs, an, au, ex⟩ (.slice aq' qs.length cq') va' vu' vx') 30)) := by
  rw [← hW]
  have := hn_ (w.alloc (.cells (mc_ ⟨id, rsp, op, own, ct, wt, ab, cd, qs, an, au, ex⟩ (.slice aq qs.length cq) va vu vx) 30)) (.cells (mc_ ⟨id, rsp, op, own, ct, wt, ab, cd, qs, an, au, ex⟩ (.slice aq' qs.length cq') va' vu' vx') 30)
  rw [as_] at this
  exact this
 have HBW : Hid (Below w.heap.size w W) := by rw [← hW]; exact HB.out _ _
 clear hW HB
 have hcA := bc_ HA.out
 have hcB := bc_ HAB.out
 simp only [mc_] at hcA hcB
 go_loopw [5] (fun i wr => ∃ k n : Nat, i = .int .i64 k ∧ k ≤ qs.length ∧ wr = W.drewN n) (fun i _ => qs.length - (intOf i).toNat)
 case atStart => exact ⟨0, 0, rfl, Nat.zero_le _, rfl⟩
 case round =>
  obtain ⟨k, n, rfl, hk, rfl⟩ := hrel
  by_cases hin : k < qs.length
  ·obtain ⟨r, hr⟩ : ∃ r, qs[k]? = some r := ⟨_, List.getElem?_eq_getElem hin⟩
   rcases HQ.out with he | ⟨bb, off, rfl, hb1, hc⟩
   ·exfalso; have := congrArg List.length he; simp at this; subst this; simp at hin
   rcases HQ'.out with he | ⟨bv, offv, rfl, hb2, hcv⟩
   ·exfalso; have := congrArg List.length he; simp at this; subst this; simp at hin
   obtain ⟨c0, c1, c2⟩ := Lies.qat hc hr
   obtain ⟨d0, d1, d2⟩ := Lies.qat hcv hr
   have t1 : ∀ o u, w.cell? ⟨bb, o, none⟩ = some u → W.cell? ⟨bb, o, none⟩ = some u := fun o u => cell_of_heap (HBW.out.block bb hb1)
   have t2 : ∀ o u, w.cell? ⟨bv, o, none⟩ = some u → W.cell? ⟨bv, o, none⟩ = some u := fun o u => cell_of_heap (HBW.out.block bv hb2)
   replace c0 := t1 _ _ c0
   replace c1 := t1 _ _ c1
   replace c2 := t1 _ _ c2
   replace d0 := t2 _ _ d0
   replace d1 := t2 _ _ d1
   replace d2 := t2 _ _ d2
   obtain ⟨nm, kd, cl⟩ := r
   dsimp only at c0 c1 c2 d0 d1 d2
   clear hc hcv hr HQ HQ' t1 t2
   go_wp2_with fail
   go_quiet (fail)
   go_wp2_with fail
   exact ⟨⟨k + 1, _, by go_num, by omega, rfl⟩, by simp [intOf]; omega⟩
  ·have HD : ∀ j, Hid (Below w.heap.size w (W.drewN j)) := fun j => below_drewN HBW.out j
   go_wp2_with fail
   refine (alike_any (W.drewN n) va va' an HM.out.na (H1.out.a.below (HD n).out) (H2.out.a.below (HD n).out)).mono ?_
   rintro e w1 ⟨rfl, n1, rfl⟩
   go_wp2_with fail
   refine (alike_any _ vu vu' au HM.out.nu (H1.out.u.below (HD _).out) (H2.out.u.below (HD _).out)).mono ?_
   rintro e w1 ⟨rfl, n2, rfl⟩
   go_wp2_with fail
   refine (alike_any _ vx vx' ex HM.out.nx (H1.out.x.below (HD _).out) (H2.out.x.below (HD _).out)).mono ?_
   rintro e w1 ⟨rfl, n3, rfl⟩
   go_wp2_with fail
   go_ret
   exact ⟨rfl, (HD _).out⟩
end Go.Proofs.YtafoepfhepdcoaaGreat
