/- Contracts: bytes are appended to a row of the call's own. -/
import Derived.Test.YtafoepfhepdcoaaGreatSize
import Derived.Test.YtafoepfhepdcoaaGreatOwn
namespace Go.Proofs.YtafoepfhepdcoaaGreat
open Go.RowKit Go.Trawl

theorem u8_info : (Tryz.prog.info? 5).map (fun i => (i.zero, i.size, i.bytes)) = some (some (.int .u8 0), 1, 1) := by kernel_rfl
theorem und_bytes : Tryz.prog.underlying 32 = some (.slice 5) := by kernel_rfl
theorem und_string : Tryz.prog.underlying 9 = some .string := by kernel_rfl

theorem one2 {k : IntKind} {a b : Int} : ∀ u ∈ [Value.int k a, Value.int k b], u.oneCell' = true := by
  intro u hu
  simp at hu
  rcases hu with rfl | rfl <;> rfl

set_option maxRecDepth 10000 in
set_option maxHeartbeats 400000 in
theorem addShort_any (v : Value) (n : Nat) (xs : List Value) (x : Int) (w : World) (h0 : 0 ≤ x) (h1 : x ≤ 65535) (hown : w.ownsRow 0 5 1 v n xs) (hn : n ≤ 1000000) :
    Calls Tryz.prog 64 #[v, .int .u16 x] w fun e w' => ∃ v', e = .returned v' ∧ Grew 5 1 w w' v v' (n + 2) (xs ++ bytesV (two x)) := by
  obtain ⟨i0, hi, hz0, hz1, hz2⟩ := info_parts u8_info
  have HT : Hid _ := two_cells' h0 h1
  go_enter Tryz.func64, Tryz.ntmps64
  go_wp2_with (at_builtin; refine wpList_append_grew _ rfl _ _ 32 rfl 5 i0 (.int .u8 0) 1 1 und_bytes hi hz0 hz1 hz2 rfl (by decide) v n xs rfl ⟨w.heap.size, 0, none⟩ 2 2 [.int .u8 (x / 256), .int .u8 (x % 256)] rfl rfl one2 (hown.alloc _) (cell_two_new _ _ _ _) (by unfold maxLen; omega) (by omega) ?_; intro v' w' hg)
  go_ret
  rw [HT.out]
  exact ⟨_, rfl, hg.pre (World.grownBy_alloc _ _ _)⟩

/-- The block of the parameter, behind a step that makes the row grow. -/
theorem Grew.box {e : TypeId} {sz : Nat} {w w' : World} {v v' : Value} {n : Nat} {x : List Value} {b : Nat} {o : Obj} (h : Grew e sz w w' v v' n x) (hb : w.heap[b]? = some o ∧ v.ownBlock ≠ some b) : w'.heap[b]? = some o ∧ v'.ownBlock ≠ some b := by
  have hlt : b < w.heap.size := (Array.getElem?_eq_some_iff.1 hb.1).1
  have := h.keeps hlt hb.2
  exact ⟨this.1.trans hb.1, this.2.1⟩

set_option maxRecDepth 10000 in
set_option maxHeartbeats 1000000 in
theorem addQ_any (v : Value) (n : Nat) (xs : List Value) (s : ByteArray) (k c : Int) (w : World) (hk0 : 0 ≤ k) (hk1 : k ≤ 65535) (hc0 : 0 ≤ c) (hc1 : c ≤ 65535) (hs : s.size ≤ 255) (hown : w.ownsRow 0 5 1 v n xs) (hn : n ≤ 10000) :
    Calls Tryz.prog 65 #[v, .agg #[.string s, .int .u16 k, .int .u16 c]] w fun e w' => ∃ v', e = .returned v' ∧ Grew 5 1 w w' v v' (n + (qbytes ⟨s, k, c⟩).length) (xs ++ bytesV (qbytes ⟨s, k, c⟩)) := by
  obtain ⟨i0, hi, hz0, hz1, hz2⟩ := info_parts u8_info
  go_enter Tryz.func65, Tryz.ntmps65
  go_wp2_with (at_builtin; refine wpList_append_grew_string _ rfl _ _ 32 9 rfl 5 i0 und_bytes und_string hi hz0 hz1 hz2 v n xs rfl s rfl (hown.alloc _) (by unfold maxLen; omega) (by omega) ?_; intro v1 w1 g1; have b1 := Grew.box g1 ⟨heap_new _ _, own_ne hown (Nat.le_refl _)⟩; have c1 := box_cells b1.1; have B1 := hide b1; clear b1)
  refine (addShort_any _ _ _ _ _ hk0 hk1 g1.own (by omega)).mono ?_
  rintro e w2 ⟨v2, rfl, g2⟩
  have b2 := Grew.box g2 (unhide B1)
  have c2 := box_cells b2.1
  clear c1
  have B2 := hide b2
  clear b2
  go_wp2_with fail
  refine (addShort_any _ _ _ _ _ hc0 hc1 g2.own (by omega)).mono ?_
  rintro e w3 ⟨v3, rfl, g3⟩
  clear c2
  go_wp2_with fail
  go_ret
  have g := ((g1.trans g2).trans g3).pre (World.grownBy_alloc w _ _)
  have e1 : n + s.size + 2 + 2 = n + (qbytes ⟨s, k, c⟩).length := by rw [length_qbytes]; show _ = n + (s.size + 4); omega
  have e2 : xs ++ Lib.strCells s ++ bytesV (two k) ++ bytesV (two c) = xs ++ bytesV (qbytes ⟨s, k, c⟩) := by
    simp only [qbytes, bytesV_append, strCells_bytesV, List.append_assoc]
  rw [e1, e2] at g
  exact ⟨_, rfl, g⟩

theorem wrapU16 (x : Int) : IntKind.u16.wrap x = x % 65536 := by
  simp [IntKind.wrap, IntKind.signed, IntKind.bits]

set_option maxRecDepth 10000 in
set_option maxHeartbeats 2000000 in
theorem addR_any (v : Value) (n : Nat) (xs : List Value) (s : ByteArray) (k c t : Int) (d : ByteArray) (w : World) (hk0 : 0 ≤ k) (hk1 : k ≤ 65535) (hc0 : 0 ≤ c) (hc1 : c ≤ 65535) (ht0 : 0 ≤ t) (ht1 : t ≤ 4294967295) (hs : s.size ≤ 255) (hd : d.size ≤ 512) (hown : w.ownsRow 0 5 1 v n xs) (hn : n ≤ 10000) :
    Calls Tryz.prog 66 #[v, .agg #[.string s, .int .u16 k, .int .u16 c, .int .u32 t, .string d]] w fun e w' => ∃ v', e = .returned v' ∧ Grew 5 1 w w' v v' (n + (rbytes ⟨s, k, c, t, d⟩).length) (xs ++ bytesV (rbytes ⟨s, k, c, t, d⟩)) := by
  obtain ⟨i0, hi, hz0, hz1, hz2⟩ := info_parts u8_info
  have HT : Hid (t ≤ 4294967295) := ht1
  clear ht1
  go_enter Tryz.func66, Tryz.ntmps66
  go_wp2_with (at_builtin; refine wpList_append_grew_string _ rfl _ _ 32 9 rfl 5 i0 und_bytes und_string hi hz0 hz1 hz2 v n xs rfl s rfl (hown.alloc _) (by unfold maxLen; omega) (by omega) ?_; intro v1 w1 g1; have b1 := Grew.box g1 ⟨heap_new _ _, own_ne hown (Nat.le_refl _)⟩; have c1 := box_cells b1.1; have B1 := hide b1; clear b1)
  refine (addShort_any _ _ _ _ _ hk0 hk1 g1.own (by omega)).mono ?_
  rintro e w2 ⟨v2, rfl, g2⟩
  have b2 := Grew.box g2 (unhide B1)
  have c2 := box_cells b2.1
  clear c1
  have B2 := hide b2
  clear b2
  go_wp2_with fail
  refine (addShort_any _ _ _ _ _ hc0 hc1 g2.own (by omega)).mono ?_
  rintro e w3 ⟨v3, rfl, g3⟩
  have b3 := Grew.box g3 (unhide B2)
  have c3 := box_cells b3.1
  clear c2
  have B3 := hide b3
  clear b3
  go_wp2_with fail
  rw [wrapU16, show t / 65536 % 65536 = t / 65536 from by have := HT.out; omega]
  refine (addShort_any _ _ _ _ _ (by omega) (by have := HT.out; omega) g3.own (by omega)).mono ?_
  rintro e w4 ⟨v4, rfl, g4⟩
  have b4 := Grew.box g4 (unhide B3)
  have c4 := box_cells b4.1
  clear c3
  have B4 := hide b4
  clear b4
  go_wp2_with fail
  first | rw [wrapU16] | skip
  refine (addShort_any _ _ _ _ _ (by omega) (by omega) g4.own (by omega)).mono ?_
  rintro e w5 ⟨v5, rfl, g5⟩
  have b5 := Grew.box g5 (unhide B4)
  have c5 := box_cells b5.1
  clear c4
  have B5 := hide b5
  clear b5
  go_wp2_with fail
  refine (addShort_any _ _ _ _ _ (by omega) (by omega) g5.own (by omega)).mono ?_
  rintro e w6 ⟨v6, rfl, g6⟩
  have b6 := Grew.box g6 (unhide B5)
  have c6 := box_cells b6.1
  clear c5 b6
  have o6 := g6.own
  go_wp2_with (at_builtin; refine wpList_append_grew_string _ rfl _ _ 32 9 rfl 5 i0 und_bytes und_string hi hz0 hz1 hz2 v6 _ _ rfl d rfl o6 (by unfold maxLen; omega) (by omega) ?_; intro v7 w7 g7)
  go_ret
  have g := ((((((g1.trans g2).trans g3).trans g4).trans g5).trans g6).trans g7).pre (World.grownBy_alloc w _ _)
  have e1 : n + s.size + 2 + 2 + 2 + 2 + 2 + d.size = n + (rbytes ⟨s, k, c, t, d⟩).length := by rw [length_rbytes]; show _ = n + (s.size + 10 + d.size); omega
  have e2 : xs ++ Lib.strCells s ++ bytesV (two k) ++ bytesV (two c) ++ bytesV (two (t / 65536)) ++ bytesV (two (t % 65536)) ++ bytesV (two d.size) ++ Lib.strCells d = xs ++ bytesV (rbytes ⟨s, k, c, t, d⟩) := by
    simp only [rbytes, bytesV_append, strCells_bytesV, List.append_assoc]
  rw [e1, e2] at g
  exact ⟨_, rfl, g⟩
end Go.Proofs.YtafoepfhepdcoaaGreat
