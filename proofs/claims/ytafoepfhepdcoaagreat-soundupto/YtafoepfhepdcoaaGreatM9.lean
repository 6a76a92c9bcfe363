import Derived.Test.YtafoepfhepdcoaaGreatM8
import Derived.Laws.ResultCell
import Derived.Test.YtafoepfhepdcoaaGreatM5
import Derived.Test.YtafoepfhepdcoaaGreatM6
set_option maxRecDepth 100000
set_option maxHeartbeats 8000000
namespace Go.Proofs.YtafoepfhepdcoaaGreat
open Go.RowKit Go.Trawl
def zM0 : Array Value := #[.int .u16 0, .bool false, .int .i64 0, .bool false, .bool false, .bool false, .bool false, .int .i64 0, .slice none 0 0, .slice none 0 0, .slice none 0 0, .slice none 0 0]
theorem buildRd (b c n : Nat) (W : World) : (Instr.build 133 #[(0, .slice (some ⟨b, 0, none⟩) n c)]).run Tryz.prog W = .ok (.agg #[.slice (some ⟨b, 0, none⟩) n c, .int .i64 0, .bool false]) W := run_build W _ _ _ (by kernel_rfl)
theorem buildId (i : Int) (W : World) : (Instr.build 30 #[(0, .int .u16 i)]).run Tryz.prog W = .ok (.agg #[.int .u16 i, .bool false, .int .i64 0, .bool false, .bool false, .bool false, .bool false, .int .i64 0, .slice none 0 0, .slice none 0 0, .slice none 0 0, .slice none 0 0]) W := run_build W _ _ _ (by kernel_rfl)
theorem buildM0 (W : World) : (Instr.build 30 #[]).run Tryz.prog W = .ok (.agg #[.int .u16 0, .bool false, .int .i64 0, .bool false, .bool false, .bool false, .bool false, .int .i64 0, .slice none 0 0, .slice none 0 0, .slice none 0 0, .slice none 0 0]) W := run_build W _ _ _ (by kernel_rfl)
attribute [local go_sem] buildRd buildId buildM0
structure Rows4 (B : Nat) (w : World) (m : Msg) (vq va vu vx : Value) : Prop where
 q : w.ownsRow 0 41 3 vq m.qs.length ((m.qs.map Qn.cells).flatten)
 a : w.ownsRow 0 69 5 va m.an.length ((m.an.map Rc.cells).flatten)
 u : w.ownsRow 0 69 5 vu m.au.length ((m.au.map Rc.cells).flatten)
 x : w.ownsRow 0 69 5 vx m.ex.length ((m.ex.map Rc.cells).flatten)
 nq : ∀ g, vq.ownBlock = some g → B ≤ g
 na : ∀ g, va.ownBlock = some g → B ≤ g
 nu : ∀ g, vu.ownBlock = some g → B ≤ g
 nx : ∀ g, vx.ownBlock = some g → B ≤ g
 qa : ∀ g, vq.ownBlock = some g → va.ownBlock ≠ some g
 qu : ∀ g, vq.ownBlock = some g → vu.ownBlock ≠ some g
 qx : ∀ g, vq.ownBlock = some g → vx.ownBlock ≠ some g
 au : ∀ g, va.ownBlock = some g → vu.ownBlock ≠ some g
 ax : ∀ g, va.ownBlock = some g → vx.ownBlock ≠ some g
 ux : ∀ g, vu.ownBlock = some g → vx.ownBlock ≠ some g
theorem results_cell_row2 {P : Program} {fn : Func} {p u : Tmp} {ty : TypeId} (h : fn.results = #[.cell p ty, .tmp u]) (tmps : Array Value) (w : World) (g : Nat) (t : TypeId) (cs : Array Value) (fr : Nat × Nat) (d : TypeDesc)
  (hp : tmps.getD p undef = .pointer (some ⟨g, 0, none⟩)) (hg : w.heap[g]? = some (.cells cs t fr))
  (hu : P.underlying ty = some d) (hd : (match d with | .struct _ | .array _ _ => true | _ => false) = true) (hi : (P.info? ty).map (·.size) = some cs.size) :
  (results fn tmps).run P w = .ok (.tuple #[.agg cs, tmps.getD u undef]) w := by
 rw [results_cell_tmp h, hp]
 simp [asAddr, run_loadVar_row w g t ty cs fr d hg hu hd hi]
theorem undMsg : Tryz.prog.underlying 30 = some (.struct (Tryz.prog.fieldsOf 30)) := by kernel_rfl
structure RowW (w : World) (e : TypeId) (sz : Nat) (v : Value) (n : Nat) (xs : List Value) (L H : Nat) : Prop where
 own : w.ownsRow 0 e sz v n xs
 lo : ∀ g, v.ownBlock = some g → L ≤ g
 hi : ∀ g, v.ownBlock = some g → g < H
theorem RowW.grow {w w' : World} {e : TypeId} {sz : Nat} {v : Value} {n : Nat} {xs : List Value} {L H r : Nat} (h : RowW w e sz v n xs L H) (hw : w.grownBy w' (some r)) (hr : r < L ∨ H ≤ r) : RowW w' e sz v n xs L H := by
 refine ⟨h.own.kept hw ?_, h.lo, h.hi⟩
 cases hv : v.ownBlock with
 | none => exact .inl rfl
 | some g =>
  have h1 := h.lo g hv
  have h2 := h.hi g hv
  exact .inr (fun e => by have := Option.some.inj e; omega)
theorem RowW.of {w : World} {e : TypeId} {sz : Nat} {v : Value} {n : Nat} {xs : List Value} {L : Nat} (h : w.ownsRow 0 e sz v n xs) (hl : ∀ g, v.ownBlock = some g → L ≤ g) : RowW w e sz v n xs L w.heap.size := ⟨h, hl, fun g hg => (h.lt g hg).2⟩
structure US (w W : World) (M b c : Nat) (s : ByteArray) (a : Nat) (bad : Bool) (m : Msg) (vq va vu vx : Value) : Prop where
 res : W.heap[w.heap.size]? = some (.cells zM0 30)
 rd : Rd W (w.heap.size + 1) b c s a bad
 lt : w.heap.size + 1 < M
 box : W.heap[M]? = some (.cells (msgCells m vq va vu vx) 30)
 below : Below w.heap.size w W
theorem below_of_grown {w W W' : World} {r : Nat} (h : Below w.heap.size w W) (hr : w.heap.size ≤ r) (hw : W.grownBy W' (some r)) : Below w.heap.size w W' :=
 h.trans ⟨hw.os, hw.tape, hw.output, hw.size, fun k hk => hw.block k (Nat.lt_of_lt_of_le hk h.size) (fun e => by have := Option.some.inj e; omega)⟩
theorem US.move {w W W' : World} {M b c : Nat} {s : ByteArray} {a a' : Nat} {bad bad' : Bool} {m : Msg} {vq va vu vx : Value} (h : US w W M b c s a bad m vq va vu vx) (hw : W.grownBy W' (some (w.heap.size + 1))) (hr : Rd W' (w.heap.size + 1) b c s a' bad') : US w W' M b c s a' bad' m vq va vu vx := by
 have hl := h.lt
 exact ⟨(hw.block _ (heap_lt h.res) (fun e => by have := Option.some.inj e; omega)).trans h.res, hr, hl, (hw.block _ (heap_lt h.box) (fun e => by have := Option.some.inj e; omega)).trans h.box, below_of_grown h.below (by omega) hw⟩
theorem US.box' {w W W' : World} {M b c : Nat} {s : ByteArray} {a : Nat} {bad : Bool} {m m' : Msg} {vq va vu vx vq' va' vu' vx' : Value} (h : US w W M b c s a bad m vq va vu vx) (hb : b < w.heap.size) (hw : W.grownBy W' (some M)) (hx : W'.heap[M]? = some (.cells (msgCells m' vq' va' vu' vx') 30)) : US w W' M b c s a bad m' vq' va' vu' vx' := by
 have hl := h.lt
 exact ⟨(hw.block _ (heap_lt h.res) (fun e => by have := Option.some.inj e; omega)).trans h.res, h.rd.grow hw (fun e => by have := Option.some.inj e; omega) (fun e => by have := Option.some.inj e; omega), hl, hx, below_of_grown h.below (by omega) hw⟩
theorem US.set {w W : World} {M b c : Nat} {s : ByteArray} {a : Nat} {bad : Bool} {m m' : Msg} {vq va vu vx vq' va' vu' vx' : Value} (h : US w W M b c s a bad m vq va vu vx) (hb : b < w.heap.size) (j : Nat) (u : Value) (he : (msgCells m vq va vu vx).setIfInBounds j u = msgCells m' vq' va' vu' vx') : US w (W.setCell ⟨M, j, none⟩ u) M b c s a bad m' vq' va' vu' vx' :=
 h.box' hb (grownBy_setCell _ _ _ _) (by rw [heap_setCell_eq h.box, he])
theorem unpack_bad {s : ByteArray} {m : Msg} {a : Nat} {bad : Bool} (hs : s.size ≤ 512) (h : Ran (pM s) (some 0) m (stOf a bad)) (hb : bad = true ∨ a ≠ s.size) : unpack s = none := by
 unfold unpack
 rw [if_pos hs]
 cases hp : pM s 0 with
 | none => rfl
 | some r =>
  have h1 := h.1
  simp only [Option.bind_some, hp, Option.map_some] at h1
  cases bad with
  | true => cases h1
  | false =>
   have := Option.some.inj h1
   simp only [Option.bind_some]
   rcases hb with hb | hb
   ·cases hb
   ·rw [if_neg (by omega)]
theorem unpack_good {s : ByteArray} {m : Msg} (hs : s.size ≤ 512) (h : Ran (pM s) (some 0) m (some s.size)) : unpack s = some m := by
 obtain ⟨a, h1, h2⟩ := h.le s.size rfl
 cases h1
 unfold unpack
 rw [if_pos hs, h2]
 simp
def put12 (w : World) (N : Nat) (v0 v1 v2 v3 v4 v5 v6 v7 v8 v9 v10 v11 : Value) : World := ((((((((((((w.setCell ⟨N, 0, none⟩ v0).setCell ⟨N, 1, none⟩ v1).setCell ⟨N, 2, none⟩ v2).setCell ⟨N, 3, none⟩ v3).setCell ⟨N, 4, none⟩ v4).setCell ⟨N, 5, none⟩ v5).setCell ⟨N, 6, none⟩ v6).setCell ⟨N, 7, none⟩ v7).setCell ⟨N, 8, none⟩ v8).setCell ⟨N, 9, none⟩ v9).setCell ⟨N, 10, none⟩ v10).setCell ⟨N, 11, none⟩ v11)
theorem put12_box {w : World} {N : Nat} {t : TypeId} (v0 v1 v2 v3 v4 v5 v6 v7 v8 v9 v10 v11 : Value) (hz : w.heap[N]? = some (.cells zM0 t)) : (put12 w N v0 v1 v2 v3 v4 v5 v6 v7 v8 v9 v10 v11).heap[N]? = some (.cells #[v0, v1, v2, v3, v4, v5, v6, v7, v8, v9, v10, v11] t) := by
 unfold put12
 rw [heap_setCell_eq (heap_setCell_eq (heap_setCell_eq (heap_setCell_eq (heap_setCell_eq (heap_setCell_eq (heap_setCell_eq (heap_setCell_eq (heap_setCell_eq (heap_setCell_eq (heap_setCell_eq (heap_setCell_eq hz _) _) _) _) _) _) _) _) _) _) _) _]
 exact congrArg some (by kernel_rfl)
theorem put12_grown (w : World) (N : Nat) (v0 v1 v2 v3 v4 v5 v6 v7 v8 v9 v10 v11 : Value) : w.grownBy (put12 w N v0 v1 v2 v3 v4 v5 v6 v7 v8 v9 v10 v11) (some N) := by
 unfold put12
 iterate 11 refine grownBy_trans ?_ (grownBy_setCell _ _ _ _)
 exact grownBy_setCell _ _ _ _
theorem wUnpack_any (w : World) (b c : Nat) (s : ByteArray) (hsm : s.size ≤ 2097152) (hsc : s.size ≤ c) (hbl : b < w.heap.size) (hc : Bytes w b s) :
  Calls Tryz.prog 31 #[.slice (some ⟨b, 0, none⟩) s.size c] w fun e w' => Hid (Below w.heap.size w w' ∧
   (unpack s = none → e = .returned (.tuple #[.agg zM0, .int .i64 1])) ∧ ∀ m, unpack s = some m → ∃ vq va vu vx, e = .returned (.tuple #[.agg (msgCells m vq va vu vx), .int .i64 0]) ∧ WfM m ∧ Rows4 w.heap.size w' m vq va vu vx) := by
 have HC := hide hc
 clear hc
 by_cases hs : s.size ≤ 512
 ·go_enter Tryz.func31, Tryz.ntmps31
  go_wp2_with fail
  have hB0 : Below w.heap.size w ((w.alloc (Obj.cells #[.int .u16 0, .bool false, .int .i64 0, .bool false, .bool false, .bool false, .bool false, .int .i64 0, .slice none 0 0, .slice none 0 0, .slice none 0 0, .slice none 0 0] 30)).alloc (Obj.cells #[.slice (some { block := b, off := 0 }) s.size c, .int .i64 0, .bool false] 133)) := ((Below.refl _ _).alloc (Nat.le_refl _) _).alloc (by rw [alloc_size]; omega) _
  have HZ0 : Hid (((w.alloc (Obj.cells #[.int .u16 0, .bool false, .int .i64 0, .bool false, .bool false, .bool false, .bool false, .int .i64 0, .slice none 0 0, .slice none 0 0, .slice none 0 0, .slice none 0 0] 30)).alloc (Obj.cells #[.slice (some { block := b, off := 0 }) s.size c, .int .i64 0, .bool false] 133)).heap[w.heap.size]? = some (.cells zM0 30)) := heap_old (heap_new _ _) _
  have HR0 : Hid (Rd ((w.alloc (Obj.cells #[.int .u16 0, .bool false, .int .i64 0, .bool false, .bool false, .bool false, .bool false, .int .i64 0, .slice none 0 0, .slice none 0 0, .slice none 0 0, .slice none 0 0] 30)).alloc (Obj.cells #[.slice (some { block := b, off := 0 }) s.size c, .int .i64 0, .bool false] 133)) (w.heap.size + 1) b c s 0 false) := by
   refine ⟨?_, Nat.zero_le _, HC.out.below hbl hB0, by omega, Nat.lt_of_lt_of_le hbl hB0.size, hsc, hs⟩
   have := heap_new (w.alloc (Obj.cells #[.int .u16 0, .bool false, .int .i64 0, .bool false, .bool false, .bool false, .bool false, .int .i64 0, .slice none 0 0, .slice none 0 0, .slice none 0 0, .slice none 0 0] 30)) (Obj.cells #[.slice (some { block := b, off := 0 }) s.size c, .int .i64 0, .bool false] 133)
   rw [alloc_size] at this
   exact this
  have HB0 := hide hB0
  clear hB0
  generalize ((w.alloc (Obj.cells #[.int .u16 0, .bool false, .int .i64 0, .bool false, .bool false, .bool false, .bool false, .int .i64 0, .slice none 0 0, .slice none 0 0, .slice none 0 0, .slice none 0 0] 30)).alloc (Obj.cells #[.slice (some { block := b, off := 0 }) s.size c, .int .i64 0, .bool false] 133)) = W0 at HB0 HZ0 HR0 ⊢
  refine (short_any W0 (w.heap.size + 1) b c s 0 false HR0.out).mono ?_
  rintro e w1 ⟨id, rfl, H1⟩
  obtain ⟨id0, id1, a1, bad1, R1, G1, Ra1⟩ := H1.out
  have HA1 := hide Ra1
  have hw1 : w.heap.size + 1 < w1.heap.size := heap_lt R1.box
  have HU1 : Hid (US w (w1.alloc (.cells (msgCells ⟨id, false, 0, false, false, false, false, 0, [], [], [], []⟩ (.slice none 0 0) (.slice none 0 0) (.slice none 0 0) (.slice none 0 0)) 30)) w1.heap.size b c s a1 bad1 ⟨id, false, 0, false, false, false, false, 0, [], [], [], []⟩ (.slice none 0 0) (.slice none 0 0) (.slice none 0 0) (.slice none 0 0)) := by
   refine ⟨heap_old ((G1.block _ (heap_lt HZ0.out) (fun e => by have := Option.some.inj e; omega)).trans HZ0.out) _, R1.new (Nat.le_refl _) ((Below.refl _ _).alloc (Nat.le_refl _) _), hw1, heap_new _ _, (below_of_grown HB0.out (by omega) G1).alloc (by omega) _⟩
  clear H1 R1 G1 Ra1
  go_wp2_with fail
  generalize hM : w1.heap.size = M at hw1 HU1 ⊢
  generalize hW1 : w1.alloc _ = W1
  have HU1' : Hid (US w W1 M b c s a1 bad1 ⟨id, false, 0, false, false, false, false, 0, [], [], [], []⟩ (.slice none 0 0) (.slice none 0 0) (.slice none 0 0) (.slice none 0 0)) := by rw [← hW1]; exact HU1.out
  clear hW1 HU1 hM
  refine (short_any W1 (w.heap.size + 1) b c s a1 bad1 HU1'.out.rd).mono ?_
  rintro e w2 ⟨x2, rfl, H2⟩
  obtain ⟨x2a, x2b, a2, bad2, R2, G2, Ra2⟩ := H2.out
  obtain ⟨f, rfl⟩ : ∃ n : Nat, x2 = n := ⟨x2.toNat, by omega⟩
  have HA2 := hide Ra2
  have HU2 := hide (HU1'.out.move G2 R2)
  clear H2 R2 G2 Ra2
  go_wp2_with fail
  refine (unpackFlags_any w2 M f (by omega) id HU2.out.box).mono ?_
  rintro e w3 ⟨uv, rfl, H3⟩
  have HU3 := hide (HU2.out.box' hbl H3.out.2 H3.out.1)
  clear H3
  go_wp2_with fail
  refine (short_any w3 (w.heap.size + 1) b c s a2 bad2 HU3.out.rd).mono ?_
  rintro e w4 ⟨x4, rfl, H4⟩
  obtain ⟨x4a, x4b, a4, bad4, R4, G4, Ra4⟩ := H4.out
  obtain ⟨nq, rfl⟩ : ∃ n : Nat, x4 = n := ⟨x4.toNat, by omega⟩
  have HA4 := hide Ra4
  have HU4 := hide (HU3.out.move G4 R4)
  clear H4 R4 G4 Ra4
  go_wp2_with fail
  refine (short_any w4 (w.heap.size + 1) b c s a4 bad4 HU4.out.rd).mono ?_
  rintro e w5 ⟨x5, rfl, H5⟩
  obtain ⟨x5a, x5b, a5, bad5, R5, G5, Ra5⟩ := H5.out
  obtain ⟨na, rfl⟩ : ∃ n : Nat, x5 = n := ⟨x5.toNat, by omega⟩
  have HA5 := hide Ra5
  have HU5 := hide (HU4.out.move G5 R5)
  clear H5 R5 G5 Ra5
  go_wp2_with fail
  refine (short_any w5 (w.heap.size + 1) b c s a5 bad5 HU5.out.rd).mono ?_
  rintro e w6 ⟨x6, rfl, H6⟩
  obtain ⟨x6a, x6b, a6, bad6, R6, G6, Ra6⟩ := H6.out
  obtain ⟨nu, rfl⟩ : ∃ n : Nat, x6 = n := ⟨x6.toNat, by omega⟩
  have HA6 := hide Ra6
  have HU6 := hide (HU5.out.move G6 R6)
  clear H6 R6 G6 Ra6
  go_wp2_with fail
  refine (short_any w6 (w.heap.size + 1) b c s a6 bad6 HU6.out.rd).mono ?_
  rintro e w7 ⟨x7, rfl, H7⟩
  obtain ⟨x7a, x7b, a7, bad7, R7, G7, Ra7⟩ := H7.out
  obtain ⟨nx, rfl⟩ : ∃ n : Nat, x7 = n := ⟨x7.toNat, by omega⟩
  have HA7 := hide Ra7
  have HU7 := hide (HU6.out.move G7 R7)
  clear H7 R7 G7 Ra7
  go_wp2_with fail
  have hz80 : M < w7.heap.size := heap_lt HU7.out.box
  refine (listQ_any w7 (w.heap.size + 1) b c s a7 bad7 nq (by omega) HU7.out.rd).mono ?_
  rintro e w8 ⟨l8, al8, cl8, rfl, H8⟩
  obtain ⟨⟨a8, bad8, R8, G8, Ra8⟩, ow8, nw8, wf8, ln8⟩ := H8.out
  have hz8 : w7.heap.size ≤ w8.heap.size := G8.size
  have HA8 := hide Ra8
  have HWF8 := hide wf8
  have HU8 := hide (HU7.out.move G8 R8)
  have HN8 := hide (RowW.of ow8 nw8)
  have hcM := box_cells HU8.out.box
  have hfM := frozen_of_block HU8.out.box
  simp only [msgCells] at hcM
  have HUb8 := hide (HU8.out.set hbl 8 (.slice al8 l8.length cl8) (m' := flagged id f [] [] [] []) (vq' := .slice al8 l8.length cl8) (va' := .slice none 0 0) (vu' := .slice none 0 0) (vx' := .slice none 0 0) rfl)
  have HNb8 := hide (HN8.out.grow (grownBy_setCell w8 M 8 (.slice al8 l8.length cl8)) (.inl (by omega)))
  have hzs8 : (w8.setCell ⟨M, 8, none⟩ (.slice al8 l8.length cl8)).heap.size = w8.heap.size := by simp [World.setCell]
  clear H8 R8 G8 Ra8 ow8 nw8 wf8 HN8 HU8
  go_wp2_with fail
  clear hcM hfM
  generalize w8.setCell ⟨M, 8, none⟩ (.slice al8 l8.length cl8) = W8 at HUb8 HNb8 hzs8  ⊢
  have hz90 : M < W8.heap.size := heap_lt HUb8.out.box
  refine (listR_any W8 (w.heap.size + 1) b c s a8 bad8 na (by omega) HUb8.out.rd).mono ?_
  rintro e w9 ⟨l9, al9, cl9, rfl, H9⟩
  obtain ⟨⟨a9, bad9, R9, G9, Ra9⟩, ow9, nw9, wf9, ln9⟩ := H9.out
  have hz9 : W8.heap.size ≤ w9.heap.size := G9.size
  have HA9 := hide Ra9
  have HWF9 := hide wf9
  have HU9 := hide (HUb8.out.move G9 R9)
  have HN9 := hide (RowW.of ow9 nw9)
  have HNb8a9 := hide (HNb8.out.grow G9 (.inl (by omega)))
  have hcM := box_cells HU9.out.box
  have hfM := frozen_of_block HU9.out.box
  simp only [msgCells] at hcM
  have HUb9 := hide (HU9.out.set hbl 9 (.slice al9 l9.length cl9) (m' := flagged id f [] [] [] []) (vq' := .slice al8 l8.length cl8) (va' := .slice al9 l9.length cl9) (vu' := .slice none 0 0) (vx' := .slice none 0 0) rfl)
  have HNb9 := hide (HN9.out.grow (grownBy_setCell w9 M 9 (.slice al9 l9.length cl9)) (.inl (by omega)))
  have HNb8b9 := hide (HNb8a9.out.grow (grownBy_setCell w9 M 9 (.slice al9 l9.length cl9)) (.inl (by omega)))
  have hzs9 : (w9.setCell ⟨M, 9, none⟩ (.slice al9 l9.length cl9)).heap.size = w9.heap.size := by simp [World.setCell]
  clear H9 R9 G9 Ra9 ow9 nw9 wf9 HN9 HU9 HNb8 HNb8a9
  go_wp2_with fail
  clear hcM hfM
  generalize w9.setCell ⟨M, 9, none⟩ (.slice al9 l9.length cl9) = W9 at HUb9 HNb9 hzs9 HNb8b9 ⊢
  have hz100 : M < W9.heap.size := heap_lt HUb9.out.box
  refine (listR_any W9 (w.heap.size + 1) b c s a9 bad9 nu (by omega) HUb9.out.rd).mono ?_
  rintro e w10 ⟨l10, al10, cl10, rfl, H10⟩
  obtain ⟨⟨a10, bad10, R10, G10, Ra10⟩, ow10, nw10, wf10, ln10⟩ := H10.out
  have hz10 : W9.heap.size ≤ w10.heap.size := G10.size
  have HA10 := hide Ra10
  have HWF10 := hide wf10
  have HU10 := hide (HUb9.out.move G10 R10)
  have HN10 := hide (RowW.of ow10 nw10)
  have HNb9a10 := hide (HNb9.out.grow G10 (.inl (by omega)))
  have HNb8b9a10 := hide (HNb8b9.out.grow G10 (.inl (by omega)))
  have hcM := box_cells HU10.out.box
  have hfM := frozen_of_block HU10.out.box
  simp only [msgCells] at hcM
  have HUb10 := hide (HU10.out.set hbl 10 (.slice al10 l10.length cl10) (m' := flagged id f [] [] [] []) (vq' := .slice al8 l8.length cl8) (va' := .slice al9 l9.length cl9) (vu' := .slice al10 l10.length cl10) (vx' := .slice none 0 0) rfl)
  have HNb10 := hide (HN10.out.grow (grownBy_setCell w10 M 10 (.slice al10 l10.length cl10)) (.inl (by omega)))
  have HNb9b10 := hide (HNb9a10.out.grow (grownBy_setCell w10 M 10 (.slice al10 l10.length cl10)) (.inl (by omega)))
  have HNb8b9b10 := hide (HNb8b9a10.out.grow (grownBy_setCell w10 M 10 (.slice al10 l10.length cl10)) (.inl (by omega)))
  have hzs10 : (w10.setCell ⟨M, 10, none⟩ (.slice al10 l10.length cl10)).heap.size = w10.heap.size := by simp [World.setCell]
  clear H10 R10 G10 Ra10 ow10 nw10 wf10 HN10 HU10 HNb9 HNb9a10 HNb8b9 HNb8b9a10
  go_wp2_with fail
  clear hcM hfM
  generalize w10.setCell ⟨M, 10, none⟩ (.slice al10 l10.length cl10) = W10 at HUb10 HNb10 hzs10 HNb9b10 HNb8b9b10 ⊢
  have hz110 : M < W10.heap.size := heap_lt HUb10.out.box
  refine (listR_any W10 (w.heap.size + 1) b c s a10 bad10 nx (by omega) HUb10.out.rd).mono ?_
  rintro e w11 ⟨l11, al11, cl11, rfl, H11⟩
  obtain ⟨⟨a11, bad11, R11, G11, Ra11⟩, ow11, nw11, wf11, ln11⟩ := H11.out
  have hz11 : W10.heap.size ≤ w11.heap.size := G11.size
  have HA11 := hide Ra11
  have HWF11 := hide wf11
  have HU11 := hide (HUb10.out.move G11 R11)
  have HN11 := hide (RowW.of ow11 nw11)
  have HNb10a11 := hide (HNb10.out.grow G11 (.inl (by omega)))
  have HNb9b10a11 := hide (HNb9b10.out.grow G11 (.inl (by omega)))
  have HNb8b9b10a11 := hide (HNb8b9b10.out.grow G11 (.inl (by omega)))
  have hcM := box_cells HU11.out.box
  have hfM := frozen_of_block HU11.out.box
  simp only [msgCells] at hcM
  have HUb11 := hide (HU11.out.set hbl 11 (.slice al11 l11.length cl11) (m' := flagged id f [] [] [] []) (vq' := .slice al8 l8.length cl8) (va' := .slice al9 l9.length cl9) (vu' := .slice al10 l10.length cl10) (vx' := .slice al11 l11.length cl11) rfl)
  have HNb11 := hide (HN11.out.grow (grownBy_setCell w11 M 11 (.slice al11 l11.length cl11)) (.inl (by omega)))
  have HNb10b11 := hide (HNb10a11.out.grow (grownBy_setCell w11 M 11 (.slice al11 l11.length cl11)) (.inl (by omega)))
  have HNb9b10b11 := hide (HNb9b10a11.out.grow (grownBy_setCell w11 M 11 (.slice al11 l11.length cl11)) (.inl (by omega)))
  have HNb8b9b10b11 := hide (HNb8b9b10a11.out.grow (grownBy_setCell w11 M 11 (.slice al11 l11.length cl11)) (.inl (by omega)))
  have hzs11 : (w11.setCell ⟨M, 11, none⟩ (.slice al11 l11.length cl11)).heap.size = w11.heap.size := by simp [World.setCell]
  clear H11 R11 G11 Ra11 ow11 nw11 wf11 HN11 HU11 HNb10 HNb10a11 HNb9b10 HNb9b10a11 HNb8b9b10 HNb8b9b10a11
  have HRAN : Hid (Ran (pM s) (some 0) (flagged id f l8 l9 l10 l11) (stOf a11 bad11)) := HA1.out.bind (HA2.out.bind (HA4.out.bind (HA5.out.bind (HA6.out.bind (HA7.out.bind (HA8.out.bind (HA9.out.bind (HA10.out.bind (HA11.out.bind (Ran.pure _ _))))))))))
  have hcr := HUb11.out.rd.cell
  have hcz := box_cells HUb11.out.res
  have hfz := frozen_of_block HUb11.out.res
  simp only [zM0] at hcz
  have ha11 := HUb11.out.rd.le
  have hbd : bad11 = true ∨ bad11 = false := by cases bad11 <;> simp
  rcases hbd with rfl | rfl
  ·have HN : Hid (unpack s = none) := unpack_bad hs HRAN.out (.inl rfl)
   go_wp2_with fail
   clear hcr hcz hfz
   generalize w11.setCell ⟨M, 11, none⟩ (.slice al11 l11.length cl11) = W11 at HUb11 ⊢
   refine bodyPost_ret (results_cell_row2 rfl _ _ w.heap.size _ _ _ _ rfl (put12_box (.int .u16 0) (.bool false) (.int .i64 0) (.bool false) (.bool false) (.bool false) (.bool false) (.int .i64 0) (.slice none 0 0) (.slice none 0 0) (.slice none 0 0) (.slice none 0 0) HUb11.out.res) undMsg rfl (by kernel_rfl)) rfl ?_
   exact ⟨below_of_grown HUb11.out.below (Nat.le_refl _) (put12_grown W11 w.heap.size (.int .u16 0) (.bool false) (.int .i64 0) (.bool false) (.bool false) (.bool false) (.bool false) (.int .i64 0) (.slice none 0 0) (.slice none 0 0) (.slice none 0 0) (.slice none 0 0)), fun _ => rfl, fun m hm => by rw [HN.out] at hm; cases hm⟩
  ·by_cases hae : a11 = s.size
   ·subst hae
    have HY : Hid (unpack s = some (flagged id f l8 l9 l10 l11)) := unpack_good hs HRAN.out
    have hcM2 := box_cells HUb11.out.box
    simp only [msgCells, flagged] at hcM2
    go_wp2_with fail
    clear hcr hcz hfz hcM2
    generalize hW11 : w11.setCell ⟨M, 11, none⟩ (.slice al11 l11.length cl11) = W11
    rw [hW11] at HUb11 hzs11 HNb11 HNb10b11 HNb9b10b11 HNb8b9b10b11
    clear hW11
    refine bodyPost_ret (results_cell_row2 rfl _ _ w.heap.size _ _ _ _ rfl (put12_box (.int .u16 id) (.bool (decide ((f : Int) / 32768 % 2 = 1))) (.int .i64 ((f : Int) / 2048 % 16)) (.bool (decide ((f : Int) / 1024 % 2 = 1))) (.bool (decide ((f : Int) / 512 % 2 = 1))) (.bool (decide ((f : Int) / 256 % 2 = 1))) (.bool (decide ((f : Int) / 128 % 2 = 1))) (.int .i64 ((f : Int) % 16)) (.slice al8 l8.length cl8) (.slice al9 l9.length cl9) (.slice al10 l10.length cl10) (.slice al11 l11.length cl11) HUb11.out.res) undMsg rfl (by kernel_rfl)) rfl ?_
    have hG := put12_grown W11 w.heap.size (.int .u16 id) (.bool (decide ((f : Int) / 32768 % 2 = 1))) (.int .i64 ((f : Int) / 2048 % 16)) (.bool (decide ((f : Int) / 1024 % 2 = 1))) (.bool (decide ((f : Int) / 512 % 2 = 1))) (.bool (decide ((f : Int) / 256 % 2 = 1))) (.bool (decide ((f : Int) / 128 % 2 = 1))) (.int .i64 ((f : Int) % 16)) (.slice al8 l8.length cl8) (.slice al9 l9.length cl9) (.slice al10 l10.length cl10) (.slice al11 l11.length cl11)
    refine ⟨below_of_grown HUb11.out.below (Nat.le_refl _) hG, (fun hn => by rw [HY.out] at hn; cases hn), fun m hm => ?_⟩
    rw [HY.out] at hm
    cases hm
    have q1 := HNb8b9b10b11.out.grow hG (.inl (by omega))
    have q2 := HNb9b10b11.out.grow hG (.inl (by omega))
    have q3 := HNb10b11.out.grow hG (.inl (by omega))
    have q4 := HNb11.out.grow hG (.inl (by omega))
    refine ⟨_, _, _, _, rfl, ?_, ?_⟩
    ·refine ⟨id0, id1, ?_, ?_, ?_, ?_, ?_, ?_, ?_, ?_, HWF8.out, fun r hr => ?_⟩
     ·show -9223372036854775808 ≤ (f : Int) / 2048 % 16; omega
     ·show (f : Int) / 2048 % 16 ≤ 9223372036854775807; omega
     ·show -9223372036854775808 ≤ (f : Int) % 16; omega
     ·show (f : Int) % 16 ≤ 9223372036854775807; omega
     ·show l8.length ≤ 2097152; omega
     ·show l9.length ≤ 2097152; omega
     ·show l10.length ≤ 2097152; omega
     ·show l11.length ≤ 2097152; omega
     ·simp only [recs, flagged, List.mem_append] at hr
      rcases hr with (hr | hr) | hr
      ·exact HWF9.out r hr
      ·exact HWF10.out r hr
      ·exact HWF11.out r hr
    ·exact ⟨q1.own, q2.own, q3.own, q4.own, (fun g hg => by have := q1.lo g hg; omega), (fun g hg => by have := q2.lo g hg; omega), (fun g hg => by have := q3.lo g hg; omega), (fun g hg => by have := q4.lo g hg; omega),
      (fun g h1 h2 => by have := q1.hi g h1; have := q2.lo g h2; omega), (fun g h1 h2 => by have := q1.hi g h1; have := q3.lo g h2; omega), (fun g h1 h2 => by have := q1.hi g h1; have := q4.lo g h2; omega),
      (fun g h1 h2 => by have := q2.hi g h1; have := q3.lo g h2; omega), (fun g h1 h2 => by have := q2.hi g h1; have := q4.lo g h2; omega), (fun g h1 h2 => by have := q3.hi g h1; have := q4.lo g h2; omega)⟩
   ·have HN : Hid (unpack s = none) := unpack_bad hs HRAN.out (.inr hae)
    go_wp2_with fail
    clear hcr hcz hfz
    generalize w11.setCell ⟨M, 11, none⟩ (.slice al11 l11.length cl11) = W11 at HUb11 ⊢
    refine bodyPost_ret (results_cell_row2 rfl _ _ w.heap.size _ _ _ _ rfl (put12_box (.int .u16 0) (.bool false) (.int .i64 0) (.bool false) (.bool false) (.bool false) (.bool false) (.int .i64 0) (.slice none 0 0) (.slice none 0 0) (.slice none 0 0) (.slice none 0 0) HUb11.out.res) undMsg rfl (by kernel_rfl)) rfl ?_
    exact ⟨below_of_grown HUb11.out.below (Nat.le_refl _) (put12_grown W11 w.heap.size (.int .u16 0) (.bool false) (.int .i64 0) (.bool false) (.bool false) (.bool false) (.bool false) (.int .i64 0) (.slice none 0 0) (.slice none 0 0) (.slice none 0 0) (.slice none 0 0)), fun _ => rfl, fun m hm => by rw [HN.out] at hm; cases hm⟩
 ·have HN : Hid (unpack s = none) := by unfold Hid unpack; rw [if_neg hs]
  go_enter Tryz.func31, Tryz.ntmps31
  go_wp2_with fail
  refine bodyPost_ret (results_cell_row2 rfl _ _ w.heap.size _ _ _ _ rfl (heap_new _ _) undMsg rfl (by kernel_rfl)) rfl ?_
  exact ⟨(Below.refl _ _).alloc (Nat.le_refl _) _, fun _ => rfl, fun m hm => by rw [HN.out] at hm; cases hm⟩
end Go.Proofs.YtafoepfhepdcoaaGreat
namespace Go.Proofs.YtafoepfhepdcoaaGreat
open Go.RowKit Go.Trawl
def asReply (m : Msg) : Msg := { m with resp := true }
def asCut (m : Msg) : Msg := { m with resp := true, an := [], cut := true }
def replyL (m : Msg) : List UInt8 := if packOk (asReply m) then packL (asReply m) else packL (asCut m)
theorem buildSt (k : Int) (s : ByteArray) (W : World) : (Instr.build 111 #[(0, .int .i64 k), (2, .string s)]).run Tryz.prog W = .ok (.agg #[.int .i64 k, .int .u32 0, .string s]) W := run_build W _ _ _ (by kernel_rfl)
attribute [local go_sem] buildSt
def put3 (w : World) (N : Nat) (v0 v1 v2 : Value) : World := ((w.setCell ⟨N, 0, none⟩ v0).setCell ⟨N, 1, none⟩ v1).setCell ⟨N, 2, none⟩ v2
theorem put3_box {w : World} {N : Nat} {t : TypeId} {u0 u1 u2 : Value} (v0 v1 v2 : Value) (hz : w.heap[N]? = some (.cells #[u0, u1, u2] t)) : (put3 w N v0 v1 v2).heap[N]? = some (.cells #[v0, v1, v2] t) := by
 unfold put3
 rw [heap_setCell_eq (heap_setCell_eq (heap_setCell_eq hz _) _) _]
 rfl
theorem put3_grown (w : World) (N : Nat) (v0 v1 v2 : Value) : w.grownBy (put3 w N v0 v1 v2) (some N) := by
 unfold put3
 iterate 2 refine grownBy_trans ?_ (grownBy_setCell _ _ _ _)
 exact grownBy_setCell _ _ _ _
def stepV (k to : Int) (s : ByteArray) : Value := .agg #[.int .i64 k, .int .u32 to, .string s]
end Go.Proofs.YtafoepfhepdcoaaGreat
namespace Go.Trawl
def low (c : Nat) : Nat := if 65 ≤ c ∧ c ≤ 90 then c + 32 else c
def sameB (a b : ByteArray) : Bool := decide (a.size = b.size) && (List.range a.size).all fun i => low (at8 a i) == low (at8 b i)
theorem sameB_true {a b : ByteArray} (h : a.size = b.size) (hi : ∀ i, i < a.size → low (at8 a i) = low (at8 b i)) : sameB a b = true := by
 unfold sameB
 rw [decide_eq_true h, Bool.true_and, List.all_eq_true]
 intro i hh
 rw [hi i (List.mem_range.1 hh)]
 exact beq_self_eq_true _
theorem sameB_size {a b : ByteArray} (h : ¬ a.size = b.size) : sameB a b = false := by
 unfold sameB
 rw [decide_eq_false h, Bool.false_and]
theorem sameB_at {a b : ByteArray} {i : Nat} (hi : i < a.size) (h : ¬ low (at8 a i) = low (at8 b i)) : sameB a b = false := by
 unfold sameB
 have : ((List.range a.size).all fun i => low (at8 a i) == low (at8 b i)) = false := by
  rw [List.all_eq_false]
  exact ⟨i, List.mem_range.2 hi, by simpa using h⟩
 rw [this, Bool.and_false]
def from_ (s : ByteArray) (i : Nat) : ByteArray := s.extract i s.size
def liesN (name zone : ByteArray) : Nat → Nat → Bool
 | 0, _ => false
 | n + 1, i => sameB (from_ name i) zone || (decide (at8 name i ≠ 0) && liesN name zone n (i + 1 + at8 name i))
def liesB (name zone : ByteArray) : Bool := liesN name zone (name.size + 1) 0
structure NameAt (s : ByteArray) (i : Nat) : Prop where
 lt : i < s.size
 last : behind s i + 1 = s.size
 zero : at8 s (behind s i) = 0
theorem NameAt.next {s : ByteArray} {i : Nat} (h : NameAt s i) (h0 : at8 s i ≠ 0) : NameAt s (i + 1 + at8 s i) ∧ at8 s i ≤ 63 := by
 have hb : 0 < at8 s i ∧ at8 s i ≤ 63 := by
  by_cases hh : i < s.size ∧ 0 < at8 s i ∧ at8 s i ≤ 63
  ·exact hh.2
  ·have := behind_stop s i hh
   have h1 := h.zero
   rw [this] at h1
   exact absurd h1 h0
 have e := behind_next s i h.lt hb.1 hb.2
 have hl := le_behind s (i + 1 + at8 s i)
 have h2 := h.last
 have h3 := h.zero
 rw [e] at h2 h3
 exact ⟨⟨by omega, h2, h3⟩, hb.2⟩
theorem nameB_at {s : ByteArray} (h : nameB s = true) : NameAt s 0 := by
 have := of_decide_eq_true h
 have hl := nameB_size h
 exact ⟨by omega, this.2.1, this.2.2⟩
theorem liesN_enough (name zone : ByteArray) : ∀ n m i, NameAt name i → name.size - i ≤ n → name.size - i ≤ m → liesN name zone n i = liesN name zone m i
 | 0, _, i, h, hn, _ => by have := h.lt; omega
 | _, 0, i, h, _, hm => by have := h.lt; omega
 | n + 1, m + 1, i, h, hn, hm => by
  unfold liesN
  by_cases h0 : at8 name i = 0
  ·simp [h0]
  ·have hx := (h.next h0).1
   rw [liesN_enough name zone n m _ hx (by omega) (by omega)]
end Go.Trawl
namespace Go.Proofs.YtafoepfhepdcoaaGreat
open Go.RowKit Go.Trawl
structure In (w : World) (r : Nat) (s : ByteArray) (a : Nat) (bad : Bool) : Prop where
 box : w.heap[r]? = some (.cells #[.string s, .int .i64 a, .bool bad] 203)
 le : a ≤ s.size
 small : s.size ≤ 512
theorem In.cell {w : World} {r : Nat} {s : ByteArray} {a : Nat} {bad : Bool} (h : In w r s a bad) : ∀ o, w.cell? ⟨r, o, none⟩ = #[Value.string s, .int .i64 a, .bool bad][o]? := box_cells h.box
theorem In.frozen {w : World} {r : Nat} {s : ByteArray} {a : Nat} {bad : Bool} (h : In w r s a bad) : ∀ o, w.frozen? ⟨r, o, none⟩ = false := frozen_of_block h.box
theorem In.grow {w w' : World} {r : Nat} {s : ByteArray} {a : Nat} {bad : Bool} (h : In w r s a bad) {row : Option Nat} (hw : w.grownBy w' row) (h1 : row ≠ some r) : In w' r s a bad :=
 ⟨(hw.block r (heap_lt h.box) (Ne.symm h1)).trans h.box, h.le, h.small⟩
theorem In.drewN {w : World} {r : Nat} {s : ByteArray} {a : Nat} {bad : Bool} (h : In w r s a bad) (n : Nat) : In (w.drewN n) r s a bad := h.grow (grownBy_drewN _ n none) (by simp)
theorem In.setBad {w : World} {r : Nat} {s : ByteArray} {a : Nat} {bad : Bool} (h : In w r s a bad) (b : Bool) : In (w.setCell ⟨r, 2, none⟩ (.bool b)) r s a b :=
 ⟨by rw [heap_setCell_eq h.box]; rfl, h.le, h.small⟩
theorem In.setAt {w : World} {r : Nat} {s : ByteArray} {a a' : Nat} {bad : Bool} (h : In w r s a bad) (ha : a' ≤ s.size) : In (w.setCell ⟨r, 1, none⟩ (.int .i64 a')) r s a' bad :=
 ⟨by rw [heap_setCell_eq h.box]; rfl, ha, h.small⟩
theorem idx (s : ByteArray) (i : Nat) (hi : i < s.size) (W : World) : (Instr.index 9 (.string s) (.int .i64 (i : Int))).run Tryz.prog W = .ok (.int .u8 (at8 s i)) W := by
 have hu : Tryz.prog.underlying 9 = some .string := by kernel_rfl
 have e : s[i]? = some s[i] := getElem?_pos s i hi
 have e2 : ((i : Int)).toNat = i := by omega
 rw [run_index_string (P := Tryz.prog) (h := hu)]
 simp [at8_eq s i hi]
 intro h
 omega
theorem liesN_step {name zone : ByteArray} {i : Nat} (h : NameAt name i) : liesN name zone name.size i = (sameB (from_ name i) zone || (decide (at8 name i ≠ 0) && liesN name zone name.size (i + 1 + at8 name i))) := by
 obtain ⟨m, hm⟩ : ∃ m, name.size = m + 1 := ⟨name.size - 1, by have := h.lt; omega⟩
 have e : liesN name zone name.size i = liesN name zone (m + 1) i := by rw [hm]
 rw [e]
 conv => lhs; unfold liesN
 by_cases h0 : at8 name i = 0
 ·simp [h0]
 ·have hx := (h.next h0).1
  rw [liesN_enough name zone m name.size _ hx (by omega) (by omega)]
end Go.Proofs.YtafoepfhepdcoaaGreat
