import Derived.Test.YtafoepfhepdcoaaGreatRows
import Derived.Test.YtafoepfhepdcoaaGreatM11
import Derived.ProofKit
import Derived.Deep.Slices
import Derived.Test.YtafoepfhepdcoaaGreatM27
import Derived.OpenShut
import Derived.JoinedCond
import Derived.Carry
set_option maxRecDepth 100000
set_option maxHeartbeats 8000000
namespace Go.Proofs.YtafoepfhepdcoaaGreat
open Go.RowKit Go.Trawl Go.ChangeShapes Go.WideShapes
section
variable {H : Type} {enc : TypeId × Value → H} {P : Program} {w : World} {sp : Nat → Bool} {held : Bool}
theorem bulk_pos (d : DataW H) : 0 < Rows.uptoBulk d := by
 cases d with
 | lit l => cases l <;> simp [Rows.uptoBulk]
 | _ => simp [Rows.uptoBulk]
theorem bulk_in {d : DataW H} : ∀ {l : List (DataW H)}, d ∈ l → Rows.uptoBulk d ≤ Rows.uptoBulkAll l
 | [], h => by cases h
 | x :: r, h => by
  unfold Rows.uptoBulkAll
  rcases List.mem_cons.1 h with rfl | h
  ·exact Nat.le_add_right _ _
  ·exact Nat.le_trans (bulk_in h) (Nat.le_add_left _ _)
theorem bulk_count : ∀ l : List (DataW H), l.length ≤ Rows.uptoBulkAll l
 | [] => Nat.zero_le _
 | x :: r => by
  have h1 := bulk_count r
  have h2 := bulk_pos x
  unfold Rows.uptoBulkAll
  simp only [List.length_cons]
  omega
theorem bulk_str (l : List UInt8) : Rows.uptoBulk (DataW.lit (H := H) (.string l)) = l.length + 1 := by simp [Rows.uptoBulk]
theorem open_lies {α : Type} [Inhabited α] (cells : α → List Value) (ok : α → Prop) {t e : TypeId} {sz B : Nat} (ht : P.underlying t = some (.slice e)) (hc : P.cellsOf e = sz) (hsz : 0 < sz)
  (each : ∀ n cs d p, DataW.trod enc P w 0 sp held n e cs = some (d, p) → Rows.uptoBulk d ≤ B → ∃ x, cs = cells x ∧ ok x)
  {fuel : Nat} {cs : List Value} {x : DataW H × List MemPlace} (h : DataW.trod enc P w 0 sp held fuel t cs = some x) (hB : Rows.uptoBulk x.1 ≤ B) :
  ∃ (v : Value) (xs : List α), cs = [v] ∧ Lies w sz v (xs.map cells) ∧ (∀ y ∈ xs, ok y) ∧ xs.length ≤ B := by
 rcases DataW.trod_slice ht h with ⟨rfl, rfl⟩ | ⟨a, len, cap, elems, rest, n, rfl, rfl, rfl, hb, hl, hm, hlen, hel, -, -⟩
 ·exact ⟨_, [], rfl, ⟨none, 0, rfl, fun _ => rfl, .inl rfl⟩, (fun y hy => by cases hy), Nat.zero_le _⟩
 ·have hB2 : Rows.uptoBulkAll (elems.map (·.1)) ≤ B := by
   simp only [Rows.uptoBulk] at hB
   omega
  have hlB : len ≤ B := by
   have := bulk_count (elems.map (·.1))
   rw [List.length_map, hlen] at this
   omega
  obtain ⟨f, hf⟩ := Go.Deep.choose_lt (α := α) (p := fun i x => w.cells? 0 (a.add (i * sz)) sz = some (cells x) ∧ ok x) (n := len) (fun i hi => by
   have h1 := hel i hi
   rw [hc, List.getElem?_eq_getElem (by omega)] at h1
   obtain ⟨cs', h2, h3⟩ := Option.bind_eq_some_iff.1 h1
   obtain ⟨y, rfl, hy⟩ := each n cs' elems[i].1 elems[i].2 h3 (Nat.le_trans (bulk_in (List.mem_map.2 ⟨_, List.getElem_mem _, rfl⟩)) hB2)
   exact ⟨y, h2, hy⟩)
  refine ⟨_, (List.range len).map f, rfl, ⟨some a, cap, by simp, (fun h => by cases h), ?_⟩, fun y hy => ?_, by simpa using hlB⟩
  ·by_cases h0 : len = 0
   ·left; simp [h0]
   ·right
    obtain ⟨_, hlc, hcc⟩ := World.cells?_some (hf 0 (by omega)).1
    have h2 := hcc 0 hsz
    rw [List.getElem?_eq_getElem (by omega)] at h2
    have e0 : (a.add (0 * sz)).add 0 = a := by simp [Addr.add]
    rw [e0] at h2
    obtain ⟨b, off, spot⟩ := a
    have h3 : spot = none ∧ b < w.heap.size := by
     unfold World.cell? at h2
     dsimp only at h2
     split at h2
     ·rename_i hh
      refine ⟨?_, heap_lt hh⟩
      cases spot with
      | none => rfl
      | some _ => simp at h2
     ·cases h2
    obtain ⟨rfl, h3⟩ := h3
    refine ⟨b, off, rfl, h3, fun i e he j u hj => ?_⟩
    simp only [List.map_map, List.getElem?_map, Option.map_eq_some_iff] at he
    obtain ⟨i', hi', rfl⟩ := he
    have hi2 : i < len ∧ i' = i := by
     by_cases hi : i < len
     ·rw [List.getElem?_range hi] at hi'
      exact ⟨hi, (Option.some.inj hi').symm⟩
     ·rw [List.getElem?_eq_none (by simpa using hi)] at hi'
      cases hi'
    obtain ⟨hi, rfl⟩ := hi2
    obtain ⟨_, hlc, hcc⟩ := World.cells?_some (hf i' hi).1
    have hj2 : j < sz := by
     rw [← hlc]
     exact (List.getElem?_eq_some_iff.1 hj).1
    have h4 := hcc j hj2
    have e1 : ((⟨b, off, none⟩ : Addr).add (i' * sz)).add j = ⟨b, off + i' * sz + j, none⟩ := by
     unfold Addr.add
     by_cases q1 : i' * sz = 0 <;> by_cases q2 : j = 0 <;> simp [q1, q2, Nat.add_assoc]
    rw [e1] at h4
    rw [h4]
    exact hj
  ·obtain ⟨i, hi, rfl⟩ := List.mem_map.1 hy
   exact (hf i (List.mem_range.1 hi)).2
theorem open_part {t : TypeId} {F : Array Field} {B fuel : Nat} {cs : List Value} {x : DataW H × List MemPlace} (hu : P.underlying t = some (.struct F)) (h : DataW.trod enc P w 0 sp held fuel t cs = some x) (hB : Rows.uptoBulk x.1 ≤ B)
  {i off k : Nat} {ty : TypeId} (hf : F[i]?.map (fun f => (f.type, f.offset)) = some (ty, off)) (hk : P.cellsOf ty = k) :
  ∃ n y, DataW.trod enc P w 0 sp held n ty ((cs.drop off).take k) = some y ∧ Rows.uptoBulk y.1 ≤ B := by
 obtain ⟨xs, n, rfl, rfl, hcl, hxl, hx⟩ := DataW.trod_struct hu h
 cases hF : F[i]? with
 | none => simp [hF] at hf
 | some f =>
  have h1 := hx i f hF
  have hi : i < xs.length := by
   rw [hxl]
   exact (Array.getElem?_eq_some_iff.1 hF).1
  rw [List.getElem?_eq_getElem hi] at h1
  rw [hF] at hf
  simp only [Option.map_some, Option.some.injEq, Prod.mk.injEq] at hf
  obtain ⟨rfl, rfl⟩ := hf
  rw [hk] at h1
  have h2 : Rows.uptoBulkAll (xs.map (·.1)) ≤ B := by
   simp only [Rows.uptoBulk] at hB
   omega
  exact ⟨n, _, h1, Nat.le_trans (bulk_in (List.mem_map.2 ⟨_, List.getElem_mem hi, rfl⟩)) h2⟩
theorem open_count {t : TypeId} {F : Array Field} {fuel : Nat} {cs : List Value} {x : DataW H × List MemPlace} (hu : P.underlying t = some (.struct F)) (h : DataW.trod enc P w 0 sp held fuel t cs = some x) : cs.length = P.cellsOf t := by
 obtain ⟨_, _, _, _, h, _⟩ := DataW.trod_struct hu h
 exact h
theorem wf16 {n : Int} (h : (Lit.int .u16 n).wf = true) : 0 ≤ n ∧ n ≤ 65535 := by simpa [Lit.wf, IntKind.min, IntKind.max, IntKind.signed, IntKind.bits] using h
theorem wf32 {n : Int} (h : (Lit.int .u32 n).wf = true) : 0 ≤ n ∧ n ≤ 4294967295 := by simpa [Lit.wf, IntKind.min, IntKind.max, IntKind.signed, IntKind.bits] using h
theorem wf64 {n : Int} (h : (Lit.int .i64 n).wf = true) : -9223372036854775808 ≤ n ∧ n ≤ 9223372036854775807 := by simpa [Lit.wf, IntKind.min, IntKind.max, IntKind.signed, IntKind.bits] using h
theorem open_text {t : TypeId} {B fuel : Nat} {cs : List Value} {x : DataW H × List MemPlace} (hu : P.underlying t = some .string) (h : DataW.trod enc P w 0 sp held fuel t cs = some x) (hB : Rows.uptoBulk x.1 ≤ B) :
  ∃ s : ByteArray, cs = [.string s] ∧ s.size ≤ B := by
 obtain ⟨s, h1, rfl, -⟩ := DataW.trod_string hu h
 refine ⟨s, h1, ?_⟩
 rw [bulk_str, Array.length_toList] at hB
 show s.data.size ≤ B
 omega
end
instance : Inhabited Qn := ⟨⟨⟨#[]⟩, 0, 0⟩⟩
instance : Inhabited Rc := ⟨⟨⟨#[]⟩, 0, 0, 0, ⟨#[]⟩⟩⟩
instance : Inhabited Msg := ⟨⟨0, false, 0, false, false, false, false, 0, [], [], [], []⟩⟩
instance : Inhabited OpV := ⟨⟨0, 0, default, .bool false, .bool false, .bool false, .bool false, ⟨#[]⟩, 0, 0, 0, 0, 0, .bool false, []⟩⟩
theorem uStr : Tryz.prog.underlying 9 = some .string := by kernel_rfl
theorem u16T : Tryz.prog.underlying 26 = some (.int .u16) := by kernel_rfl
theorem u32T : Tryz.prog.underlying 54 = some (.int .u32) := by kernel_rfl
theorem i64T : Tryz.prog.underlying 3 = some (.int .i64) := by kernel_rfl
theorem boolT : Tryz.prog.underlying 4 = some .bool := by kernel_rfl
theorem undM : Tryz.prog.underlying 30 = some (.struct (Tryz.prog.fieldsOf 30)) := by kernel_rfl
theorem undQs : Tryz.prog.underlying 27 = some (.slice 41) := by kernel_rfl
theorem undRs : Tryz.prog.underlying 28 = some (.slice 69) := by kernel_rfl
theorem cQ : Tryz.prog.cellsOf 41 = 3 := by kernel_rfl
theorem cR : Tryz.prog.cellsOf 69 = 5 := by kernel_rfl
theorem kM : Tryz.prog.cellsOf 30 = 12 := by kernel_rfl
theorem cS : Tryz.prog.cellsOf 9 = 1 := by kernel_rfl
theorem c16 : Tryz.prog.cellsOf 26 = 1 := by kernel_rfl
theorem c32 : Tryz.prog.cellsOf 54 = 1 := by kernel_rfl
theorem c64 : Tryz.prog.cellsOf 3 = 1 := by kernel_rfl
theorem cB : Tryz.prog.cellsOf 4 = 1 := by kernel_rfl
theorem cQs : Tryz.prog.cellsOf 27 = 1 := by kernel_rfl
theorem cRs : Tryz.prog.cellsOf 28 = 1 := by kernel_rfl
section
variable {H : Type} {enc : TypeId × Value → H} {w : World} {sp : Nat → Bool} {held : Bool}
theorem open_q (n : Nat) (cs : List Value) (d : DataW H) (p : List MemPlace) (h : DataW.trod enc Tryz.prog w 0 sp held n 41 cs = some (d, p)) (hB : Rows.uptoBulk d ≤ 1048576) : ∃ x : Qn, cs = x.cells ∧ WfQ x := by
 have hl := open_count undQ h
 rw [cQ] at hl
 match cs, hl with
 | [c0, c1, c2], _ =>
  obtain ⟨_, _, h0, b0⟩ := open_part undQ h hB (i := 0) (off := 0) (ty := 9) (by kernel_rfl) cS
  obtain ⟨_, _, h1, _⟩ := open_part undQ h hB (i := 1) (off := 1) (ty := 26) (by kernel_rfl) c16
  obtain ⟨_, _, h2, _⟩ := open_part undQ h hB (i := 2) (off := 2) (ty := 26) (by kernel_rfl) c16
  obtain ⟨s, e0, hs⟩ := open_text uStr h0 b0
  obtain ⟨k, e1, _, w1⟩ := DataW.trod_int u16T h1
  obtain ⟨c, e2, _, w2⟩ := DataW.trod_int u16T h2
  have w1 := wf16 w1
  have w2 := wf16 w2
  cases e0; cases e1; cases e2
  exact ⟨⟨s, k, c⟩, rfl, ⟨by dsimp only; omega, w1.1, w1.2, w2.1, w2.2⟩⟩
theorem open_r (n : Nat) (cs : List Value) (d : DataW H) (p : List MemPlace) (h : DataW.trod enc Tryz.prog w 0 sp held n 69 cs = some (d, p)) (hB : Rows.uptoBulk d ≤ 1048576) : ∃ x : Rc, cs = x.cells ∧ WfR x := by
 have hl := open_count undR h
 rw [cR] at hl
 match cs, hl with
 | [c0, c1, c2, c3, c4], _ =>
  obtain ⟨_, _, h0, b0⟩ := open_part undR h hB (i := 0) (off := 0) (ty := 9) (by kernel_rfl) cS
  obtain ⟨_, _, h1, _⟩ := open_part undR h hB (i := 1) (off := 1) (ty := 26) (by kernel_rfl) c16
  obtain ⟨_, _, h2, _⟩ := open_part undR h hB (i := 2) (off := 2) (ty := 26) (by kernel_rfl) c16
  obtain ⟨_, _, h3, _⟩ := open_part undR h hB (i := 3) (off := 3) (ty := 54) (by kernel_rfl) c32
  obtain ⟨_, _, h4, b4⟩ := open_part undR h hB (i := 4) (off := 4) (ty := 9) (by kernel_rfl) cS
  obtain ⟨s, e0, hs⟩ := open_text uStr h0 b0
  obtain ⟨k, e1, _, w1⟩ := DataW.trod_int u16T h1
  obtain ⟨c, e2, _, w2⟩ := DataW.trod_int u16T h2
  obtain ⟨t, e3, _, w3⟩ := DataW.trod_int u32T h3
  obtain ⟨dt, e4, hd⟩ := open_text uStr h4 b4
  have w1 := wf16 w1
  have w2 := wf16 w2
  have w3 := wf32 w3
  cases e0; cases e1; cases e2; cases e3; cases e4
  exact ⟨⟨s, k, c, t, dt⟩, rfl, ⟨by dsimp only; omega, by dsimp only; omega, w1.1, w1.2, w2.1, w2.2, w3.1, w3.2⟩⟩
theorem open_qs {fuel : Nat} {cs : List Value} {x : DataW H × List MemPlace} (h : DataW.trod enc Tryz.prog w 0 sp held fuel 27 cs = some x) (hB : Rows.uptoBulk x.1 ≤ 1048576) :
  ∃ (v : Value) (xs : List Qn), cs = [v] ∧ Lies w 3 v (xs.map Qn.cells) ∧ (∀ y ∈ xs, WfQ y) ∧ xs.length ≤ 1048576 := open_lies Qn.cells WfQ undQs cQ (by decide) open_q h hB
theorem open_rs {fuel : Nat} {cs : List Value} {x : DataW H × List MemPlace} (h : DataW.trod enc Tryz.prog w 0 sp held fuel 28 cs = some x) (hB : Rows.uptoBulk x.1 ≤ 1048576) :
  ∃ (v : Value) (xs : List Rc), cs = [v] ∧ Lies w 5 v (xs.map Rc.cells) ∧ (∀ y ∈ xs, WfR y) ∧ xs.length ≤ 1048576 := open_lies Rc.cells WfR undRs cR (by decide) open_r h hB
theorem open_m {n : Nat} {cs : List Value} {x : DataW H × List MemPlace} (h : DataW.trod enc Tryz.prog w 0 sp held n 30 cs = some x) (hB : Rows.uptoBulk x.1 ≤ 1048576) :
  ∃ (m : Msg) (vq va vu vx : Value), cs = (msgCells m vq va vu vx).toList ∧ WfM m ∧ MsgAt w m vq va vu vx := by
 have hl := open_count undM h
 rw [kM] at hl
 match cs, hl with
 | [c0, c1, c2, c3, c4, c5, c6, c7, c8, c9, c10, c11], _ =>
  obtain ⟨_, _, h0, _⟩ := open_part undM h hB (i := 0) (off := 0) (ty := 26) (by kernel_rfl) c16
  obtain ⟨_, _, h1, _⟩ := open_part undM h hB (i := 1) (off := 1) (ty := 4) (by kernel_rfl) cB
  obtain ⟨_, _, h2, _⟩ := open_part undM h hB (i := 2) (off := 2) (ty := 3) (by kernel_rfl) c64
  obtain ⟨_, _, h3, _⟩ := open_part undM h hB (i := 3) (off := 3) (ty := 4) (by kernel_rfl) cB
  obtain ⟨_, _, h4, _⟩ := open_part undM h hB (i := 4) (off := 4) (ty := 4) (by kernel_rfl) cB
  obtain ⟨_, _, h5, _⟩ := open_part undM h hB (i := 5) (off := 5) (ty := 4) (by kernel_rfl) cB
  obtain ⟨_, _, h6, _⟩ := open_part undM h hB (i := 6) (off := 6) (ty := 4) (by kernel_rfl) cB
  obtain ⟨_, _, h7, _⟩ := open_part undM h hB (i := 7) (off := 7) (ty := 3) (by kernel_rfl) c64
  obtain ⟨_, _, h8, b8⟩ := open_part undM h hB (i := 8) (off := 8) (ty := 27) (by kernel_rfl) cQs
  obtain ⟨_, _, h9, b9⟩ := open_part undM h hB (i := 9) (off := 9) (ty := 28) (by kernel_rfl) cRs
  obtain ⟨_, _, h10, b10⟩ := open_part undM h hB (i := 10) (off := 10) (ty := 28) (by kernel_rfl) cRs
  obtain ⟨_, _, h11, b11⟩ := open_part undM h hB (i := 11) (off := 11) (ty := 28) (by kernel_rfl) cRs
  obtain ⟨id, e0, _, w0⟩ := DataW.trod_int u16T h0
  obtain ⟨r, e1, _⟩ := DataW.trod_bool boolT h1
  obtain ⟨op, e2, _, w2⟩ := DataW.trod_int i64T h2
  obtain ⟨ow, e3, _⟩ := DataW.trod_bool boolT h3
  obtain ⟨ct, e4, _⟩ := DataW.trod_bool boolT h4
  obtain ⟨wa, e5, _⟩ := DataW.trod_bool boolT h5
  obtain ⟨ab, e6, _⟩ := DataW.trod_bool boolT h6
  obtain ⟨cd, e7, _, w7⟩ := DataW.trod_int i64T h7
  obtain ⟨vq, qs, e8, l8, a8, n8⟩ := open_qs h8 b8
  obtain ⟨va, an, e9, l9, a9, n9⟩ := open_rs h9 b9
  obtain ⟨vu, au, e10, l10, a10, n10⟩ := open_rs h10 b10
  obtain ⟨vx, ex, e11, l11, a11, n11⟩ := open_rs h11 b11
  have w0 := wf16 w0
  have w2 := wf64 w2
  have w7 := wf64 w7
  cases e0; cases e1; cases e2; cases e3; cases e4; cases e5; cases e6; cases e7; cases e8; cases e9; cases e10; cases e11
  refine ⟨⟨id, r, op, ow, ct, wa, ab, cd, qs, an, au, ex⟩, _, _, _, _, rfl, ⟨w0.1, w0.2, w2.1, w2.2, w7.1, w7.2, by dsimp only; omega, by dsimp only; omega, by dsimp only; omega, by dsimp only; omega, a8, fun r hr => ?_⟩, ⟨l8, l9, l10, l11⟩⟩
  simp only [recs, List.mem_append] at hr
  rcases hr with (hr | hr) | hr
  ·exact a9 r hr
  ·exact a10 r hr
  ·exact a11 r hr
end
end Go.Proofs.YtafoepfhepdcoaaGreat
namespace Go.Proofs.YtafoepfhepdcoaaGreat
open Go.ChangeShapes Go.WideShapes Go.ChangeAt Go.RowKit Go.Trawl
theorem own2 : ownKnob Tryz.prog.godebug = none := by kernel_rfl
theorem laid2 : laidOutB Tryz.prog = true := by kernel_rfl
theorem par2 : Tryz.f7.params.toList = [30] := by kernel_rfl
def zeroM : Value := .agg #[.int .u16 0, .bool false, .int .i64 0, .bool false, .bool false, .bool false, .bool false, .int .i64 0, .slice none 0 0, .slice none 0 0, .slice none 0 0, .slice none 0 0]
theorem wire_contract (H : Type) (enc : TypeId × Value → H) (W : World) (base : Nat) (args : Array Value) (ds gs : List (DataW H)) (before : List MemPlace)
  (hval : ∀ (j : Nat) t v, Tryz.f7.params[j]? = some t → args[j]? = some v → Value.okWide Tryz.prog W .any base t v)
  (hW : DataW.Whole enc Tryz.prog Tryz.f7.params.toList Rows.wireSpec.vars false W args.toList ds gs before) (hk : Rows.uptoSmall H (ds ++ gs) = true) :
  Calls Tryz.prog 7 args W fun e W' => ∃ v, e = .returned v ∧ Rows.wireSpec.post enc Tryz.prog Tryz.f7 false true false false W args v W' := by
 have hW' := hW
 obtain ⟨p, q, hA0, hV, rfl, hfz, hnd⟩ := hW
 have hA : DataW.TrodAll enc Tryz.prog W 0 (fun _ => true) true Tryz.f7.params.toList args.toList ds p := hA0
 rw [par2] at hA
 obtain ⟨v0, vs0, d0, ds0, p0, q0, hargs, rfl, rfl, h0, r0⟩ := trodAll_cons hA
 obtain ⟨rfl, rfl, rfl⟩ := trodAll_nil r0
 obtain rfl : args = #[v0] := by cases args; simp_all
 obtain ⟨rfl, rfl⟩ := trodVars_none hV
 obtain ⟨cs, rfl, hcs⟩ := okWide_struct undM (hval 0 30 v0 (by kernel_rfl) rfl)
 clear hA0
 simp only [List.append_nil] at hW' hk
 have hB : Rows.uptoBulk d0 ≤ 1048576 := by
  have h : Rows.uptoBulkAll [d0] ≤ 1048576 := of_decide_eq_true hk
  simp only [Rows.uptoBulkAll] at h
  omega
 obtain ⟨m, vq, va, vu, vx, ecs, l1, l2⟩ : ∃ (m : Msg) (vq va vu vx : Value), cs = msgCells m vq va vu vx ∧ WfM m ∧ MsgAt W m vq va vu vx := by
  obtain ⟨fuel, h⟩ := h0
  obtain ⟨m, vq, va, vu, vx, e, h1, h2⟩ := open_m h hB
  exact ⟨m, vq, va, vu, vx, Array.ext' e, h1, h2⟩
 subst ecs
 refine (wire_any W m vq va vu vx l1 l2).mono fun e W' ⟨he, hb⟩ => ?_
 subst he
 have hlt : ∀ x ∈ p0, x.block < W.heap.size := fun x hx => hW'.lt x hx
 refine ⟨_, rfl, [d0], [], p0, [], p0, [], hW', ?_, ?_, rfl, hb.frame _, fun h => by cases h⟩
 ·show DataW.TrodAll enc Tryz.prog W' _ _ _ Tryz.f7.resultTypes.toList _ [.lit (.bool true)] []
  exact trodAll_cons_mk (shut_bool boolT _) trodAll_mk0
 ·rw [par2]
  show DataW.TrodAll enc Tryz.prog W' _ _ _ [30] [.agg (msgCells m vq va vu vx)] [d0] p0
  exact trodAll_mk1 (Below.trod laid2 (by kernel_rfl) (of_decide_eq_true (by kernel_rfl)) h0 hb hlt)
theorem wire_lifted (os : Os) (started : os.Started) (H : Type) (enc : TypeId × Value → H) (F : Stop.Interp) :
  ReturnsInHanded {} Tryz.checked os 7 .any ((Rows.OpenSpec.upto Rows.wireSpec).pre6 enc Tryz.prog Tryz.f7 Rows.wireUptoRow.domain false) (((Rows.OpenSpec.upto Rows.wireSpec).at F).post enc Tryz.prog Tryz.f7 false true false false) := by
 refine returnsInHanded_of_cond (C := Tryz.checked) (s := Rows.OpenSpec.upto Rows.wireSpec) (k := Rows.uptoSmall) rfl own2 started (by kernel_rfl) Tryz.func7
  (OpenSpec.witness (enc := enc) (C := Tryz.checked) (s := Rows.OpenSpec.upto Rows.wireSpec) (k := Rows.uptoSmall) rfl false ⟨#[], #[zeroM], []⟩ 8 (by kernel_rfl) (by kernel_rfl) (by kernel_rfl)
   (x := ([.agg [.lit (.int .u16 0), .lit (.bool false), .lit (.int .i64 0), .lit (.bool false), .lit (.bool false), .lit (.bool false), .lit (.bool false), .lit (.int .i64 0), .nil, .nil, .nil, .nil]], [], [])) (by kernel_rfl) rfl (by kernel_rfl)) ?_
 intro W base args ds gs before hval hW _ hk _
 exact wire_contract H enc W base args ds gs before hval hW hk
theorem wire_upto_holds : Rows.WireUptoSaid :=
 OpenClaim.holds_of_cond 7 Tryz.f7 rfl rfl rfl rfl rfl rfl rfl ⟨rfl, rfl, rfl, rfl, rfl⟩ rfl rfl rfl rfl rfl (by kernel_rfl) Tryz.func7 (by kernel_rfl)
  (of_decide_eq_true (by kernel_rfl)) (by unfold Func.isWrapper; first | (rw [if_pos (by decide +kernel)]; kernel_rfl) | (rw [if_neg (by decide +kernel)]; exact ⟨rfl, rfl⟩))
  (fun os started H enc _ F => wire_lifted os started H enc F)
end Go.Proofs.YtafoepfhepdcoaaGreat
