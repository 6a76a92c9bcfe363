import Derived.Test.YtafoepfhepdcoaaGreatRows
import Derived.Test.YtafoepfhepdcoaaGreatM11
import Derived.ProofKit
import Derived.Deep.Slices
import Derived.Test.YtafoepfhepdcoaaGreatM35
import Derived.OpenShut
import Derived.JoinedCond
import Derived.Carry
set_option maxRecDepth 100000
set_option maxHeartbeats 8000000
namespace Go.Proofs.YtafoepfhepdcoaaGreat
open Go.RowKit Go.Trawl Go.ChangeShapes Go.WideShapes
section
variable {H : Type} {enc : TypeId × Value → H} {P : Program} {w : World} {sp : Nat → Bool} {held : Bool}
theorem bulk_pos (d : DataW H) : 0 < Rows.uptoBulk d := by
 cases d with
 | lit l => cases l <;> simp [Rows.uptoBulk]
 | _ => simp [Rows.uptoBulk]
theorem bulk_in {d : DataW H} : ∀ {l : List (DataW H)}, d ∈ l → Rows.uptoBulk d ≤ Rows.uptoBulkAll l
 | [], h => by cases h
 | x :: r, h => by
  unfold Rows.uptoBulkAll
  rcases List.mem_cons.1 h with rfl | h
  ·exact Nat.le_add_right _ _
  ·exact Nat.le_trans (bulk_in h) (Nat.le_add_left _ _)
theorem bulk_count : ∀ l : List (DataW H), l.length ≤ Rows.uptoBulkAll l
 | [] => Nat.zero_le _
 | x :: r => by
  have h1 := bulk_count r
  have h2 := bulk_pos x
  unfold Rows.uptoBulkAll
  simp only [List.length_cons]
  omega
theorem bulk_str (l : List UInt8) : Rows.uptoBulk (DataW.lit (H := H) (.string l)) = l.length + 1 := by simp [Rows.uptoBulk]
theorem open_lies {α : Type} [Inhabited α] (cells : α → List Value) (ok : α → Prop) {t e : TypeId} {sz B : Nat} (ht : P.underlying t = some (.slice e)) (hc : P.cellsOf e = sz) (hsz : 0 < sz)
  (each : ∀ n cs d p, DataW.trod enc P w 0 sp held n e cs = some (d, p) → Rows.uptoBulk d ≤ B → ∃ x, cs = cells x ∧ ok x)
  {fuel : Nat} {cs : List Value} {x : DataW H × List MemPlace} (h : DataW.trod enc P w 0 sp held fuel t cs = some x) (hB : Rows.uptoBulk x.1 ≤ B) :
  ∃ (v : Value) (xs : List α), cs = [v] ∧ Lies w sz v (xs.map cells) ∧ (∀ y ∈ xs, ok y) ∧ xs.length ≤ B := by
 rcases DataW.trod_slice ht h with ⟨rfl, rfl⟩ | ⟨a, len, cap, elems, rest, n, rfl, rfl, rfl, hb, hl, hm, hlen, hel, -, -⟩
 ·exact ⟨_, [], rfl, ⟨none, 0, rfl, fun _ => rfl, .inl rfl⟩, (fun y hy => by cases hy), Nat.zero_le _⟩
 ·have hB2 : Rows.uptoBulkAll (elems.map (·.1)) ≤ B := by
   simp only [Rows.uptoBulk] at hB
   omega
  have hlB : len ≤ B := by
   have := bulk_count (elems.map (·.1))
   rw [List.length_map, hlen] at this
   omega
  obtain ⟨f, hf⟩ := Go.Deep.choose_lt (α := α) (p := fun i x => w.cells? 0 (a.add (i * sz)) sz = some (cells x) ∧ ok x) (n := len) (fun i hi => by
   have h1 := hel i hi
   rw [hc, List.getElem?_eq_getElem (by omega)] at h1
   obtain ⟨cs', h2, h3⟩ := Option.bind_eq_some_iff.1 h1
   obtain ⟨y, rfl, hy⟩ := each n cs' elems[i].1 elems[i].2 h3 (Nat.le_trans (bulk_in (List.mem_map.2 ⟨_, List.getElem_mem _, rfl⟩)) hB2)
   exact ⟨y, h2, hy⟩)
  refine ⟨_, (List.range len).map f, rfl, ⟨some a, cap, by simp, (fun h => by cases h), ?_⟩, fun y hy => ?_, by simpa using hlB⟩
  ·by_cases h0 : len = 0
   ·left; simp [h0]
   ·right
    obtain ⟨_, hlc, hcc⟩ := World.cells?_some (hf 0 (by omega)).1
    have h2 := hcc 0 hsz
    rw [List.getElem?_eq_getElem (by omega)] at h2
    have e0 : (a.add (0 * sz)).add 0 = a := by simp [Addr.add]
    rw [e0] at h2
    obtain ⟨b, off, spot⟩ := a
    have h3 : spot = none ∧ b < w.heap.size := by
     unfold World.cell? at h2
     dsimp only at h2
     split at h2
     ·rename_i hh
      refine ⟨?_, heap_lt hh⟩
      cases spot with
      | none => rfl
      | some _ => simp at h2
     ·cases h2
    obtain ⟨rfl, h3⟩ := h3
    refine ⟨b, off, rfl, h3, fun i e he j u hj => ?_⟩
    simp only [List.map_map, List.getElem?_map, Option.map_eq_some_iff] at he
    obtain ⟨i', hi', rfl⟩ := he
    have hi2 : i < len ∧ i' = i := by
     by_cases hi : i < len
     ·rw [List.getElem?_range hi] at hi'
      exact ⟨hi, (Option.some.inj hi').symm⟩
     ·rw [List.getElem?_eq_none (by simpa using hi)] at hi'
      cases hi'
    obtain ⟨hi, rfl⟩ := hi2
    obtain ⟨_, hlc, hcc⟩ := World.cells?_some (hf i' hi).1
    have hj2 : j < sz := by
     rw [← hlc]
     exact (List.getElem?_eq_some_iff.1 hj).1
    have h4 := hcc j hj2
    have e1 : ((⟨b, off, none⟩ : Addr).add (i' * sz)).add j = ⟨b, off + i' * sz + j, none⟩ := by
     unfold Addr.add
     by_cases q1 : i' * sz = 0 <;> by_cases q2 : j = 0 <;> simp [q1, q2, Nat.add_assoc]
    rw [e1] at h4
    rw [h4]
    exact hj
  ·obtain ⟨i, hi, rfl⟩ := List.mem_map.1 hy
   exact (hf i (List.mem_range.1 hi)).2
theorem open_part {t : TypeId} {F : Array Field} {B fuel : Nat} {cs : List Value} {x : DataW H × List MemPlace} (hu : P.underlying t = some (.struct F)) (h : DataW.trod enc P w 0 sp held fuel t cs = some x) (hB : Rows.uptoBulk x.1 ≤ B)
  {i off k : Nat} {ty : TypeId} (hf : F[i]?.map (fun f => (f.type, f.offset)) = some (ty, off)) (hk : P.cellsOf ty = k) :
  ∃ n y, DataW.trod enc P w 0 sp held n ty ((cs.drop off).take k) = some y ∧ Rows.uptoBulk y.1 ≤ B := by
 obtain ⟨xs, n, rfl, rfl, hcl, hxl, hx⟩ := DataW.trod_struct hu h
 cases hF : F[i]? with
 | none => simp [hF] at hf
 | some f =>
  have h1 := hx i f hF
  have hi : i < xs.length := by
   rw [hxl]
   exact (Array.getElem?_eq_some_iff.1 hF).1
  rw [List.getElem?_eq_getElem hi] at h1
  rw [hF] at hf
  simp only [Option.map_some, Option.some.injEq, Prod.mk.injEq] at hf
  obtain ⟨rfl, rfl⟩ := hf
  rw [hk] at h1
  have h2 : Rows.uptoBulkAll (xs.map (·.1)) ≤ B := by
   simp only [Rows.uptoBulk] at hB
   omega
  exact ⟨n, _, h1, Nat.le_trans (bulk_in (List.mem_map.2 ⟨_, List.getElem_mem hi, rfl⟩)) h2⟩
theorem open_count {t : TypeId} {F : Array Field} {fuel : Nat} {cs : List Value} {x : DataW H × List MemPlace} (hu : P.underlying t = some (.struct F)) (h : DataW.trod enc P w 0 sp held fuel t cs = some x) : cs.length = P.cellsOf t := by
 obtain ⟨_, _, _, _, h, _⟩ := DataW.trod_struct hu h
 exact h
theorem wf64 {n : Int} (h : (Lit.int .i64 n).wf = true) : -9223372036854775808 ≤ n ∧ n ≤ 9223372036854775807 := by simpa [Lit.wf, IntKind.min, IntKind.max, IntKind.signed, IntKind.bits] using h
theorem open_text {t : TypeId} {B fuel : Nat} {cs : List Value} {x : DataW H × List MemPlace} (hu : P.underlying t = some .string) (h : DataW.trod enc P w 0 sp held fuel t cs = some x) (hB : Rows.uptoBulk x.1 ≤ B) :
  ∃ s : ByteArray, cs = [.string s] ∧ s.size ≤ B := by
 obtain ⟨s, h1, rfl, -⟩ := DataW.trod_string hu h
 refine ⟨s, h1, ?_⟩
 rw [bulk_str, Array.length_toList] at hB
 show s.data.size ≤ B
 omega
end
instance : Inhabited Qn := ⟨⟨⟨#[]⟩, 0, 0⟩⟩
instance : Inhabited Rc := ⟨⟨⟨#[]⟩, 0, 0, 0, ⟨#[]⟩⟩⟩
instance : Inhabited Msg := ⟨⟨0, false, 0, false, false, false, false, 0, [], [], [], []⟩⟩
instance : Inhabited OpV := ⟨⟨0, 0, default, .bool false, .bool false, .bool false, .bool false, ⟨#[]⟩, 0, 0, 0, 0, 0, .bool false, []⟩⟩
theorem uStr : Tryz.prog.underlying 9 = some .string := by kernel_rfl
theorem i64T : Tryz.prog.underlying 3 = some (.int .i64) := by kernel_rfl
theorem boolT : Tryz.prog.underlying 4 = some .bool := by kernel_rfl
theorem cR : Tryz.prog.cellsOf 69 = 5 := by kernel_rfl
theorem cS : Tryz.prog.cellsOf 9 = 1 := by kernel_rfl
theorem c64 : Tryz.prog.cellsOf 3 = 1 := by kernel_rfl
theorem cB : Tryz.prog.cellsOf 4 = 1 := by kernel_rfl
section
variable {H : Type} {enc : TypeId × Value → H} {w : World} {sp : Nat → Bool} {held : Bool}
end
end Go.Proofs.YtafoepfhepdcoaaGreat
namespace Go.Proofs.YtafoepfhepdcoaaGreat
open Go.ChangeShapes Go.WideShapes Go.ChangeAt Go.RowKit Go.Trawl
theorem own2 : ownKnob Tryz.prog.godebug = none := by kernel_rfl
theorem laid2 : laidOutB Tryz.prog = true := by kernel_rfl
theorem par2 : Tryz.f9.params.toList = [45, 3, 4, 3, 46, 9] := by kernel_rfl
theorem undIs : Tryz.prog.underlying 46 = some (.slice 3) := by kernel_rfl
theorem und12 : Tryz.prog.underlying 43 = some (.array 12 3) := by kernel_rfl
theorem c12 : Tryz.prog.cellsOf 43 = 12 := by kernel_rfl
theorem cTr : Tryz.prog.cellsOf 45 = 48 := by kernel_rfl
def zeroT : Value := .agg #[.int .i64 0, .int .i64 0, .int .i64 0, .int .i64 0, .int .i64 0, .int .i64 0, .int .i64 0, .int .i64 0, .int .i64 0, .int .i64 0, .int .i64 0, .int .i64 0, .int .i64 0, .int .i64 0, .int .i64 0, .int .i64 0, .int .i64 0, .int .i64 0, .int .i64 0, .int .i64 0, .int .i64 0, .int .i64 0, .int .i64 0, .int .i64 0, .int .i64 0, .int .i64 0, .int .i64 0, .int .i64 0, .int .i64 0, .int .i64 0, .int .i64 0, .int .i64 0, .int .i64 0, .int .i64 0, .int .i64 0, .int .i64 0, .int .i64 0, .int .i64 0, .int .i64 0, .int .i64 0, .int .i64 0, .int .i64 0, .int .i64 0, .int .i64 0, .int .i64 0, .int .i64 0, .int .i64 0, .int .i64 0]
section
variable {H : Type} {enc : TypeId × Value → H} {w : World} {sp : Nat → Bool} {held : Bool}
theorem open_int (n : Nat) (cs : List Value) (d : DataW H) (p : List MemPlace) (h : DataW.trod enc Tryz.prog w 0 sp held n 3 cs = some (d, p)) (_hB : Rows.uptoBulk d ≤ 1048576) : ∃ x : Int, cs = [.int .i64 x] ∧ -9223372036854775808 ≤ x ∧ x ≤ 9223372036854775807 := by
 obtain ⟨a, e, _, hw⟩ := DataW.trod_int i64T h
 exact ⟨a, e, (wf64 hw).1, (wf64 hw).2⟩
theorem open_arr {n : Nat} {cs : List Value} {x : DataW H × List MemPlace} (h : DataW.trod enc Tryz.prog w 0 sp held n 43 cs = some x) : ∃ l : List Int, cs = l.map (fun x => Value.int .i64 x) ∧ l.length = 12 ∧ ∀ x ∈ l, -9223372036854775808 ≤ x ∧ x ≤ 9223372036854775807 := by
 obtain ⟨xs, m, _, _, hl, hx, he⟩ := DataW.trod_array und12 h
 rw [c12] at hl
 have key : ∀ i, i < 12 → ∃ a : Int, cs[i]? = some (.int .i64 a) ∧ -9223372036854775808 ≤ a ∧ a ≤ 9223372036854775807 := fun i hi => by
  have h1 := he i hi
  rw [c64, Nat.mul_one] at h1
  cases hxi : xs[i]? with
  | none => have := List.getElem?_eq_none_iff.1 hxi; omega
  | some y =>
   rw [hxi] at h1
   obtain ⟨a, e, _, hw⟩ := DataW.trod_int i64T h1
   refine ⟨a, ?_, (wf64 hw).1, (wf64 hw).2⟩
   have h2 : ((cs.drop i).take 1)[0]? = some (.int .i64 a) := by rw [e]; rfl
   rw [List.getElem?_take, if_pos (by omega), List.getElem?_drop] at h2
   exact h2
 refine ⟨(List.range 12).map fun i => intOf ((cs[i]?).getD (.int .i64 0)), ?_, by simp, fun x hx => ?_⟩
 ·refine List.ext_getElem? fun i => ?_
  rw [List.map_map, List.getElem?_map]
  by_cases hi : i < 12
  ·obtain ⟨a, ha, _, _⟩ := key i hi
   rw [List.getElem?_range hi, ha]
   simp [ha, intOf]
  ·rw [List.getElem?_eq_none (by omega), List.getElem?_eq_none (by simp; omega)]
   rfl
 ·obtain ⟨i, hi, rfl⟩ := List.mem_map.1 hx
  obtain ⟨a, ha, h0, h1⟩ := key i (List.mem_range.1 hi)
  rw [ha]
  exact ⟨h0, h1⟩
theorem open_tree {n : Nat} {cs : Array Value} {x : DataW H × List MemPlace} (h : DataW.trod enc Tryz.prog w 0 sp held n 45 cs.toList = some x) (hB : Rows.uptoBulk x.1 ≤ 1048576) : ∃ t : Tr, cs = t48 t ∧ TrOk t := by
 have hl := open_count und45 h
 rw [cTr] at hl
 obtain ⟨_, _, h0, _⟩ := open_part und45 h hB (i := 0) (off := 0) (ty := 43) (by kernel_rfl) c12
 obtain ⟨_, _, h1, _⟩ := open_part und45 h hB (i := 1) (off := 12) (ty := 43) (by kernel_rfl) c12
 obtain ⟨_, _, h2, _⟩ := open_part und45 h hB (i := 2) (off := 24) (ty := 43) (by kernel_rfl) c12
 obtain ⟨_, _, h3, _⟩ := open_part und45 h hB (i := 3) (off := 36) (ty := 43) (by kernel_rfl) c12
 obtain ⟨z, ez, lz, rz⟩ := open_arr h0
 obtain ⟨ha, eh, lh, rh⟩ := open_arr h1
 obtain ⟨f, ef, lf, rf⟩ := open_arr h2
 obtain ⟨s, es, ls, rs⟩ := open_arr h3
 refine ⟨⟨z, ha, f, s⟩, ?_, ⟨lz, lh, lf, ls, rz, rh, rf, rs⟩⟩
 refine Array.ext' ?_
 unfold t48
 simp only [List.map_append]
 rw [← ez, ← eh, ← ef, ← es, List.drop_zero]
 generalize cs.toList = L at hl
 have e1 : L = L.take 12 ++ ((L.drop 12).take 12 ++ ((L.drop 24).take 12 ++ (L.drop 36).take 12)) := by
  conv => lhs; rw [← List.take_append_drop 12 L]
  congr 1
  conv => lhs; rw [← List.take_append_drop 12 (L.drop 12), List.drop_drop]
  congr 1
  conv => lhs; rw [← List.take_append_drop 12 (L.drop 24), List.drop_drop]
  congr 1
  rw [List.take_of_length_le (by rw [List.length_drop]; omega)]
 simpa [List.append_assoc] using e1
end
theorem one_int {H : Type} {enc : TypeId × Value → H} {P : Program} {w : World} {sp : Nat → Bool} {held : Bool} {t : TypeId} {kd : IntKind} {v : Value} {d : DataW H} {p : List MemPlace} (hu : P.underlying t = some (.int kd)) (h : DataW.Trod enc P w 0 sp held t v d p) (n : Int) (hv : v = .int kd n) : (Lit.int kd n).wf = true := by
 obtain ⟨fuel, h⟩ := h
 subst hv
 obtain ⟨m, e, _, hw⟩ := DataW.trod_int hu h
 cases e
 exact hw
theorem sound_contract (H : Type) (enc : TypeId × Value → H) (W : World) (base : Nat) (args : Array Value) (ds gs : List (DataW H)) (before : List MemPlace)
  (hval : ∀ (j : Nat) t v, Tryz.f9.params[j]? = some t → args[j]? = some v → Value.okWide Tryz.prog W .any base t v)
  (hW : DataW.Whole enc Tryz.prog Tryz.f9.params.toList Rows.soundSpec.vars false W args.toList ds gs before) (hk : Rows.uptoSmall H (ds ++ gs) = true) :
  Calls Tryz.prog 9 args W fun e W' => ∃ v, e = .returned v ∧ Rows.soundSpec.post enc Tryz.prog Tryz.f9 false true false false W args v W' := by
 have hW' := hW
 obtain ⟨p, q, hA0, hV, rfl, hfz, hnd⟩ := hW
 have hA : DataW.TrodAll enc Tryz.prog W 0 (fun _ => true) true Tryz.f9.params.toList args.toList ds p := hA0
 rw [par2] at hA
 obtain ⟨v0, vs0, d0, ds0, p0, q0, hargs0, rfl, rfl, h0, r0⟩ := trodAll_cons hA
 obtain ⟨v1, vs1, d1, ds1, p1, q1, hargs1, rfl, rfl, h1, r1⟩ := trodAll_cons r0
 obtain ⟨v2, vs2, d2, ds2, p2, q2, hargs2, rfl, rfl, h2, r2⟩ := trodAll_cons r1
 obtain ⟨v3, vs3, d3, ds3, p3, q3, hargs3, rfl, rfl, h3, r3⟩ := trodAll_cons r2
 obtain ⟨v4, vs4, d4, ds4, p4, q4, hargs4, rfl, rfl, h4, r4⟩ := trodAll_cons r3
 obtain ⟨v5, vs5, d5, ds5, p5, q5, hargs5, rfl, rfl, h5, r5⟩ := trodAll_cons r4
 obtain ⟨rfl, rfl, rfl⟩ := trodAll_nil r5
 subst hargs1 hargs2 hargs3 hargs4 hargs5
 obtain rfl : args = #[v0, v1, v2, v3, v4, v5] := by cases args; simp_all
 obtain ⟨rfl, rfl⟩ := trodVars_none hV
 obtain ⟨cs, rfl, hcs⟩ := okWide_struct und45 (hval 0 45 v0 (by kernel_rfl) rfl)
 obtain ⟨at_, rfl⟩ := okWide_int i64T (hval 1 3 v1 (by kernel_rfl) rfl)
 obtain ⟨bl, rfl⟩ := okWide_bool boolT (hval 2 4 v2 (by kernel_rfl) rfl)
 obtain ⟨kd, rfl⟩ := okWide_int i64T (hval 3 3 v3 (by kernel_rfl) rfl)
 obtain ⟨a, n, c, rfl⟩ := okWide_slice undIs (hval 4 46 v4 (by kernel_rfl) rfl)
 obtain ⟨odd, rfl⟩ := okWide_string uStr (hval 5 9 v5 (by kernel_rfl) rfl)
 have w1 := wf64 (one_int i64T h1 at_ rfl)
 have w3 := wf64 (one_int i64T h3 kd rfl)
 clear hA0
 simp only [List.append_nil] at hW' hk
 have hBs : Rows.uptoBulk d0 ≤ 1048576 ∧ Rows.uptoBulk d4 ≤ 1048576 ∧ Rows.uptoBulk d5 ≤ 1048576 := by
  have h : Rows.uptoBulkAll [d0, d1, d2, d3, d4, d5] ≤ 1048576 := of_decide_eq_true hk
  simp only [Rows.uptoBulkAll] at h
  omega
 obtain ⟨t, rfl, ht⟩ : ∃ t : Tr, cs = t48 t ∧ TrOk t := by
  obtain ⟨fuel, h⟩ := h0
  exact open_tree h hBs.1
 obtain ⟨ns, l1, l2, l3⟩ : ∃ ns : List Int, Lies W 1 (.slice a n c) (ns.map fun x => [Value.int .i64 x]) ∧ (∀ x ∈ ns, -9223372036854775808 ≤ x ∧ x ≤ 9223372036854775807) ∧ ns.length ≤ 1048576 := by
  obtain ⟨fuel, h⟩ := h4
  obtain ⟨v', ns, e, q1, q2, q3⟩ := open_lies (fun x : Int => [Value.int .i64 x]) (fun x => -9223372036854775808 ≤ x ∧ x ≤ 9223372036854775807) undIs c64 (by decide) open_int h hBs.2.1
  cases e
  exact ⟨ns, q1, q2, q3⟩
 have l5 : odd.size ≤ 1048576 := by
  obtain ⟨fuel, h⟩ := h5
  obtain ⟨s, e, q1⟩ := open_text uStr h hBs.2.2
  cases e
  exact q1
 refine (sound_any W t at_ kd bl ns _ odd ht w1.1 w1.2 w3.1 w3.2 l1 l2 l3 l5).mono fun e W' ⟨he, hb⟩ => ?_
 subst he
 have hlt : ∀ x ∈ p0 ++ (p1 ++ (p2 ++ (p3 ++ (p4 ++ p5)))), x.block < W.heap.size := fun x hx => hW'.lt x hx
 refine ⟨_, rfl, [d0, d1, d2, d3, d4, d5], [], p0 ++ (p1 ++ (p2 ++ (p3 ++ (p4 ++ p5)))), [], p0 ++ (p1 ++ (p2 ++ (p3 ++ (p4 ++ p5)))), [], hW', ?_, ?_, rfl, hb.frame _, fun h => by cases h⟩
 ·show DataW.TrodAll enc Tryz.prog W' _ _ _ Tryz.f9.resultTypes.toList _ [.lit (.bool true)] []
  exact trodAll_cons_mk (shut_bool boolT _) trodAll_mk0
 ·rw [par2]
  exact trodAll_cons_mk (Below.trod laid2 (by kernel_rfl) (of_decide_eq_true (by kernel_rfl)) h0 hb (fun x hx => hlt x (by simp [hx]))) (trodAll_cons_mk (Below.trod laid2 (by kernel_rfl) (of_decide_eq_true (by kernel_rfl)) h1 hb (fun x hx => hlt x (by simp [hx]))) (trodAll_cons_mk (Below.trod laid2 (by kernel_rfl) (of_decide_eq_true (by kernel_rfl)) h2 hb (fun x hx => hlt x (by simp [hx]))) (trodAll_cons_mk (Below.trod laid2 (by kernel_rfl) (of_decide_eq_true (by kernel_rfl)) h3 hb (fun x hx => hlt x (by simp [hx]))) (trodAll_cons_mk (Below.trod laid2 (by kernel_rfl) (of_decide_eq_true (by kernel_rfl)) h4 hb (fun x hx => hlt x (by simp [hx]))) (trodAll_mk1 (Below.trod laid2 (by kernel_rfl) (of_decide_eq_true (by kernel_rfl)) h5 hb (fun x hx => hlt x (by simp [hx]))))))))
theorem sound_lifted (os : Os) (started : os.Started) (H : Type) (enc : TypeId × Value → H) (F : Stop.Interp) :
  ReturnsInHanded {} Tryz.checked os 9 .any ((Rows.OpenSpec.upto Rows.soundSpec).pre6 enc Tryz.prog Tryz.f9 Rows.soundUptoRow.domain false) (((Rows.OpenSpec.upto Rows.soundSpec).at F).post enc Tryz.prog Tryz.f9 false true false false) := by
 refine returnsInHanded_of_cond (C := Tryz.checked) (s := Rows.OpenSpec.upto Rows.soundSpec) (k := Rows.uptoSmall) rfl own2 started (by kernel_rfl) Tryz.func9
  (OpenSpec.witness (enc := enc) (C := Tryz.checked) (s := Rows.OpenSpec.upto Rows.soundSpec) (k := Rows.uptoSmall) rfl false ⟨#[], #[zeroT, .int .i64 0, .bool false, .int .i64 0, .slice none 0 0, .string ⟨#[]⟩], []⟩ 8 (by kernel_rfl) (by kernel_rfl) (by kernel_rfl)
   (x := ([.agg [.agg [.lit (.int .i64 0), .lit (.int .i64 0), .lit (.int .i64 0), .lit (.int .i64 0), .lit (.int .i64 0), .lit (.int .i64 0), .lit (.int .i64 0), .lit (.int .i64 0), .lit (.int .i64 0), .lit (.int .i64 0), .lit (.int .i64 0), .lit (.int .i64 0)], .agg [.lit (.int .i64 0), .lit (.int .i64 0), .lit (.int .i64 0), .lit (.int .i64 0), .lit (.int .i64 0), .lit (.int .i64 0), .lit (.int .i64 0), .lit (.int .i64 0), .lit (.int .i64 0), .lit (.int .i64 0), .lit (.int .i64 0), .lit (.int .i64 0)], .agg [.lit (.int .i64 0), .lit (.int .i64 0), .lit (.int .i64 0), .lit (.int .i64 0), .lit (.int .i64 0), .lit (.int .i64 0), .lit (.int .i64 0), .lit (.int .i64 0), .lit (.int .i64 0), .lit (.int .i64 0), .lit (.int .i64 0), .lit (.int .i64 0)], .agg [.lit (.int .i64 0), .lit (.int .i64 0), .lit (.int .i64 0), .lit (.int .i64 0), .lit (.int .i64 0), .lit (.int .i64 0), .lit (.int .i64 0), .lit (.int .i64 0), .lit (.int .i64 0), .lit (.int .i64 0), .lit (.int .i64 0), .lit (.int .i64 0)]], .lit (.int .i64 0), .lit (.bool false), .lit (.int .i64 0), .nil, .lit (.string [])], [], [])) (by kernel_rfl) rfl (by kernel_rfl)) ?_
 intro W base args ds gs before hval hW _ hk _
 exact sound_contract H enc W base args ds gs before hval hW hk
theorem sound_upto_holds : Rows.SoundUptoSaid :=
 OpenClaim.holds_of_cond 9 Tryz.f9 rfl rfl rfl rfl rfl rfl rfl ⟨rfl, rfl, rfl, rfl, rfl⟩ rfl rfl rfl rfl rfl (by kernel_rfl) Tryz.func9 (by kernel_rfl)
  (of_decide_eq_true (by kernel_rfl)) (by unfold Func.isWrapper; first | (rw [if_pos (by decide +kernel)]; kernel_rfl) | (rw [if_neg (by decide +kernel)]; exact ⟨rfl, rfl⟩))
  (fun os started H enc _ F => sound_lifted os started H enc F)
end Go.Proofs.YtafoepfhepdcoaaGreat
