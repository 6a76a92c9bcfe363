import Derived.Test.YtafoepfhepdcoaaGreatRows
import Derived.Test.YtafoepfhepdcoaaGreatM11
import Derived.ProofKit
import Derived.Deep.Slices
import Derived.Test.YtafoepfhepdcoaaGreatM28
import Derived.OpenShut
import Derived.JoinedCond
import Derived.Carry
set_option maxRecDepth 100000
set_option maxHeartbeats 8000000
namespace Go.Proofs.YtafoepfhepdcoaaGreat
open Go.RowKit Go.Trawl Go.ChangeShapes Go.WideShapes
section
variable {H : Type} {enc : TypeId × Value → H} {P : Program} {w : World} {sp : Nat → Bool} {held : Bool}
theorem bulk_pos (d : DataW H) : 0 < Rows.uptoBulk d := by
 cases d with
 | lit l => cases l <;> simp [Rows.uptoBulk]
 | _ => simp [Rows.uptoBulk]
theorem bulk_in {d : DataW H} : ∀ {l : List (DataW H)}, d ∈ l → Rows.uptoBulk d ≤ Rows.uptoBulkAll l
 | [], h => by cases h
 | x :: r, h => by
  unfold Rows.uptoBulkAll
  rcases List.mem_cons.1 h with rfl | h
  ·exact Nat.le_add_right _ _
  ·exact Nat.le_trans (bulk_in h) (Nat.le_add_left _ _)
theorem bulk_count : ∀ l : List (DataW H), l.length ≤ Rows.uptoBulkAll l
 | [] => Nat.zero_le _
 | x :: r => by
  have h1 := bulk_count r
  have h2 := bulk_pos x
  unfold Rows.uptoBulkAll
  simp only [List.length_cons]
  omega
theorem bulk_str (l : List UInt8) : Rows.uptoBulk (DataW.lit (H := H) (.string l)) = l.length + 1 := by simp [Rows.uptoBulk]
theorem open_lies {α : Type} [Inhabited α] (cells : α → List Value) (ok : α → Prop) {t e : TypeId} {sz B : Nat} (ht : P.underlying t = some (.slice e)) (hc : P.cellsOf e = sz) (hsz : 0 < sz)
  (each : ∀ n cs d p, DataW.trod enc P w 0 sp held n e cs = some (d, p) → Rows.uptoBulk d ≤ B → ∃ x, cs = cells x ∧ ok x)
  {fuel : Nat} {cs : List Value} {x : DataW H × List MemPlace} (h : DataW.trod enc P w 0 sp held fuel t cs = some x) (hB : Rows.uptoBulk x.1 ≤ B) :
  ∃ (v : Value) (xs : List α), cs = [v] ∧ Lies w sz v (xs.map cells) ∧ (∀ y ∈ xs, ok y) ∧ xs.length ≤ B := by
 rcases DataW.trod_slice ht h with ⟨rfl, rfl⟩ | ⟨a, len, cap, elems, rest, n, rfl, rfl, rfl, hb, hl, hm, hlen, hel, -, -⟩
 ·exact ⟨_, [], rfl, ⟨none, 0, rfl, fun _ => rfl, .inl rfl⟩, (fun y hy => by cases hy), Nat.zero_le _⟩
 ·have hB2 : Rows.uptoBulkAll (elems.map (·.1)) ≤ B := by
   simp only [Rows.uptoBulk] at hB
   omega
  have hlB : len ≤ B := by
   have := bulk_count (elems.map (·.1))
   rw [List.length_map, hlen] at this
   omega
  obtain ⟨f, hf⟩ := Go.Deep.choose_lt (α := α) (p := fun i x => w.cells? 0 (a.add (i * sz)) sz = some (cells x) ∧ ok x) (n := len) (fun i hi => by
   have h1 := hel i hi
   rw [hc, List.getElem?_eq_getElem (by omega)] at h1
   obtain ⟨cs', h2, h3⟩ := Option.bind_eq_some_iff.1 h1
   obtain ⟨y, rfl, hy⟩ := each n cs' elems[i].1 elems[i].2 h3 (Nat.le_trans (bulk_in (List.mem_map.2 ⟨_, List.getElem_mem _, rfl⟩)) hB2)
   exact ⟨y, h2, hy⟩)
  refine ⟨_, (List.range len).map f, rfl, ⟨some a, cap, by simp, (fun h => by cases h), ?_⟩, fun y hy => ?_, by simpa using hlB⟩
  ·by_cases h0 : len = 0
   ·left; simp [h0]
   ·right
    obtain ⟨_, hlc, hcc⟩ := World.cells?_some (hf 0 (by omega)).1
    have h2 := hcc 0 hsz
    rw [List.getElem?_eq_getElem (by omega)] at h2
    have e0 : (a.add (0 * sz)).add 0 = a := by simp [Addr.add]
    rw [e0] at h2
    obtain ⟨b, off, spot⟩ := a
    have h3 : spot = none ∧ b < w.heap.size := by
     unfold World.cell? at h2
     dsimp only at h2
     split at h2
     ·rename_i hh
      refine ⟨?_, heap_lt hh⟩
      cases spot with
      | none => rfl
      | some _ => simp at h2
     ·cases h2
    obtain ⟨rfl, h3⟩ := h3
    refine ⟨b, off, rfl, h3, fun i e he j u hj => ?_⟩
    simp only [List.map_map, List.getElem?_map, Option.map_eq_some_iff] at he
    obtain ⟨i', hi', rfl⟩ := he
    have hi2 : i < len ∧ i' = i := by
     by_cases hi : i < len
     ·rw [List.getElem?_range hi] at hi'
      exact ⟨hi, (Option.some.inj hi').symm⟩
     ·rw [List.getElem?_eq_none (by simpa using hi)] at hi'
      cases hi'
    obtain ⟨hi, rfl⟩ := hi2
    obtain ⟨_, hlc, hcc⟩ := World.cells?_some (hf i' hi).1
    have hj2 : j < sz := by
     rw [← hlc]
     exact (List.getElem?_eq_some_iff.1 hj).1
    have h4 := hcc j hj2
    have e1 : ((⟨b, off, none⟩ : Addr).add (i' * sz)).add j = ⟨b, off + i' * sz + j, none⟩ := by
     unfold Addr.add
     by_cases q1 : i' * sz = 0 <;> by_cases q2 : j = 0 <;> simp [q1, q2, Nat.add_assoc]
    rw [e1] at h4
    rw [h4]
    exact hj
  ·obtain ⟨i, hi, rfl⟩ := List.mem_map.1 hy
   exact (hf i (List.mem_range.1 hi)).2
theorem open_part {t : TypeId} {F : Array Field} {B fuel : Nat} {cs : List Value} {x : DataW H × List MemPlace} (hu : P.underlying t = some (.struct F)) (h : DataW.trod enc P w 0 sp held fuel t cs = some x) (hB : Rows.uptoBulk x.1 ≤ B)
  {i off k : Nat} {ty : TypeId} (hf : F[i]?.map (fun f => (f.type, f.offset)) = some (ty, off)) (hk : P.cellsOf ty = k) :
  ∃ n y, DataW.trod enc P w 0 sp held n ty ((cs.drop off).take k) = some y ∧ Rows.uptoBulk y.1 ≤ B := by
 obtain ⟨xs, n, rfl, rfl, hcl, hxl, hx⟩ := DataW.trod_struct hu h
 cases hF : F[i]? with
 | none => simp [hF] at hf
 | some f =>
  have h1 := hx i f hF
  have hi : i < xs.length := by
   rw [hxl]
   exact (Array.getElem?_eq_some_iff.1 hF).1
  rw [List.getElem?_eq_getElem hi] at h1
  rw [hF] at hf
  simp only [Option.map_some, Option.some.injEq, Prod.mk.injEq] at hf
  obtain ⟨rfl, rfl⟩ := hf
  rw [hk] at h1
  have h2 : Rows.uptoBulkAll (xs.map (·.1)) ≤ B := by
   simp only [Rows.uptoBulk] at hB
   omega
  exact ⟨n, _, h1, Nat.le_trans (bulk_in (List.mem_map.2 ⟨_, List.getElem_mem hi, rfl⟩)) h2⟩
theorem open_count {t : TypeId} {F : Array Field} {fuel : Nat} {cs : List Value} {x : DataW H × List MemPlace} (hu : P.underlying t = some (.struct F)) (h : DataW.trod enc P w 0 sp held fuel t cs = some x) : cs.length = P.cellsOf t := by
 obtain ⟨_, _, _, _, h, _⟩ := DataW.trod_struct hu h
 exact h
theorem wf16 {n : Int} (h : (Lit.int .u16 n).wf = true) : 0 ≤ n ∧ n ≤ 65535 := by simpa [Lit.wf, IntKind.min, IntKind.max, IntKind.signed, IntKind.bits] using h
theorem wf64 {n : Int} (h : (Lit.int .i64 n).wf = true) : -9223372036854775808 ≤ n ∧ n ≤ 9223372036854775807 := by simpa [Lit.wf, IntKind.min, IntKind.max, IntKind.signed, IntKind.bits] using h
theorem open_text {t : TypeId} {B fuel : Nat} {cs : List Value} {x : DataW H × List MemPlace} (hu : P.underlying t = some .string) (h : DataW.trod enc P w 0 sp held fuel t cs = some x) (hB : Rows.uptoBulk x.1 ≤ B) :
  ∃ s : ByteArray, cs = [.string s] ∧ s.size ≤ B := by
 obtain ⟨s, h1, rfl, -⟩ := DataW.trod_string hu h
 refine ⟨s, h1, ?_⟩
 rw [bulk_str, Array.length_toList] at hB
 show s.data.size ≤ B
 omega
end
instance : Inhabited Qn := ⟨⟨⟨#[]⟩, 0, 0⟩⟩
instance : Inhabited Rc := ⟨⟨⟨#[]⟩, 0, 0, 0, ⟨#[]⟩⟩⟩
instance : Inhabited Msg := ⟨⟨0, false, 0, false, false, false, false, 0, [], [], [], []⟩⟩
instance : Inhabited OpV := ⟨⟨0, 0, default, .bool false, .bool false, .bool false, .bool false, ⟨#[]⟩, 0, 0, 0, 0, 0, .bool false, []⟩⟩
theorem uStr : Tryz.prog.underlying 9 = some .string := by kernel_rfl
theorem u16T : Tryz.prog.underlying 26 = some (.int .u16) := by kernel_rfl
theorem i64T : Tryz.prog.underlying 3 = some (.int .i64) := by kernel_rfl
theorem boolT : Tryz.prog.underlying 4 = some .bool := by kernel_rfl
theorem cR : Tryz.prog.cellsOf 69 = 5 := by kernel_rfl
theorem cS : Tryz.prog.cellsOf 9 = 1 := by kernel_rfl
theorem c64 : Tryz.prog.cellsOf 3 = 1 := by kernel_rfl
theorem cB : Tryz.prog.cellsOf 4 = 1 := by kernel_rfl
section
variable {H : Type} {enc : TypeId × Value → H} {w : World} {sp : Nat → Bool} {held : Bool}
end
end Go.Proofs.YtafoepfhepdcoaaGreat
namespace Go.Proofs.YtafoepfhepdcoaaGreat
open Go.ChangeShapes Go.WideShapes Go.ChangeAt Go.RowKit Go.Trawl
theorem own2 : ownKnob Tryz.prog.godebug = none := by kernel_rfl
theorem laid2 : laidOutB Tryz.prog = true := by kernel_rfl
theorem par2 : Tryz.f10.params.toList = [3, 3, 3, 3, 71, 26] := by kernel_rfl
theorem undSs : Tryz.prog.underlying 71 = some (.slice 74) := by kernel_rfl
theorem undSd : Tryz.prog.underlying 74 = some (.struct (Tryz.prog.fieldsOf 74)) := by kernel_rfl
theorem cSd : Tryz.prog.cellsOf 74 = 4 := by kernel_rfl
instance : Inhabited SaidV := ⟨⟨0, 0, 0, ⟨#[]⟩⟩⟩
section
variable {H : Type} {enc : TypeId × Value → H} {w : World} {sp : Nat → Bool} {held : Bool}
theorem open_said (n : Nat) (cs : List Value) (d : DataW H) (p : List MemPlace) (h : DataW.trod enc Tryz.prog w 0 sp held n 74 cs = some (d, p)) (hB : Rows.uptoBulk d ≤ 1048576) : ∃ x : SaidV, cs = x.cells ∧ SaidOk x := by
 have hl := open_count undSd h
 rw [cSd] at hl
 match cs, hl with
 | [c0, c1, c2, c3], _ =>
  obtain ⟨_, _, h0, _⟩ := open_part undSd h hB (i := 0) (off := 0) (ty := 3) (by kernel_rfl) c64
  obtain ⟨_, _, h1, _⟩ := open_part undSd h hB (i := 1) (off := 1) (ty := 3) (by kernel_rfl) c64
  obtain ⟨_, _, h2, _⟩ := open_part undSd h hB (i := 2) (off := 2) (ty := 3) (by kernel_rfl) c64
  obtain ⟨_, _, h3, b3⟩ := open_part undSd h hB (i := 3) (off := 3) (ty := 9) (by kernel_rfl) cS
  obtain ⟨a, e0, _, w0⟩ := DataW.trod_int i64T h0
  obtain ⟨u, e1, _, w1⟩ := DataW.trod_int i64T h1
  obtain ⟨x, e2, _, w2⟩ := DataW.trod_int i64T h2
  obtain ⟨s, e3, hs⟩ := open_text uStr h3 b3
  have w0 := wf64 w0
  have w1 := wf64 w1
  have w2 := wf64 w2
  cases e0; cases e1; cases e2; cases e3
  exact ⟨⟨a, u, x, s⟩, rfl, ⟨w0.1, w0.2, w1.1, w1.2, w2.1, w2.2, hs⟩⟩
end
theorem one_int {H : Type} {enc : TypeId × Value → H} {P : Program} {w : World} {sp : Nat → Bool} {held : Bool} {t : TypeId} {kd : IntKind} {v : Value} {d : DataW H} {p : List MemPlace} (hu : P.underlying t = some (.int kd)) (h : DataW.Trod enc P w 0 sp held t v d p) (n : Int) (hv : v = .int kd n) : (Lit.int kd n).wf = true := by
 obtain ⟨fuel, h⟩ := h
 subst hv
 obtain ⟨m, e, _, hw⟩ := DataW.trod_int hu h
 cases e
 exact hw
theorem bounded_contract (H : Type) (enc : TypeId × Value → H) (W : World) (base : Nat) (args : Array Value) (ds gs : List (DataW H)) (before : List MemPlace)
  (hval : ∀ (j : Nat) t v, Tryz.f10.params[j]? = some t → args[j]? = some v → Value.okWide Tryz.prog W .any base t v)
  (hW : DataW.Whole enc Tryz.prog Tryz.f10.params.toList Rows.boundedSpec.vars false W args.toList ds gs before) (hk : Rows.uptoSmall H (ds ++ gs) = true) :
  Calls Tryz.prog 10 args W fun e W' => ∃ v, e = .returned v ∧ Rows.boundedSpec.post enc Tryz.prog Tryz.f10 false true false false W args v W' := by
 have hW' := hW
 obtain ⟨p, q, hA0, hV, rfl, hfz, hnd⟩ := hW
 have hA : DataW.TrodAll enc Tryz.prog W 0 (fun _ => true) true Tryz.f10.params.toList args.toList ds p := hA0
 rw [par2] at hA
 obtain ⟨v0, vs0, d0, ds0, p0, q0, hargs0, rfl, rfl, h0, r0⟩ := trodAll_cons hA
 obtain ⟨v1, vs1, d1, ds1, p1, q1, hargs1, rfl, rfl, h1, r1⟩ := trodAll_cons r0
 obtain ⟨v2, vs2, d2, ds2, p2, q2, hargs2, rfl, rfl, h2, r2⟩ := trodAll_cons r1
 obtain ⟨v3, vs3, d3, ds3, p3, q3, hargs3, rfl, rfl, h3, r3⟩ := trodAll_cons r2
 obtain ⟨v4, vs4, d4, ds4, p4, q4, hargs4, rfl, rfl, h4, r4⟩ := trodAll_cons r3
 obtain ⟨v5, vs5, d5, ds5, p5, q5, hargs5, rfl, rfl, h5, r5⟩ := trodAll_cons r4
 obtain ⟨rfl, rfl, rfl⟩ := trodAll_nil r5
 subst hargs1 hargs2 hargs3 hargs4 hargs5
 obtain rfl : args = #[v0, v1, v2, v3, v4, v5] := by cases args; simp_all
 obtain ⟨rfl, rfl⟩ := trodVars_none hV
 obtain ⟨bu, rfl⟩ := okWide_int i64T (hval 0 3 v0 (by kernel_rfl) rfl)
 obtain ⟨de, rfl⟩ := okWide_int i64T (hval 1 3 v1 (by kernel_rfl) rfl)
 obtain ⟨ch, rfl⟩ := okWide_int i64T (hval 2 3 v2 (by kernel_rfl) rfl)
 obtain ⟨tr, rfl⟩ := okWide_int i64T (hval 3 3 v3 (by kernel_rfl) rfl)
 obtain ⟨a, n, c, rfl⟩ := okWide_slice undSs (hval 4 71 v4 (by kernel_rfl) rfl)
 obtain ⟨id, rfl⟩ := okWide_int u16T (hval 5 26 v5 (by kernel_rfl) rfl)
 have w0 := wf64 (one_int i64T h0 bu rfl)
 have w1 := wf64 (one_int i64T h1 de rfl)
 have w2 := wf64 (one_int i64T h2 ch rfl)
 have w3 := wf64 (one_int i64T h3 tr rfl)
 have w5 := wf16 (one_int u16T h5 id rfl)
 clear hA0
 simp only [List.append_nil] at hW' hk
 have hB : Rows.uptoBulk d4 ≤ 1048576 := by
  have h : Rows.uptoBulkAll [d0, d1, d2, d3, d4, d5] ≤ 1048576 := of_decide_eq_true hk
  simp only [Rows.uptoBulkAll] at h
  omega
 obtain ⟨hd, l1, l2, l3⟩ : ∃ hd : List SaidV, Lies W 4 (.slice a n c) (hd.map SaidV.cells) ∧ (∀ x ∈ hd, SaidOk x) ∧ hd.length ≤ 1048576 := by
  obtain ⟨fuel, h⟩ := h4
  obtain ⟨v', hd, e, h1, h2, h3⟩ := open_lies SaidV.cells SaidOk undSs cSd (by decide) open_said h hB
  cases e
  exact ⟨hd, h1, h2, h3⟩
 refine (bounded_any W bu de ch tr id _ hd w0.1 w0.2 w1.1 w1.2 w2.1 w2.2 w3.1 w3.2 w5.1 w5.2 l1 l3 l2).mono fun e W' ⟨he, hb⟩ => ?_
 subst he
 have hlt : ∀ x ∈ p0 ++ (p1 ++ (p2 ++ (p3 ++ (p4 ++ p5)))), x.block < W.heap.size := fun x hx => hW'.lt x hx
 refine ⟨_, rfl, [d0, d1, d2, d3, d4, d5], [], p0 ++ (p1 ++ (p2 ++ (p3 ++ (p4 ++ p5)))), [], p0 ++ (p1 ++ (p2 ++ (p3 ++ (p4 ++ p5)))), [], hW', ?_, ?_, rfl, hb.frame _, fun h => by cases h⟩
 ·show DataW.TrodAll enc Tryz.prog W' _ _ _ Tryz.f10.resultTypes.toList _ [.lit (.bool true)] []
  exact trodAll_cons_mk (shut_bool boolT _) trodAll_mk0
 ·rw [par2]
  exact trodAll_cons_mk (Below.trod laid2 (by kernel_rfl) (of_decide_eq_true (by kernel_rfl)) h0 hb (fun x hx => hlt x (by simp [hx]))) (trodAll_cons_mk (Below.trod laid2 (by kernel_rfl) (of_decide_eq_true (by kernel_rfl)) h1 hb (fun x hx => hlt x (by simp [hx]))) (trodAll_cons_mk (Below.trod laid2 (by kernel_rfl) (of_decide_eq_true (by kernel_rfl)) h2 hb (fun x hx => hlt x (by simp [hx]))) (trodAll_cons_mk (Below.trod laid2 (by kernel_rfl) (of_decide_eq_true (by kernel_rfl)) h3 hb (fun x hx => hlt x (by simp [hx]))) (trodAll_cons_mk (Below.trod laid2 (by kernel_rfl) (of_decide_eq_true (by kernel_rfl)) h4 hb (fun x hx => hlt x (by simp [hx]))) (trodAll_mk1 (Below.trod laid2 (by kernel_rfl) (of_decide_eq_true (by kernel_rfl)) h5 hb (fun x hx => hlt x (by simp [hx]))))))))
theorem bounded_lifted (os : Os) (started : os.Started) (H : Type) (enc : TypeId × Value → H) (F : Stop.Interp) :
  ReturnsInHanded {} Tryz.checked os 10 .any ((Rows.OpenSpec.upto Rows.boundedSpec).pre6 enc Tryz.prog Tryz.f10 Rows.boundedUptoRow.domain false) (((Rows.OpenSpec.upto Rows.boundedSpec).at F).post enc Tryz.prog Tryz.f10 false true false false) := by
 refine returnsInHanded_of_cond (C := Tryz.checked) (s := Rows.OpenSpec.upto Rows.boundedSpec) (k := Rows.uptoSmall) rfl own2 started (by kernel_rfl) Tryz.func10
  (OpenSpec.witness (enc := enc) (C := Tryz.checked) (s := Rows.OpenSpec.upto Rows.boundedSpec) (k := Rows.uptoSmall) rfl false ⟨#[], #[.int .i64 0, .int .i64 0, .int .i64 0, .int .i64 0, .slice none 0 0, .int .u16 0], []⟩ 8 (by kernel_rfl) (by kernel_rfl) (by kernel_rfl)
   (x := ([.lit (.int .i64 0), .lit (.int .i64 0), .lit (.int .i64 0), .lit (.int .i64 0), .nil, .lit (.int .u16 0)], [], [])) (by kernel_rfl) rfl (by kernel_rfl)) ?_
 intro W base args ds gs before hval hW _ hk _
 exact bounded_contract H enc W base args ds gs before hval hW hk
theorem bounded_upto_holds : Rows.BoundedUptoSaid :=
 OpenClaim.holds_of_cond 10 Tryz.f10 rfl rfl rfl rfl rfl rfl rfl ⟨rfl, rfl, rfl, rfl, rfl⟩ rfl rfl rfl rfl rfl (by kernel_rfl) Tryz.func10 (by kernel_rfl)
  (of_decide_eq_true (by kernel_rfl)) (by unfold Func.isWrapper; first | (rw [if_pos (by decide +kernel)]; kernel_rfl) | (rw [if_neg (by decide +kernel)]; exact ⟨rfl, rfl⟩))
  (fun os started H enc _ F => bounded_lifted os started H enc F)
end Go.Proofs.YtafoepfhepdcoaaGreat
