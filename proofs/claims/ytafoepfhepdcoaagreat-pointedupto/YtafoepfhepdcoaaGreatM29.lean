import Derived.Test.YtafoepfhepdcoaaGreatRows
import Derived.Test.YtafoepfhepdcoaaGreatM11
import Derived.ProofKit
import Derived.Deep.Slices
import Derived.Test.YtafoepfhepdcoaaGreatM28
import Derived.OpenShut
import Derived.JoinedCond
import Derived.Carry
set_option maxRecDepth 100000
set_option maxHeartbeats 8000000
namespace Go.Proofs.YtafoepfhepdcoaaGreat
open Go.RowKit Go.Trawl Go.ChangeShapes Go.WideShapes
section
variable {H : Type} {enc : TypeId × Value → H} {P : Program} {w : World} {sp : Nat → Bool} {held : Bool}
theorem bulk_pos (d : DataW H) : 0 < Rows.uptoBulk d := by
 cases d with
 | lit l => cases l <;> simp [Rows.uptoBulk]
 | _ => simp [Rows.uptoBulk]
theorem bulk_in {d : DataW H} : ∀ {l : List (DataW H)}, d ∈ l → Rows.uptoBulk d ≤ Rows.uptoBulkAll l
 | [], h => by cases h
 | x :: r, h => by
  unfold Rows.uptoBulkAll
  rcases List.mem_cons.1 h with rfl | h
  ·exact Nat.le_add_right _ _
  ·exact Nat.le_trans (bulk_in h) (Nat.le_add_left _ _)
theorem bulk_count : ∀ l : List (DataW H), l.length ≤ Rows.uptoBulkAll l
 | [] => Nat.zero_le _
 | x :: r => by
  have h1 := bulk_count r
  have h2 := bulk_pos x
  unfold Rows.uptoBulkAll
  simp only [List.length_cons]
  omega
theorem bulk_str (l : List UInt8) : Rows.uptoBulk (DataW.lit (H := H) (.string l)) = l.length + 1 := by simp [Rows.uptoBulk]
theorem open_lies {α : Type} [Inhabited α] (cells : α → List Value) (ok : α → Prop) {t e : TypeId} {sz B : Nat} (ht : P.underlying t = some (.slice e)) (hc : P.cellsOf e = sz) (hsz : 0 < sz)
  (each : ∀ n cs d p, DataW.trod enc P w 0 sp held n e cs = some (d, p) → Rows.uptoBulk d ≤ B → ∃ x, cs = cells x ∧ ok x)
  {fuel : Nat} {cs : List Value} {x : DataW H × List MemPlace} (h : DataW.trod enc P w 0 sp held fuel t cs = some x) (hB : Rows.uptoBulk x.1 ≤ B) :
  ∃ (v : Value) (xs : List α), cs = [v] ∧ Lies w sz v (xs.map cells) ∧ (∀ y ∈ xs, ok y) ∧ xs.length ≤ B := by
 rcases DataW.trod_slice ht h with ⟨rfl, rfl⟩ | ⟨a, len, cap, elems, rest, n, rfl, rfl, rfl, hb, hl, hm, hlen, hel, -, -⟩
 ·exact ⟨_, [], rfl, ⟨none, 0, rfl, fun _ => rfl, .inl rfl⟩, (fun y hy => by cases hy), Nat.zero_le _⟩
 ·have hB2 : Rows.uptoBulkAll (elems.map (·.1)) ≤ B := by
   simp only [Rows.uptoBulk] at hB
   omega
  have hlB : len ≤ B := by
   have := bulk_count (elems.map (·.1))
   rw [List.length_map, hlen] at this
   omega
  obtain ⟨f, hf⟩ := Go.Deep.choose_lt (α := α) (p := fun i x => w.cells? 0 (a.add (i * sz)) sz = some (cells x) ∧ ok x) (n := len) (fun i hi => by
   have h1 := hel i hi
   rw [hc, List.getElem?_eq_getElem (by omega)] at h1
   obtain ⟨cs', h2, h3⟩ := Option.bind_eq_some_iff.1 h1
   obtain ⟨y, rfl, hy⟩ := each n cs' elems[i].1 elems[i].2 h3 (Nat.le_trans (bulk_in (List.mem_map.2 ⟨_, List.getElem_mem _, rfl⟩)) hB2)
   exact ⟨y, h2, hy⟩)
  refine ⟨_, (List.range len).map f, rfl, ⟨some a, cap, by simp, (fun h => by cases h), ?_⟩, fun y hy => ?_, by simpa using hlB⟩
  ·by_cases h0 : len = 0
   ·left; simp [h0]
   ·right
    obtain ⟨_, hlc, hcc⟩ := World.cells?_some (hf 0 (by omega)).1
    have h2 := hcc 0 hsz
    rw [List.getElem?_eq_getElem (by omega)] at h2
    have e0 : (a.add (0 * sz)).add 0 = a := by simp [Addr.add]
    rw [e0] at h2
    obtain ⟨b, off, spot⟩ := a
    have h3 : spot = none ∧ b < w.heap.size := by
     unfold World.cell? at h2
     dsimp only at h2
     split at h2
     ·rename_i hh
      refine ⟨?_, heap_lt hh⟩
      cases spot with
      | none => rfl
      | some _ => simp at h2
     ·cases h2
    obtain ⟨rfl, h3⟩ := h3
    refine ⟨b, off, rfl, h3, fun i e he j u hj => ?_⟩
    simp only [List.map_map, List.getElem?_map, Option.map_eq_some_iff] at he
    obtain ⟨i', hi', rfl⟩ := he
    have hi2 : i < len ∧ i' = i := by
     by_cases hi : i < len
     ·rw [List.getElem?_range hi] at hi'
      exact ⟨hi, (Option.some.inj hi').symm⟩
     ·rw [List.getElem?_eq_none (by simpa using hi)] at hi'
      cases hi'
    obtain ⟨hi, rfl⟩ := hi2
    obtain ⟨_, hlc, hcc⟩ := World.cells?_some (hf i' hi).1
    have hj2 : j < sz := by
     rw [← hlc]
     exact (List.getElem?_eq_some_iff.1 hj).1
    have h4 := hcc j hj2
    have e1 : ((⟨b, off, none⟩ : Addr).add (i' * sz)).add j = ⟨b, off + i' * sz + j, none⟩ := by
     unfold Addr.add
     by_cases q1 : i' * sz = 0 <;> by_cases q2 : j = 0 <;> simp [q1, q2, Nat.add_assoc]
    rw [e1] at h4
    rw [h4]
    exact hj
  ·obtain ⟨i, hi, rfl⟩ := List.mem_map.1 hy
   exact (hf i (List.mem_range.1 hi)).2
theorem open_text {t : TypeId} {B fuel : Nat} {cs : List Value} {x : DataW H × List MemPlace} (hu : P.underlying t = some .string) (h : DataW.trod enc P w 0 sp held fuel t cs = some x) (hB : Rows.uptoBulk x.1 ≤ B) :
  ∃ s : ByteArray, cs = [.string s] ∧ s.size ≤ B := by
 obtain ⟨s, h1, rfl, -⟩ := DataW.trod_string hu h
 refine ⟨s, h1, ?_⟩
 rw [bulk_str, Array.length_toList] at hB
 show s.data.size ≤ B
 omega
end
instance : Inhabited Qn := ⟨⟨⟨#[]⟩, 0, 0⟩⟩
instance : Inhabited Rc := ⟨⟨⟨#[]⟩, 0, 0, 0, ⟨#[]⟩⟩⟩
instance : Inhabited Msg := ⟨⟨0, false, 0, false, false, false, false, 0, [], [], [], []⟩⟩
instance : Inhabited OpV := ⟨⟨0, 0, default, .bool false, .bool false, .bool false, .bool false, ⟨#[]⟩, 0, 0, 0, 0, 0, .bool false, []⟩⟩
theorem uStr : Tryz.prog.underlying 9 = some .string := by kernel_rfl
theorem boolT : Tryz.prog.underlying 4 = some .bool := by kernel_rfl
theorem cR : Tryz.prog.cellsOf 69 = 5 := by kernel_rfl
theorem cS : Tryz.prog.cellsOf 9 = 1 := by kernel_rfl
theorem cB : Tryz.prog.cellsOf 4 = 1 := by kernel_rfl
section
variable {H : Type} {enc : TypeId × Value → H} {w : World} {sp : Nat → Bool} {held : Bool}
end
end Go.Proofs.YtafoepfhepdcoaaGreat
namespace Go.Proofs.YtafoepfhepdcoaaGreat
open Go.ChangeShapes Go.WideShapes Go.ChangeAt Go.RowKit Go.Trawl
theorem own2 : ownKnob Tryz.prog.godebug = none := by kernel_rfl
theorem laid2 : laidOutB Tryz.prog = true := by kernel_rfl
theorem par2 : Tryz.f8.params.toList = [39] := by kernel_rfl
theorem pointed_contract (H : Type) (enc : TypeId × Value → H) (W : World) (base : Nat) (args : Array Value) (ds gs : List (DataW H)) (before : List MemPlace)
  (hval : ∀ (j : Nat) t v, Tryz.f8.params[j]? = some t → args[j]? = some v → Value.okWide Tryz.prog W .any base t v)
  (hW : DataW.Whole enc Tryz.prog Tryz.f8.params.toList Rows.pointedSpec.vars false W args.toList ds gs before) (hk : Rows.uptoSmall H (ds ++ gs) = true) :
  Calls Tryz.prog 8 args W fun e W' => ∃ v, e = .returned v ∧ Rows.pointedSpec.post enc Tryz.prog Tryz.f8 false true false false W args v W' := by
 have hW' := hW
 obtain ⟨p, q, hA0, hV, rfl, hfz, hnd⟩ := hW
 have hA : DataW.TrodAll enc Tryz.prog W 0 (fun _ => true) true Tryz.f8.params.toList args.toList ds p := hA0
 rw [par2] at hA
 obtain ⟨v0, vs0, d0, ds0, p0, q0, hargs, rfl, rfl, h0, r0⟩ := trodAll_cons hA
 obtain ⟨rfl, rfl, rfl⟩ := trodAll_nil r0
 obtain rfl : args = #[v0] := by cases args; simp_all
 obtain ⟨rfl, rfl⟩ := trodVars_none hV
 obtain ⟨a, n, c, rfl⟩ := okWide_slice uSs (hval 0 39 v0 (by kernel_rfl) rfl)
 clear hA0
 simp only [List.append_nil] at hW' hk
 have hB : Rows.uptoBulk d0 ≤ 1048576 := by
  have h : Rows.uptoBulkAll [d0] ≤ 1048576 := of_decide_eq_true hk
  simp only [Rows.uptoBulkAll] at h
  omega
 obtain ⟨ls, l1, l2, l3⟩ : ∃ ls : List ByteArray, Lies W 1 (.slice a n c) (textsV ls) ∧ (∀ s ∈ ls, s.size ≤ 1048576) ∧ ls.length ≤ 1048576 := by
  obtain ⟨fuel, h⟩ := h0
  obtain ⟨v', ls, e, h1, h2, h3⟩ := open_lies (fun x : ByteArray => [Value.string x]) (fun s => s.size ≤ 1048576) uSs cS (by decide) (fun _ _ _ _ h hB => open_text uStr h hB) h hB
  cases e
  exact ⟨ls, h1, h2, h3⟩
 refine (pointed_any W _ ls l1 (by omega) (fun s hs => by have := l2 s hs; omega)).mono fun e W' ⟨he, hb⟩ => ?_
 subst he
 have hlt : ∀ x ∈ p0, x.block < W.heap.size := fun x hx => hW'.lt x hx
 refine ⟨_, rfl, [d0], [], p0, [], p0, [], hW', ?_, ?_, rfl, hb.frame _, fun h => by cases h⟩
 ·show DataW.TrodAll enc Tryz.prog W' _ _ _ Tryz.f8.resultTypes.toList _ [.lit (.bool true)] []
  exact trodAll_cons_mk (shut_bool boolT _) trodAll_mk0
 ·rw [par2]
  show DataW.TrodAll enc Tryz.prog W' _ _ _ [39] [.slice a n c] [d0] p0
  exact trodAll_mk1 (Below.trod laid2 (by kernel_rfl) (of_decide_eq_true (by kernel_rfl)) h0 hb hlt)
theorem pointed_lifted (os : Os) (started : os.Started) (H : Type) (enc : TypeId × Value → H) (F : Stop.Interp) :
  ReturnsInHanded {} Tryz.checked os 8 .any ((Rows.OpenSpec.upto Rows.pointedSpec).pre6 enc Tryz.prog Tryz.f8 Rows.pointedUptoRow.domain false) (((Rows.OpenSpec.upto Rows.pointedSpec).at F).post enc Tryz.prog Tryz.f8 false true false false) := by
 refine returnsInHanded_of_cond (C := Tryz.checked) (s := Rows.OpenSpec.upto Rows.pointedSpec) (k := Rows.uptoSmall) rfl own2 started (by kernel_rfl) Tryz.func8
  (OpenSpec.witness (enc := enc) (C := Tryz.checked) (s := Rows.OpenSpec.upto Rows.pointedSpec) (k := Rows.uptoSmall) rfl false ⟨#[], #[.slice none 0 0], []⟩ 8 (by kernel_rfl) (by kernel_rfl) (by kernel_rfl)
   (x := ([.nil], [], [])) (by kernel_rfl) rfl (by kernel_rfl)) ?_
 intro W base args ds gs before hval hW _ hk _
 exact pointed_contract H enc W base args ds gs before hval hW hk
theorem pointed_upto_holds : Rows.PointedUptoSaid :=
 OpenClaim.holds_of_cond 8 Tryz.f8 rfl rfl rfl rfl rfl rfl rfl ⟨rfl, rfl, rfl, rfl, rfl⟩ rfl rfl rfl rfl rfl (by kernel_rfl) Tryz.func8 (by kernel_rfl)
  (of_decide_eq_true (by kernel_rfl)) (by unfold Func.isWrapper; first | (rw [if_pos (by decide +kernel)]; kernel_rfl) | (rw [if_neg (by decide +kernel)]; exact ⟨rfl, rfl⟩))
  (fun os started H enc _ F => pointed_lifted os started H enc F)
end Go.Proofs.YtafoepfhepdcoaaGreat
