import Derived.Test.YtafoepfhepdcoaaGreatM16
/- example: the walk. -/
namespace Go.Proofs.YtafoepfhepdcoaaGreat
open Go.RowKit Go.Trawl

/-- What the example has laid out. -/
structure EX (w W : World) : Prop where
  below : Below w.heap.size w W
  h0 : W.heap[w.heap.size]? = some (.cells #[Value.string { data := #[1, 97, 0] }, Value.int IntKind.u16 1, Value.int IntKind.u16 1] 41)
  h1 : W.heap[w.heap.size + 1]? = some (.cells #[Value.int IntKind.u16 1, Value.bool false, Value.int IntKind.i64 0, Value.bool false, Value.bool false, Value.bool false, Value.bool false, Value.int IntKind.i64 0,
    Value.slice (some { block := w.heap.size, off := 0 }) 1 1, Value.slice none 0 0, Value.slice none 0 0, Value.slice none 0 0] 30)
  h2 : W.heap[w.heap.size + 1 + 1]? = some (.cells #[Value.int IntKind.u16 1, Value.bool true, Value.int IntKind.i64 0, Value.bool true, Value.bool false, Value.bool false, Value.bool false, Value.int IntKind.i64 0,
    Value.slice (some { block := w.heap.size, off := 0 }) 1 1, Value.slice (some { block := w.heap.size + 1 + 1 + 1, off := 0 }) 1 1, Value.slice none 0 0, Value.slice none 0 0] 30)
  h3 : W.heap[w.heap.size + 1 + 1 + 1]? = some (.cells #[Value.string { data := #[1, 97, 0] }, Value.int IntKind.u16 1, Value.int IntKind.u16 1, Value.int IntKind.u32 0, Value.string { data := #[1, 2, 3, 4] }] 69)
theorem EX.move {w W W' : World} (h : EX w W) (hb : Below W.heap.size W W') : EX w W' :=
  ⟨h.below.trans (hb.mono h.below.size), (hb.block _ (heap_lt h.h0)).trans h.h0, (hb.block _ (heap_lt h.h1)).trans h.h1, (hb.block _ (heap_lt h.h2)).trans h.h2, (hb.block _ (heap_lt h.h3)).trans h.h3⟩
theorem lies_nil (w : World) (sz : Nat) : Lies w sz (.slice none 0 0) [] := ⟨none, 0, rfl, fun _ => rfl, .inl rfl⟩
theorem lies_one {w : World} {sz b : Nat} {cs : Array Value} {t : TypeId} (h : w.heap[b]? = some (.cells cs t)) {l : List Value} (hl : l = cs.toList) : Lies w sz (.slice (some ⟨b, 0, none⟩) 1 1) [l] := by
  subst hl
  refine ⟨some ⟨b, 0, none⟩, 1, rfl, (fun h => by cases h), .inr ⟨b, 0, rfl, heap_lt h, fun i e hi j u hj => ?_⟩⟩
  cases i with
  | zero =>
    simp at hi
    subst hi
    rw [box_cells h]
    simpa using hj
  | succ i => simp at hi
theorem EX.atQ {w W : World} (h : EX w W) : MsgAt W mQ (.slice (some ⟨w.heap.size, 0, none⟩) 1 1) (.slice none 0 0) (.slice none 0 0) (.slice none 0 0) :=
  ⟨lies_one h.h0 rfl, lies_nil _ _, lies_nil _ _, lies_nil _ _⟩
theorem EX.atR {w W : World} (h : EX w W) : MsgAt W mR (.slice (some ⟨w.heap.size, 0, none⟩) 1 1) (.slice (some ⟨w.heap.size + 1 + 1 + 1, 0, none⟩) 1 1) (.slice none 0 0) (.slice none 0 0) :=
  ⟨lies_one h.h0 rfl, lies_one h.h3 rfl, lies_nil _ _, lies_nil _ _⟩
theorem at0 (W : World) (m : Msg) (h1 : m.qs = []) (h2 : m.an = []) (h3 : m.au = []) (h4 : m.ex = []) : MsgAt W m (.slice none 0 0) (.slice none 0 0) (.slice none 0 0) (.slice none 0 0) := by
  refine ⟨?_, ?_, ?_, ?_⟩
  · rw [h1]; exact lies_nil _ _
  · rw [h2]; exact lies_nil _ _
  · rw [h3]; exact lies_nil _ _
  · rw [h4]; exact lies_nil _ _
theorem wf0 (m : Msg) (h1 : m.qs = []) (h2 : m.an = []) (h3 : m.au = []) (h4 : m.ex = []) (i0 : 0 ≤ m.id) (i1 : m.id ≤ 65535) (o0 : 0 ≤ m.op) (o1 : m.op ≤ 100) (c0 : m.code = 0) : WfM m := by
  refine ⟨i0, i1, by omega, by omega, by omega, by omega, by rw [h1]; decide, by rw [h2]; decide, by rw [h3]; decide, by rw [h4]; decide, fun q hq => ?_, fun r hr => ?_⟩
  · rw [h1] at hq; cases hq
  · unfold recs at hr; rw [h2, h3, h4] at hr; cases hr
theorem wfQ : WfM mQ := by
  refine ⟨by decide, by decide, by decide, by decide, by decide, by decide, by decide, by decide, by decide, by decide, fun q hq => ?_, fun r hr => ?_⟩
  · simp [mQ] at hq; subst hq; exact ⟨by decide, by decide, by decide, by decide, by decide⟩
  · simp [mQ, recs] at hr
theorem wfR : WfM mR := by
  refine ⟨by decide, by decide, by decide, by decide, by decide, by decide, by decide, by decide, by decide, by decide, fun q hq => ?_, fun r hr => ?_⟩
  · simp [mR] at hq; subst hq; exact ⟨by decide, by decide, by decide, by decide, by decide⟩
  · simp [mR, recs] at hr; subst hr; exact ⟨by decide, by decide, by decide, by decide, by decide, by decide, by decide, by decide⟩
theorem opM_at {W : World} {m : Msg} {vq va vu vx : Value} (hw : WfM m) (h : MsgAt W m vq va vu vx) : OpAt W (opM 1 m vq va vu vx) := by
  unfold opM
  constructor
  case wf => exact hw
  case msg => exact h
  case r => exact lies_nil _ _
  case rs => intro x hx; cases hx
  all_goals (dsimp only; decide)
theorem zM_wf : WfM zM := wf0 _ rfl rfl rfl rfl (by decide) (by decide) (by decide) (by decide) rfl
theorem opS_at (W : World) {k f : Int} {s : ByteArray} (h0 : 0 ≤ k) (h1 : k ≤ 6) (f0 : 0 ≤ f) (f1 : f ≤ 8) (hs : s.size ≤ 2097152) : OpAt W (opS k f s) := by
  unfold opS
  constructor
  case wf => exact zM_wf
  case msg => exact at0 _ _ rfl rfl rfl rfl
  case r => exact lies_nil _ _
  case rs => intro x hx; cases hx
  case s => exact hs
  case f0 => exact f0
  all_goals (dsimp only; first | decide | omega)
theorem opC_at {W : World} {vr : Value} (h : Lies W 1 vr [[.int .u32 7]]) : OpAt W (opC 9 1 1 2 vr [7]) := by
  unfold opC
  constructor
  case wf => exact zM_wf
  case msg => exact at0 _ _ rfl rfl rfl rfl
  case r => exact h
  case rs => intro x hx; simp at hx; omega
  all_goals (dsimp only; decide)

/-- The script of the example. -/
def exOps (N R : Nat) (s t : ByteArray) : List OpV :=
  [opM 1 mQ (.slice (some ⟨N, 0, none⟩) 1 1) (.slice none 0 0) (.slice none 0 0) (.slice none 0 0),
   opM 1 mR (.slice (some ⟨N, 0, none⟩) 1 1) (.slice (some ⟨N + 1 + 1 + 1, 0, none⟩) 1 1) (.slice none 0 0) (.slice none 0 0),
   opM 1 m16 (.slice none 0 0) (.slice none 0 0) (.slice none 0 0) (.slice none 0 0),
   opS 2 0 t, opS 2 0 (t ++ ⟨#[120]⟩), opC 9 1 1 2 (.slice (some ⟨R, 0, none⟩) 1 1) [7],
   opS 4 0 s, opS 5 8 t, opS 5 7 t, opS 4 0 s, opS 4 0 s, opS 6 0 ⟨#[]⟩, opS 6 0 ⟨#[]⟩, opS 6 0 ⟨#[]⟩]
theorem exOps_at {w W : World} {R : Nat} {s t : ByteArray} (h : EX w W) (hR : W.heap[R]? = some (.cells #[.int .u32 7] 54)) (hs : s.size ≤ 512) (ht : t.size ≤ 512) : ∀ o ∈ exOps w.heap.size R s t, OpAt W o := by
  have hx : (t ++ ⟨#[120]⟩ : ByteArray).size ≤ 2097152 := by
    rw [ByteArray.size_append]
    have : (⟨#[120]⟩ : ByteArray).size = 1 := rfl
    omega
  intro o ho
  simp only [exOps, List.mem_cons, List.not_mem_nil, or_false] at ho
  rcases ho with rfl | rfl | rfl | rfl | rfl | rfl | rfl | rfl | rfl | rfl | rfl | rfl | rfl | rfl
  · exact opM_at wfQ h.atQ
  · exact opM_at wfR h.atR
  · exact opM_at (wf0 _ rfl rfl rfl rfl (by decide) (by decide) (by decide) (by decide) rfl) (at0 _ _ rfl rfl rfl rfl)
  · exact opS_at _ (by decide) (by decide) (by decide) (by decide) (by omega)
  · exact opS_at _ (by decide) (by decide) (by decide) (by decide) hx
  · exact opC_at (lies_one hR rfl)
  · exact opS_at _ (by decide) (by decide) (by decide) (by decide) (by omega)
  · exact opS_at _ (by decide) (by decide) (by decide) (by decide) (by omega)
  · exact opS_at _ (by decide) (by decide) (by decide) (by decide) (by omega)
  · exact opS_at _ (by decide) (by decide) (by decide) (by decide) (by omega)
  · exact opS_at _ (by decide) (by decide) (by decide) (by decide) (by omega)
  · exact opS_at _ (by decide) (by decide) (by decide) (by decide) (by decide)
  · exact opS_at _ (by decide) (by decide) (by decide) (by decide) (by decide)
  · exact opS_at _ (by decide) (by decide) (by decide) (by decide) (by decide)
theorem lies_flat {w : World} {b n : Nat} {os : List OpV} {t : TypeId} (h : w.heap[b]? = some (.cells ((os.map OpV.cells).flatten.toArray) t)) (hn : os.length = n) : Lies w 21 (.slice (some ⟨b, 0, none⟩) n n) (os.map OpV.cells) := by
  have hlen : ∀ x ∈ os.map OpV.cells, x.length = 21 := by intro x hx; obtain ⟨o, _, rfl⟩ := List.mem_map.1 hx; rfl
  refine ⟨some ⟨b, 0, none⟩, n, by rw [List.length_map, hn], (fun h => by cases h), .inr ⟨b, 0, rfl, heap_lt h, fun i e hi j u hj => ?_⟩⟩
  have h2 := flat_at (sz := 21) _ hlen i e j u hi hj
  rw [box_cells h, Nat.zero_add]
  simpa using h2
attribute [local go_sem] buildQ3 buildR4 buildM1 buildM16 buildC5 buildOQ buildOR buildO16 buildOS buildOF buildO0 buildOC

set_option maxRecDepth 10000 in
set_option maxHeartbeats 4000000 in
theorem exam1 (w : World) : Calls Tryz.prog 12 #[.int .i64 1, .int .i64 1] w fun e w' => e = .returned (.bool true) ∧ Below w.heap.size w w' := by
  obtain ⟨io, io0, io1, io2, io3⟩ := info_parts oI3
  go_enter Tryz.func12, Tryz.ntmps12
  go_wp2_with fail
  generalize hW : ((((w.alloc _).alloc _).alloc _).alloc _) = W
  have hEX : EX w W := by
    subst hW
    refine ⟨((((Below.refl _ _).alloc (Nat.le_refl _) _).alloc ?_ _).alloc ?_ _).alloc ?_ _, ?_, ?_, ?_, ?_⟩
    · rw [alloc_size]; omega
    · rw [alloc_size, alloc_size]; omega
    · rw [alloc_size, alloc_size, alloc_size]; omega
    · exact heap_old (heap_old (heap_old (heap_new _ _) _) _) _
    · have := heap_new (w.alloc (.cells #[Value.string { data := #[1, 97, 0] }, Value.int IntKind.u16 1, Value.int IntKind.u16 1] 41)) (.cells #[Value.int IntKind.u16 1, Value.bool false, Value.int IntKind.i64 0, Value.bool false, Value.bool false, Value.bool false, Value.bool false, Value.int IntKind.i64 0, Value.slice (some { block := w.heap.size, off := 0 }) 1 1, Value.slice none 0 0, Value.slice none 0 0, Value.slice none 0 0] 30)
      rw [alloc_size] at this
      exact heap_old (heap_old this _) _
    · have := heap_new ((w.alloc (.cells #[Value.string { data := #[1, 97, 0] }, Value.int IntKind.u16 1, Value.int IntKind.u16 1] 41)).alloc (.cells #[Value.int IntKind.u16 1, Value.bool false, Value.int IntKind.i64 0, Value.bool false, Value.bool false, Value.bool false, Value.bool false, Value.int IntKind.i64 0, Value.slice (some { block := w.heap.size, off := 0 }) 1 1, Value.slice none 0 0, Value.slice none 0 0, Value.slice none 0 0] 30))
        (.cells #[Value.int IntKind.u16 1, Value.bool true, Value.int IntKind.i64 0, Value.bool true, Value.bool false, Value.bool false, Value.bool false, Value.int IntKind.i64 0, Value.slice (some { block := w.heap.size, off := 0 }) 1 1, Value.slice (some { block := w.heap.size + 1 + 1 + 1, off := 0 }) 1 1, Value.slice none 0 0, Value.slice none 0 0] 30)
      rw [alloc_size, alloc_size] at this
      exact heap_old this _
    · have := heap_new (((w.alloc (.cells #[Value.string { data := #[1, 97, 0] }, Value.int IntKind.u16 1, Value.int IntKind.u16 1] 41)).alloc (.cells #[Value.int IntKind.u16 1, Value.bool false, Value.int IntKind.i64 0, Value.bool false, Value.bool false, Value.bool false, Value.bool false, Value.int IntKind.i64 0, Value.slice (some { block := w.heap.size, off := 0 }) 1 1, Value.slice none 0 0, Value.slice none 0 0, Value.slice none 0 0] 30)).alloc
        (.cells #[Value.int IntKind.u16 1, Value.bool true, Value.int IntKind.i64 0, Value.bool true, Value.bool false, Value.bool false, Value.bool false, Value.int IntKind.i64 0, Value.slice (some { block := w.heap.size, off := 0 }) 1 1, Value.slice (some { block := w.heap.size + 1 + 1 + 1, off := 0 }) 1 1, Value.slice none 0 0, Value.slice none 0 0] 30))
        (.cells #[Value.string { data := #[1, 97, 0] }, Value.int IntKind.u16 1, Value.int IntKind.u16 1, Value.int IntKind.u32 0, Value.string { data := #[1, 2, 3, 4] }] 69)
      rw [alloc_size, alloc_size, alloc_size] at this
      exact this
  clear hW
  have HEX := hide hEX
  clear hEX
  refine (rpack2 mQ _ _ _ _ _ wfQ HEX.out.atQ).mono ?_
  rintro e w1 ⟨hb1, rfl⟩
  have hs := packL_length mQ
  rw [← str_size] at hs
  generalize str (packL mQ) = s at hs ⊢
  generalize packE mQ = pe
  have HEX1 := hide (HEX.out.move hb1)
  have hc1 := box_cells HEX1.out.h1
  have hc2 := box_cells HEX1.out.h2
  clear HEX hb1
  go_wp2_with fail
  refine (rpack2 mR _ _ _ _ _ wfR HEX1.out.atR).mono ?_
  rintro e w2 ⟨hb2, rfl⟩
  have ht := packL_length mR
  rw [← str_size] at ht
  generalize str (packL mR) = t at ht ⊢
  generalize packE mR = pe2
  have HEX2 := hide (HEX1.out.move hb2)
  clear hc1 hc2
  have hc1 := box_cells HEX2.out.h1
  have hc2 := box_cells HEX2.out.h2
  clear HEX1 hb2
  have hlt : w.heap.size < w2.heap.size := heap_lt HEX2.out.h0
  have hlt1 : w.heap.size + 1 < w2.heap.size := heap_lt HEX2.out.h1
  have hlt2 : w.heap.size + 1 + 1 < w2.heap.size := heap_lt HEX2.out.h2
  go_wp2_with (refine wpList_script rfl _ _ _ _ _ _ _ _ _ _ _ _ _ _ rfl (opM 1 mQ (.slice (some ⟨w.heap.size, 0, none⟩) 1 1) (.slice none 0 0) (.slice none 0 0) (.slice none 0 0)) (opM 1 mR (.slice (some ⟨w.heap.size, 0, none⟩) 1 1) (.slice (some ⟨w.heap.size + 1 + 1 + 1, 0, none⟩) 1 1) (.slice none 0 0) (.slice none 0 0)) (opM 1 m16 (.slice none 0 0) (.slice none 0 0) (.slice none 0 0) (.slice none 0 0)) (opS 2 0 t) (opS 2 0 (t ++ ⟨#[120]⟩)) (opC 9 1 1 2 (.slice (some ⟨w2.heap.size, 0, none⟩) 1 1) [7]) (opS 4 0 s) (opS 5 8 t) (opS 5 7 t) (opS 4 0 s) (opS 4 0 s) (opS 6 0 ⟨#[]⟩) (opS 6 0 ⟨#[]⟩) (opS 6 0 ⟨#[]⟩) rfl rfl rfl rfl rfl rfl rfl rfl rfl rfl rfl rfl rfl rfl ?_)
  generalize hcs : List.toArray ((opM 1 mQ _ _ _ _).cells ++ _) = cs
  have hcs2 : cs = ((exOps w.heap.size w2.heap.size s t).map OpV.cells).flatten.toArray := by
    rw [← hcs]
    simp only [exOps, List.map_cons, List.map_nil, List.flatten_cons, List.flatten_nil, List.append_nil]
  clear hcs
  have hB1 : Below w2.heap.size w2 (w2.alloc (.cells #[Value.int IntKind.u32 7] 54)) := (Below.refl _ _).alloc (Nat.le_refl _) _
  have hB2 : Below w2.heap.size w2 ((w2.alloc (.cells #[Value.int IntKind.u32 7] 54)).alloc (.cells cs 79)) := hB1.alloc (by rw [alloc_size]; omega) _
  have hR : ((w2.alloc (.cells #[Value.int IntKind.u32 7] 54)).alloc (.cells cs 79)).heap[w2.heap.size]? = some (.cells #[.int .u32 7] 54) := heap_old (heap_new _ _) _
  have hS : ((w2.alloc (.cells #[Value.int IntKind.u32 7] 54)).alloc (.cells cs 79)).heap[w2.heap.size + 1]? = some (.cells cs 79) := by
    have := heap_new (w2.alloc (.cells #[Value.int IntKind.u32 7] 54)) (.cells cs 79)
    rw [alloc_size] at this
    exact this
  generalize ((w2.alloc (.cells #[Value.int IntKind.u32 7] 54)).alloc (.cells cs 79)) = w3 at hB2 hR hS ⊢
  have HEX3 := hide (HEX2.out.move hB2)
  rw [hcs2] at hS
  refine (upTo1 w3 _ (exOps w.heap.size w2.heap.size s t) (by simp [exOps]) (lies_flat hS rfl) (exOps_at HEX3.out hR hs ht)).mono ?_
  rintro e w4 ⟨rfl, hb4⟩
  have HB4 := hide ((HEX3.out.below).trans (hb4.mono HEX3.out.below.size))
  clear hb4 hS hR hB1 hB2 hc1 hc2 hcs2
  go_wp2_with fail
  go_ret
  exact ⟨rfl, HB4.out⟩
end Go.Proofs.YtafoepfhepdcoaaGreat
