/- example, of every Unpack. -/
import Derived.Test.YtafoepfhepdcoaaGreatExamW
import Derived.Test.YtafoepfhepdcoaaGreatUStep
namespace Go.Proofs.YtafoepfhepdcoaaGreat
open Go.RowKit Go.Trawl
attribute [local go_sem] buildQ3 buildR4 buildM1 buildM16 buildC5 buildOQ buildOR buildO16 buildOS buildOF buildO0 buildOC

set_option maxRecDepth 10000 in
set_option maxHeartbeats 4000000 in
theorem exam2 (w : World) : Calls Tryz.prog 12 #[.int .i64 2, .int .i64 2] w fun e w' => e = .returned (.bool true) ∧ Below w.heap.size w w' := by
  obtain ⟨io, io0, io1, io2, io3⟩ := info_parts oI3
  go_enter Tryz.func12, Tryz.ntmps12
  go_wp2_with fail
  generalize hW : ((((w.alloc _).alloc _).alloc _).alloc _) = W
  have hEX : EX w W := by
    subst hW
    refine ⟨((((Below.refl _ _).alloc (Nat.le_refl _) _).alloc ?_ _).alloc ?_ _).alloc ?_ _, ?_, ?_, ?_, ?_⟩
    · rw [alloc_size]; omega
    · rw [alloc_size, alloc_size]; omega
    · rw [alloc_size, alloc_size, alloc_size]; omega
    · exact heap_old (heap_old (heap_old (heap_new _ _) _) _) _
    · have := heap_new (w.alloc (.cells #[Value.string { data := #[1, 97, 0] }, Value.int IntKind.u16 1, Value.int IntKind.u16 1] 41)) (.cells #[Value.int IntKind.u16 1, Value.bool false, Value.int IntKind.i64 0, Value.bool false, Value.bool false, Value.bool false, Value.bool false, Value.int IntKind.i64 0, Value.slice (some { block := w.heap.size, off := 0 }) 1 1, Value.slice none 0 0, Value.slice none 0 0, Value.slice none 0 0] 30)
      rw [alloc_size] at this
      exact heap_old (heap_old this _) _
    · have := heap_new ((w.alloc (.cells #[Value.string { data := #[1, 97, 0] }, Value.int IntKind.u16 1, Value.int IntKind.u16 1] 41)).alloc (.cells #[Value.int IntKind.u16 1, Value.bool false, Value.int IntKind.i64 0, Value.bool false, Value.bool false, Value.bool false, Value.bool false, Value.int IntKind.i64 0, Value.slice (some { block := w.heap.size, off := 0 }) 1 1, Value.slice none 0 0, Value.slice none 0 0, Value.slice none 0 0] 30))
        (.cells #[Value.int IntKind.u16 1, Value.bool true, Value.int IntKind.i64 0, Value.bool true, Value.bool false, Value.bool false, Value.bool false, Value.int IntKind.i64 0, Value.slice (some { block := w.heap.size, off := 0 }) 1 1, Value.slice (some { block := w.heap.size + 1 + 1 + 1, off := 0 }) 1 1, Value.slice none 0 0, Value.slice none 0 0] 30)
      rw [alloc_size, alloc_size] at this
      exact heap_old this _
    · have := heap_new (((w.alloc (.cells #[Value.string { data := #[1, 97, 0] }, Value.int IntKind.u16 1, Value.int IntKind.u16 1] 41)).alloc (.cells #[Value.int IntKind.u16 1, Value.bool false, Value.int IntKind.i64 0, Value.bool false, Value.bool false, Value.bool false, Value.bool false, Value.int IntKind.i64 0, Value.slice (some { block := w.heap.size, off := 0 }) 1 1, Value.slice none 0 0, Value.slice none 0 0, Value.slice none 0 0] 30)).alloc
        (.cells #[Value.int IntKind.u16 1, Value.bool true, Value.int IntKind.i64 0, Value.bool true, Value.bool false, Value.bool false, Value.bool false, Value.int IntKind.i64 0, Value.slice (some { block := w.heap.size, off := 0 }) 1 1, Value.slice (some { block := w.heap.size + 1 + 1 + 1, off := 0 }) 1 1, Value.slice none 0 0, Value.slice none 0 0] 30))
        (.cells #[Value.string { data := #[1, 97, 0] }, Value.int IntKind.u16 1, Value.int IntKind.u16 1, Value.int IntKind.u32 0, Value.string { data := #[1, 2, 3, 4] }] 69)
      rw [alloc_size, alloc_size, alloc_size] at this
      exact this
  clear hW
  have HEX := hide hEX
  clear hEX
  refine (rpack2 mQ _ _ _ _ _ wfQ HEX.out.atQ).mono ?_
  rintro e w1 ⟨hb1, rfl⟩
  have hs := packL_length mQ
  rw [← str_size] at hs
  generalize str (packL mQ) = s at hs ⊢
  generalize packE mQ = pe
  have HEX1 := hide (HEX.out.move hb1)
  have hc1 := box_cells HEX1.out.h1
  have hc2 := box_cells HEX1.out.h2
  clear HEX hb1
  go_wp2_with fail
  refine (rpack2 mR _ _ _ _ _ wfR HEX1.out.atR).mono ?_
  rintro e w2 ⟨hb2, rfl⟩
  have ht := packL_length mR
  rw [← str_size] at ht
  generalize str (packL mR) = t at ht ⊢
  generalize packE mR = pe2
  have HEX2 := hide (HEX1.out.move hb2)
  clear hc1 hc2
  have hc1 := box_cells HEX2.out.h1
  have hc2 := box_cells HEX2.out.h2
  clear HEX1 hb2
  have hlt : w.heap.size < w2.heap.size := heap_lt HEX2.out.h0
  have hlt1 : w.heap.size + 1 < w2.heap.size := heap_lt HEX2.out.h1
  have hlt2 : w.heap.size + 1 + 1 < w2.heap.size := heap_lt HEX2.out.h2
  go_wp2_with (refine wpList_script rfl _ _ _ _ _ _ _ _ _ _ _ _ _ _ rfl (opM 1 mQ (.slice (some ⟨w.heap.size, 0, none⟩) 1 1) (.slice none 0 0) (.slice none 0 0) (.slice none 0 0)) (opM 1 mR (.slice (some ⟨w.heap.size, 0, none⟩) 1 1) (.slice (some ⟨w.heap.size + 1 + 1 + 1, 0, none⟩) 1 1) (.slice none 0 0) (.slice none 0 0)) (opM 1 m16 (.slice none 0 0) (.slice none 0 0) (.slice none 0 0) (.slice none 0 0)) (opS 2 0 t) (opS 2 0 (t ++ ⟨#[120]⟩)) (opC 9 1 1 2 (.slice (some ⟨w2.heap.size, 0, none⟩) 1 1) [7]) (opS 4 0 s) (opS 5 8 t) (opS 5 7 t) (opS 4 0 s) (opS 4 0 s) (opS 6 0 ⟨#[]⟩) (opS 6 0 ⟨#[]⟩) (opS 6 0 ⟨#[]⟩) rfl rfl rfl rfl rfl rfl rfl rfl rfl rfl rfl rfl rfl rfl ?_)
  generalize hcs : List.toArray ((opM 1 mQ _ _ _ _).cells ++ _) = cs
  have hcs2 : cs = ((exOps w.heap.size w2.heap.size s t).map OpV.cells).flatten.toArray := by
    rw [← hcs]
    simp only [exOps, List.map_cons, List.map_nil, List.flatten_cons, List.flatten_nil, List.append_nil]
  clear hcs
  have hB1 : Below w2.heap.size w2 (w2.alloc (.cells #[Value.int IntKind.u32 7] 54)) := (Below.refl _ _).alloc (Nat.le_refl _) _
  have hB2 : Below w2.heap.size w2 ((w2.alloc (.cells #[Value.int IntKind.u32 7] 54)).alloc (.cells cs 79)) := hB1.alloc (by rw [alloc_size]; omega) _
  have hR : ((w2.alloc (.cells #[Value.int IntKind.u32 7] 54)).alloc (.cells cs 79)).heap[w2.heap.size]? = some (.cells #[.int .u32 7] 54) := heap_old (heap_new _ _) _
  have hS : ((w2.alloc (.cells #[Value.int IntKind.u32 7] 54)).alloc (.cells cs 79)).heap[w2.heap.size + 1]? = some (.cells cs 79) := by
    have := heap_new (w2.alloc (.cells #[Value.int IntKind.u32 7] 54)) (.cells cs 79)
    rw [alloc_size] at this
    exact this
  generalize ((w2.alloc (.cells #[Value.int IntKind.u32 7] 54)).alloc (.cells cs 79)) = w3 at hB2 hR hS ⊢
  have HEX3 := hide (HEX2.out.move hB2)
  rw [hcs2] at hS
  refine (upTo2 w3 _ (exOps w.heap.size w2.heap.size s t) (by simp [exOps]) (lies_flat hS rfl) (exOps_at HEX3.out hR hs ht)).mono ?_
  rintro e w4 ⟨rfl, hb4⟩
  have HB4 := hide ((HEX3.out.below).trans (hb4.mono HEX3.out.below.size))
  clear hb4 hS hR hB1 hB2 hc1 hc2 hcs2
  go_wp2_with fail
  go_ret
  exact ⟨rfl, HB4.out⟩
end Go.Proofs.YtafoepfhepdcoaaGreat
