/- Packs: every Pack of every script. -/
import Derived.Test.YtafoepfhepdcoaaGreatExamW
namespace Go.Proofs.YtafoepfhepdcoaaGreat
open Go.RowKit Go.Trawl

set_option maxRecDepth 10000 in
set_option maxHeartbeats 2000000 in
theorem packs_any (w : World) (v : Value) (os : List OpV) (hn : os.length ≤ 4000000) (hv : Lies w 21 v (os.map OpV.cells)) (hat : ∀ o ∈ os, OpAt w o) :
    Calls Tryz.prog 3 #[v] w fun e w' => e = .returned (.bool true) ∧ Below w.heap.size w w' := by
  have HV := hide hv
  have HAT := hide hat
  clear hv hat
  go_enter Tryz.func3, Tryz.ntmps3
  go_wp2_with fail
  refine (exam1 _).mono ?_
  rintro e w1 ⟨rfl, hb1⟩
  have HB1 := hide hb1
  clear hb1
  go_wp2_with fail
  refine (upTo1 w1 v os hn (HV.out.below HB1.out) (fun o ho => (HAT.out o ho).below HB1.out)).mono ?_
  rintro e w2 ⟨rfl, hb2⟩
  have HB2 := hide (HB1.out.trans (hb2.mono HB1.out.size))
  clear hb2
  go_wp2_with fail
  go_ret
  exact ⟨rfl, HB2.out⟩
end Go.Proofs.YtafoepfhepdcoaaGreat
