/- records: the same records, and behind them spare room; kept: they are as they were. -/
import Derived.Test.YtafoepfhepdcoaaGreatLonger
import Derived.Test.YtafoepfhepdcoaaGreatCopy
import Derived.Test.YtafoepfhepdcoaaGreatWPack
namespace Go.Proofs.YtafoepfhepdcoaaGreat
open Go.RowKit Go.Trawl
attribute [local go_sem] equalQ equalR guardQ guardR buildQ0 buildR0

def zQ : Qn := ⟨⟨#[]⟩, 0, 0⟩
def zR : Rc := ⟨⟨#[]⟩, 0, 0, 0, ⟨#[]⟩⟩
def lentR (L : List Rc) : List Rc := L ++ List.replicate 8 zR
def lentQ (L : List Qn) : List Qn := L ++ List.replicate 8 zQ
theorem qcells_ok (l : List Qn) : ∀ x ∈ l.map Qn.cells, x.length = 3 ∧ ∀ u ∈ x, u.oneCell' = true := by
  intro x hx
  obtain ⟨r, _, rfl⟩ := List.mem_map.1 hx
  refine ⟨rfl, fun u hu => ?_⟩
  simp only [Qn.cells, List.mem_cons, List.not_mem_nil, or_false] at hu
  rcases hu with rfl | rfl | rfl <;> rfl
theorem lentR_flat (L : List Rc) : (L.map Rc.cells).flatten ++ ((List.replicate (L.length + 8) zR.cells).flatten).drop ((L.map Rc.cells).length * 5) = ((lentR L).map Rc.cells).flatten := by
  have := drop_rep_flat zR.cells 8 L.length
  rw [List.length_map]
  rw [show zR.cells.length = 5 from rfl] at this
  rw [this, lentR, List.map_append, List.flatten_append, List.map_replicate]
theorem lentQ_flat (L : List Qn) : (L.map Qn.cells).flatten ++ ((List.replicate (L.length + 8) zQ.cells).flatten).drop ((L.map Qn.cells).length * 3) = ((lentQ L).map Qn.cells).flatten := by
  have := drop_rep_flat zQ.cells 8 L.length
  rw [List.length_map]
  rw [show zQ.cells.length = 3 from rfl] at this
  rw [this, lentQ, List.map_append, List.flatten_append, List.map_replicate]

def newV (g n : Nat) : Value := .slice (some ⟨g, 0, none⟩) n n

set_option maxRecDepth 10000 in
set_option maxHeartbeats 1000000 in
theorem records_any (w : World) (v : Value) (L : List Rc) (hL : L.length ≤ 2097152) (hat : Lies w 5 v (L.map Rc.cells)) :
    Calls Tryz.prog 125 #[v] w fun e w' => e = .returned (newV w.heap.size (L.length + 8)) ∧ w'.ownsRow 0 69 5 (newV w.heap.size (L.length + 8)) (L.length + 8) ((lentR L).map Rc.cells).flatten ∧ Below w.heap.size w w' := by
  obtain ⟨ic, ic0, ic1, ic2, ic3⟩ := info_parts rI
  have HAT := hide hat
  obtain ⟨av, cv, rfl, -⟩ := hat
  rw [List.length_map] at HAT
  rw [List.length_map]
  go_enter Tryz.func125, Tryz.ntmps125
  go_wp2_with (at_make; refine wpList_make_full _ rfl _ _ 28 rfl 0 69 ic _ 5 uC ic0 ic1 ic2 _ _ _ _ (L.length + 8) rfl rfl (by omega) (by omega) (by rw [ic3]; omega) (by unfold maxLen; omega) (Nat.zero_le _) ?_; intro w2 ho2 hg2; have HO2 := hide ho2; have HG2 := hide hg2; clear ho2 hg2)
  have ho2 := HO2.out
  have hm := made_flat zR.cells (by decide) (L.length + 8)
  rw [show zR.cells.length = 5 from rfl] at hm
  have e0 : (Value.agg #[Value.string { data := #[] }, Value.int IntKind.u16 0, Value.int IntKind.u16 0, Value.int IntKind.u32 0, Value.string { data := #[] }]).cells = zR.cells.toArray := rfl
  rw [e0, hm] at ho2
  have hat2 : Lies w2 5 (Value.slice av L.length cv) (List.map Rc.cells L) := HAT.out.below (below_grownBy HG2.out)
  obtain ⟨w3, hr, ho3, hg3⟩ := copy_lies (P := Tryz.prog) w2 28 28 3 69 ic 5 uC ic0 ic2 _ _ _ _ ho2 _ _ hat2 (rcells_ok L) (by rw [List.length_map]; omega)
  rw [hr]
  rw [lentR_flat] at ho3
  have HO3 := hide ho3
  have HG3 := hide hg3
  clear ho3 hg3 hr ho2 hat2 hm e0
  go_wp2_with fail
  go_ret
  refine ⟨rfl, HO3.out, ?_⟩
  have h1 := below_grownBy HG2.out
  have h3 := HG3.out
  exact h1.trans ⟨h3.os, h3.tape, h3.output, h3.size, fun k hk => h3.block k (Nat.lt_of_lt_of_le hk h1.size) (by simp; omega)⟩

theorem ret_pair {v v' : Value} {x x' : Value} (h : v = v') (h2 : x = x') : Ending.returned (.tuple #[v, x]) = .returned (.tuple #[v', x']) := by rw [h, h2]

set_option maxRecDepth 10000 in
set_option maxHeartbeats 1000000 in
theorem tpack_any (m : Msg) (vq va vu vx : Value) (w : World) (hwf : WfM m) (hat : MsgAt w m vq va vu vx) :
    Calls Tryz.prog 15 #[.agg (msgCells m vq va vu vx)] w fun e w' => Below w.heap.size w w' ∧
      (packOk m = false → e = .returned (.tuple #[.slice none 0 0, .int .i64 1])) ∧
      (packOk m = true → ∃ v, e = .returned (.tuple #[v, .int .i64 0]) ∧ w'.ownsRow w.heap.size 5 1 v (pack m).length (bytesV (pack m))) := by
  have HAT := hide hat
  have HWF := hide hwf
  clear hat hwf
  unfold msgCells
  go_enter Tryz.func15, Tryz.ntmps15
  go_wp2_with fail
  have hb1 : Below w.heap.size w (w.alloc (.cells (msgCells m vq va vu vx) 30)) := (Below.refl _ _).alloc (Nat.le_refl _) _
  refine (wirePack_any m vq va vu vx _ HWF.out (HAT.out.below hb1)).mono ?_
  rintro e w2 ⟨hb2, hno, hyes⟩
  have hb3 : Below w.heap.size w w2 := hb1.trans ⟨hb2.os, hb2.tape, hb2.output, hb2.size, fun k hk => hb2.block k (by rw [alloc_size]; omega)⟩
  have HB3 := hide hb3
  clear hb1 hb2 hb3
  by_cases hp : packOk m = true
  · obtain ⟨v, rfl, ho⟩ := hyes hp
    have HO := hide ho
    have HP := hide hp
    clear hno hyes ho hp
    go_wp2_with fail
    go_ret2
    refine ⟨HB3.out, fun h => ?_, fun _ => ⟨v, rfl, ?_⟩⟩
    · rw [HP.out] at h; cases h
    · exact own_base ⟨HO.out.1, by
        rcases HO.out.2 with h | ⟨g, cap, cur, h1, _, h3⟩
        · exact .inl h
        · exact .inr ⟨g, cap, cur, h1, Nat.zero_le _, h3⟩⟩ fun k hk => by
        have := (HO.out.lt k hk).1
        rw [alloc_size] at this; omega
  · have hp' : packOk m = false := by simpa using hp
    have he := hno hp'
    subst he
    have HP := hide hp'
    clear hno hyes hp hp'
    go_wp2_with fail
    go_ret2
    exact ⟨HB3.out, fun _ => rfl, fun h => by rw [HP.out] at h; cases h⟩
end Go.Proofs.YtafoepfhepdcoaaGreat
