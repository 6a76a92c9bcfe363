/- The reference's lists of records. -/
import Derived.Test.YtafoepfhepdcoaaGreatUInR
namespace Go.Proofs.YtafoepfhepdcoaaGreat
open Go.RowKit Go.Trawl

/-- So many records have been read. -/
structure IL (w wr : World) (r : Nat) (s : ByteArray) (a : Nat) (bad : Bool) (k ar : Nat) (br : Bool) (qs : List Rc) (v : Value) : Prop where
  rd : In wr r s ar br
  grown : w.grownBy wr (some r)
  ran : Ran ((pR s).many k) (stOf a bad) qs (stOf ar br)
  own : wr.ownsRow 0 69 5 v qs.length ((qs.map Rc.cells).flatten)
  new : ∀ g, v.ownBlock = some g → w.heap.size ≤ g
  wf : ∀ q ∈ qs, WfR q
theorem IL.next {w wr w1 w5 : World} {r : Nat} {s : ByteArray} {a : Nat} {bad : Bool} {k ar a1 : Nat} {br bad1 : Bool} {qs : List Rc} {q : Rc} {v v5 : Value} (h : IL w wr r s a bad k ar br qs v) (hrl : r < w.heap.size)
    (G1 : wr.grownBy w1 (some r)) (R1 : In w1 r s a1 bad1) (A1 : Ran (pR s) (stOf ar br) q (stOf a1 bad1)) (wq : WfR q) (o1 o2 : Obj)
    (g : Grew 69 5 ((w1.alloc o1).alloc o2) w5 v v5 (qs.length + 1) ((qs.map Rc.cells).flatten ++ q.cells)) : IL w w5 r s a bad (k + 1) a1 bad1 (qs ++ [q]) v5 := by
  have hb2 : Below w1.heap.size w1 ((w1.alloc o1).alloc o2) := ((Below.refl _ _).alloc (Nat.le_refl _) _).alloc (by rw [alloc_size]; omega) _
  have hz : w.heap.size ≤ ((w1.alloc o1).alloc o2).heap.size := Nat.le_trans (Nat.le_trans h.grown.size G1.size) hb2.size
  refine ⟨(R1.new (Nat.le_refl _) hb2).grow g.grown (ne_row h.new hrl), ?_, h.ran.more A1, ?_, row_new h.new g hz, ?_⟩
  · exact grownBy_row (grownBy_trans (grownBy_trans h.grown G1) (grownBy_below hb2 _)) g.grown h.new
  · have e1 : (qs ++ [q]).length = qs.length + 1 := by simp
    have e2 : ((qs ++ [q]).map Rc.cells).flatten = (qs.map Rc.cells).flatten ++ q.cells := by simp
    rw [e1, e2]
    exact g.own
  · intro y hy
    rcases List.mem_append.1 hy with hy | hy
    · exact h.wf y hy
    · simp at hy
      subst hy
      exact wq

set_option maxRecDepth 10000 in
set_option maxHeartbeats 2000000 in
theorem recordsI (w : World) (r : Nat) (s : ByteArray) (a : Nat) (bad : Bool) (n : Nat) (hn : n ≤ 65535) (h : In w r s a bad) :
    Calls Tryz.prog 129 #[.pointer (some ⟨r, 0, none⟩), .int .i64 n] w fun e w' =>
      ∃ (qs : List Rc) (al : Option Addr) (cl : Nat), e = .returned (.slice al qs.length cl) ∧ Hid (OutI ((pR s).many n) w w' r s a bad qs ∧ w'.ownsRow 0 69 5 (.slice al qs.length cl) qs.length ((qs.map Rc.cells).flatten) ∧ (∀ g, (Value.slice al qs.length cl).ownBlock = some g → w.heap.size ≤ g) ∧ (∀ q ∈ qs, WfR q) ∧ qs.length ≤ 65535) := by
  obtain ⟨i0, hi, hz0, hz1, hz2⟩ := info_parts rI0
  have hrl : r < w.heap.size := heap_lt h.box
  have H0 : Hid (IL w w r s a bad 0 a bad [] (.slice none 0 0)) := ⟨h, grownBy_refl _ _, Ran.pure _ _, World.ownsRow_nil _ _ _ _, (fun g hg => by cases hg), (fun q hq => by cases hq)⟩
  clear h
  go_enter Tryz.func129, Tryz.ntmps129
  go_wp2_with fail
  go_loopw [5, 6] (fun v i wr => ∃ (k ar : Nat) (br : Bool) (qs : List Rc) (al : Option Addr) (cl : Nat), v = .slice al qs.length cl ∧ i = .int .i64 k ∧ k ≤ n ∧ qs.length ≤ k ∧ Hid (IL w wr r s a bad k ar br qs (.slice al qs.length cl))) (fun _ i _ => n - (intOf i).toNat)
  case atStart => exact ⟨0, a, bad, [], none, 0, rfl, rfl, Nat.zero_le _, by simp, H0.out⟩
  case round =>
    obtain ⟨k, ar, br, qs, al, cl, rfl, rfl, hk, hql, HQ⟩ := hrel
    have hcr := HQ.out.rd.cell
    by_cases hlt : k < n
    · have HLT := hide hlt
      cases br
      · have hwz := HQ.out.grown.size
        go_wp2_with fail
        refine (recordI wr r s ar false HQ.out.rd).mono ?_
        rintro e w1 ⟨q, rfl, H1⟩
        obtain ⟨wq, a1, bad1, R1, G1, Ra1⟩ := H1.out
        have hw1 := G1.size
        have HR1 := hide R1
        have HG1 := hide G1
        have HA1 := hide Ra1
        have HWF := hide wq
        have HO1 := hide (HQ.out.own.kept G1 (own_apart HQ.out.new hrl))
        clear H1 R1 G1 Ra1 wq hcr
        obtain ⟨nm, ty, cs, tl, dt⟩ := q
        simp only [Rc.cells]
        go_wp2_with (at_builtin; refine wpList_append_grew _ rfl _ _ 28 rfl 69 i0 _ 5 40 uRs hi hz0 hz1 hz2 rfl (by decide) (.slice al qs.length cl) qs.length ((qs.map Rc.cells).flatten) rfl ⟨w1.heap.size + 1, 0, none⟩ 1 1 [.string nm, .int .u16 ty, .int .u16 cs, .int .u32 tl, .string dt] rfl rfl one_r5 ((HO1.out.alloc _).alloc _) (cells_new2 w1 _ #[.string nm, .int .u16 ty, .int .u16 cs, .int .u32 tl, .string dt] _) (by unfold maxLen; omega) (by omega) ?_; intro v5 w5 g5; obtain ⟨a5, c5, rfl⟩ := own_slice g5.own; have HG5 := hide g5; clear g5)
        refine ⟨⟨k + 1, a1, bad1, qs ++ [⟨nm, ty, cs, tl, dt⟩], a5, c5, by rw [List.length_append]; rfl, by go_num, by omega, by rw [List.length_append]; simp; omega, ?_⟩, by simp [intOf]; omega⟩
        rw [List.length_append]
        exact HQ.out.next hrl HG1.out HR1.out HA1.out HWF.out _ _ HG5.out
      · go_wp2_with fail
        go_ret
        exact ⟨qs, _, _, rfl, ⟨ar, true, HQ.out.rd, HQ.out.grown, HQ.out.ran.stop (by omega) _⟩, HQ.out.own, HQ.out.new, HQ.out.wf, by omega⟩
    · go_wp2_with fail
      go_ret
      have e : k = n := by omega
      subst e
      exact ⟨qs, _, _, rfl, ⟨ar, br, HQ.out.rd, HQ.out.grown, HQ.out.ran⟩, HQ.out.own, HQ.out.new, HQ.out.wf, by omega⟩
end Go.Proofs.YtafoepfhepdcoaaGreat
