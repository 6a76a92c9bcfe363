import Derived.Test.YtafoepfhepdcoaaGreatM7
set_option maxRecDepth 100000
set_option maxHeartbeats 8000000
namespace Go.Proofs.YtafoepfhepdcoaaGreat
open Go.RowKit Go.Trawl
theorem qI0 : (Tryz.prog.info? 41).map (fun i => (i.zero, i.size, i.bytes)) = some (some (.agg #[.string ⟨#[]⟩, .int .u16 0, .int .u16 0]), 3, 24) := by kernel_rfl
theorem rI0 : (Tryz.prog.info? 69).map (fun i => (i.zero, i.size, i.bytes)) = some (some (.agg #[.string ⟨#[]⟩, .int .u16 0, .int .u16 0, .int .u32 0, .string ⟨#[]⟩]), 5, 40) := by kernel_rfl
theorem uQs : Tryz.prog.underlying 27 = some (.slice 41) := by kernel_rfl
theorem uRs : Tryz.prog.underlying 28 = some (.slice 69) := by kernel_rfl
theorem own_apart {w : World} {v : Value} {r : Nat} (h : ∀ g, v.ownBlock = some g → w.heap.size ≤ g) (hr : r < w.heap.size) : v.ownBlock = none ∨ v.ownBlock ≠ some r := by
 cases hv : v.ownBlock with
 | none => exact .inl rfl
 | some g =>
  have := h g hv
  exact .inr (fun e => by have := Option.some.inj e; omega)
theorem one_q3 {a : ByteArray} {x y : Int} : ∀ u ∈ [Value.string a, .int .u16 x, .int .u16 y], u.oneCell' = true := by
 intro u hu
 simp only [List.mem_cons, List.not_mem_nil, or_false] at hu
 rcases hu with rfl | rfl | rfl <;> rfl
theorem one_r5 {a d : ByteArray} {x y z : Int} : ∀ u ∈ [Value.string a, .int .u16 x, .int .u16 y, .int .u32 z, .string d], u.oneCell' = true := by
 intro u hu
 simp only [List.mem_cons, List.not_mem_nil, or_false] at hu
 rcases hu with rfl | rfl | rfl | rfl | rfl <;> rfl
theorem cells_new2 (w : World) (o : Obj) (cs : Array Value) (t : TypeId) : ∀ j u, cs.toList[j]? = some u → ((w.alloc o).alloc (.cells cs t)).cell? ((⟨w.heap.size + 1, 0, none⟩ : Addr).add j) = some u := by
 have := cells_new (w.alloc o) cs t
 rw [alloc_size] at this
 exact this
structure QL (w wr : World) (r b c : Nat) (s : ByteArray) (a : Nat) (bad : Bool) (k ar : Nat) (br : Bool) (qs : List Qn) (v : Value) : Prop where
 rd : Rd wr r b c s ar br
 grown : w.grownBy wr (some r)
 ran : Ran ((pQ s).many k) (stOf a bad) qs (stOf ar br)
 own : wr.ownsRow 0 41 3 v qs.length ((qs.map Qn.cells).flatten)
 new : ∀ g, v.ownBlock = some g → w.heap.size ≤ g
 wf : ∀ q ∈ qs, WfQ q
theorem Rd.grow {w w' : World} {r b c : Nat} {s : ByteArray} {a : Nat} {bad : Bool} (h : Rd w r b c s a bad) {row : Option Nat} (hw : w.grownBy w' row) (h1 : row ≠ some r) (h2 : row ≠ some b) : Rd w' r b c s a bad :=
 ⟨(hw.block r (heap_lt h.box) (Ne.symm h1)).trans h.box, h.le, fun k hk => cell_of_heap (hw.block b h.lt (Ne.symm h2)) (h.bytes k hk), h.ne, Nat.lt_of_lt_of_le h.lt hw.size, h.cap, h.small⟩
theorem grownBy_row {a b c : World} {r : Option Nat} {v : Value} (h : a.grownBy b r) (k : b.grownBy c v.ownBlock) (hv : ∀ g, v.ownBlock = some g → a.heap.size ≤ g) : a.grownBy c r := by
 cases hr : v.ownBlock with
 | none => rw [hr] at k; exact grownBy_trans h (grownBy_none k)
 | some g => rw [hr] at k; exact grownBy_trans' h k (.inr ⟨g, rfl, hv g hr⟩)
theorem ne_row {w : World} {v : Value} {r : Nat} (h : ∀ g, v.ownBlock = some g → w.heap.size ≤ g) (hr : r < w.heap.size) : v.ownBlock ≠ some r := fun e => by have := h r e; omega
theorem row_new {w W w' : World} {e : TypeId} {sz : Nat} {v v' : Value} {n : Nat} {x : List Value} (h : ∀ g, v.ownBlock = some g → w.heap.size ≤ g) (g : Grew e sz W w' v v' n x) (hs : w.heap.size ≤ W.heap.size) : ∀ k, v'.ownBlock = some k → w.heap.size ≤ k := by
 intro k hk
 rcases g.loc with e1 | ⟨j, e1, hj⟩
 ·exact h k (by rw [← e1]; exact hk)
 ·rw [e1] at hk
  have := Option.some.inj hk
  omega
theorem QL.next {w wr w1 w5 : World} {r b c : Nat} {s : ByteArray} {a : Nat} {bad : Bool} {k ar a1 : Nat} {br : Bool} {qs : List Qn} {q : Qn} {v v5 : Value} (h : QL w wr r b c s a bad k ar br qs v) (hrl : r < w.heap.size) (hbl : b < w.heap.size)
  (G1 : wr.grownBy w1 (some r)) (R1 : Rd w1 r b c s a1 false) (A1 : Ran (pQ s) (stOf ar br) q (stOf a1 false)) (wq : WfQ q) (o1 o2 : Obj)
  (g : Grew 41 3 ((w1.alloc o1).alloc o2) w5 v v5 (qs.length + 1) ((qs.map Qn.cells).flatten ++ q.cells)) : QL w w5 r b c s a bad (k + 1) a1 false (qs ++ [q]) v5 := by
 have hb2 : Below w1.heap.size w1 ((w1.alloc o1).alloc o2) := ((Below.refl _ _).alloc (Nat.le_refl _) _).alloc (by rw [alloc_size]; omega) _
 have hz : w.heap.size ≤ ((w1.alloc o1).alloc o2).heap.size := Nat.le_trans (Nat.le_trans h.grown.size G1.size) hb2.size
 refine ⟨(R1.new (Nat.le_refl _) hb2).grow g.grown (ne_row h.new hrl) (ne_row h.new hbl), ?_, h.ran.more A1, ?_, row_new h.new g hz, ?_⟩
 ·exact grownBy_row (grownBy_trans (grownBy_trans h.grown G1) (grownBy_below hb2 _)) g.grown h.new
 ·have e1 : (qs ++ [q]).length = qs.length + 1 := by simp
  have e2 : ((qs ++ [q]).map Qn.cells).flatten = (qs.map Qn.cells).flatten ++ q.cells := by simp
  rw [e1, e2]
  exact g.own
 ·intro y hy
  rcases List.mem_append.1 hy with hy | hy
  ·exact h.wf y hy
  ·simp at hy
   subst hy
   exact wq
theorem listQ_any (w : World) (r b c : Nat) (s : ByteArray) (a : Nat) (bad : Bool) (n : Nat) (hn : n ≤ 65535) (h : Rd w r b c s a bad) :
  Calls Tryz.prog 69 #[.pointer (some ⟨r, 0, none⟩), .int .u16 n, .func (.func 70) #[.pointer (some ⟨r, 0, none⟩)] #[]] w fun e w' =>
   ∃ (qs : List Qn) (al : Option Addr) (cl : Nat), e = .returned (.slice al qs.length cl) ∧ Hid (Out ((pQ s).many n) w w' r b c s a bad qs ∧ w'.ownsRow 0 41 3 (.slice al qs.length cl) qs.length ((qs.map Qn.cells).flatten) ∧ (∀ g, (Value.slice al qs.length cl).ownBlock = some g → w.heap.size ≤ g) ∧ (∀ q ∈ qs, WfQ q) ∧ qs.length ≤ 65535) := by
 obtain ⟨i0, hi, hz0, hz1, hz2⟩ := info_parts qI0
 have hrl : r < w.heap.size := heap_lt h.box
 have hbl : b < w.heap.size := h.lt
 have H0 : Hid (QL w w r b c s a bad 0 a bad [] (.slice none 0 0)) := ⟨h, grownBy_refl _ _, Ran.pure _ _, World.ownsRow_nil _ _ _ _, (fun g hg => by cases hg), (fun q hq => by cases hq)⟩
 clear h
 go_enter Tryz.func69, Tryz.ntmps69
 go_wp2_with fail
 go_loopw [7, 10] (fun v i wr => ∃ (k ar : Nat) (br : Bool) (qs : List Qn) (al : Option Addr) (cl : Nat), v = .slice al qs.length cl ∧ i = .int .u16 k ∧ k ≤ n ∧ qs.length ≤ k ∧ Hid (QL w wr r b c s a bad k ar br qs (.slice al qs.length cl))) (fun _ i _ => n - (intOf i).toNat)
 case atStart => exact ⟨0, a, bad, [], none, 0, rfl, rfl, Nat.zero_le _, by simp, H0.out⟩
 case round =>
  obtain ⟨k, ar, br, qs, al, cl, rfl, rfl, hk, hql, HQ⟩ := hrel
  by_cases hlt : k < n
  ·have hwz := HQ.out.grown.size
   have HLT := hide hlt
   go_wp2_with fail
   refine (question_any wr r b c s ar br HQ.out.rd).mono ?_
   rintro e w1 ⟨q, rfl, H1⟩
   obtain ⟨wq, a1, bad1, R1, G1, Ra1⟩ := H1.out
   have hw1 := G1.size
   have HR1 := hide R1
   have HG1 := hide G1
   have HA1 := hide Ra1
   have hcl := R1.cell
   have HWF := hide wq
   have HO1 := hide (HQ.out.own.kept G1 (own_apart HQ.out.new hrl))
   clear H1 R1 G1 Ra1 wq
   obtain ⟨nm, ty, cs⟩ := q
   simp only [Qn.cells]
   have hca := fun ob => (HR1.out.new (Nat.le_refl _) ((Below.refl _ _).alloc (Nat.le_refl _) ob)).cell
   cases bad1
   ·go_wp2_with (at_builtin; refine wpList_append_grew _ rfl _ _ 27 rfl 41 i0 _ 3 24 uQs hi hz0 hz1 hz2 rfl (by decide) (.slice al qs.length cl) qs.length ((qs.map Qn.cells).flatten) rfl ⟨w1.heap.size + 1, 0, none⟩ 1 1 [.string nm, .int .u16 ty, .int .u16 cs] rfl rfl one_q3 ((HO1.out.alloc _).alloc _) (cells_new2 w1 _ #[.string nm, .int .u16 ty, .int .u16 cs] _) (by unfold maxLen; omega) (by omega) ?_; intro v5 w5 g5; obtain ⟨a5, c5, rfl⟩ := own_slice g5.own; have HG5 := hide g5; clear g5)
    refine ⟨⟨k + 1, a1, false, qs ++ [⟨nm, ty, cs⟩], a5, c5, by rw [List.length_append]; rfl, by go_num, by omega, by rw [List.length_append]; simp; omega, ?_⟩, by simp [intOf]; omega⟩
    rw [List.length_append]
    exact HQ.out.next hrl hbl HG1.out HR1.out HA1.out HWF.out _ _ HG5.out
   ·go_wp2_with fail
    go_ret
    exact ⟨[], none, 0, rfl, ⟨a1, true, HR1.out.new (Nat.le_refl _) ((Below.refl _ _).alloc (Nat.le_refl _) _), grownBy_trans HQ.out.grown (grownBy_trans HG1.out (grownBy_below ((Below.refl _ _).alloc (Nat.le_refl _) _) _)), (HQ.out.ran.more HA1.out).stop (by have := HLT.out; omega) _⟩, World.ownsRow_nil _ _ _ _, (fun g hg => by cases hg), (fun q hq => by cases hq), by simp⟩
  ·go_wp2_with fail
   go_ret
   have e : k = n := by omega
   subst e
   exact ⟨qs, _, _, rfl, ⟨ar, br, HQ.out.rd, HQ.out.grown, HQ.out.ran⟩, HQ.out.own, HQ.out.new, HQ.out.wf, by omega⟩
structure RL (w wr : World) (r b c : Nat) (s : ByteArray) (a : Nat) (bad : Bool) (k ar : Nat) (br : Bool) (qs : List Rc) (v : Value) : Prop where
 rd : Rd wr r b c s ar br
 grown : w.grownBy wr (some r)
 ran : Ran ((pR s).many k) (stOf a bad) qs (stOf ar br)
 own : wr.ownsRow 0 69 5 v qs.length ((qs.map Rc.cells).flatten)
 new : ∀ g, v.ownBlock = some g → w.heap.size ≤ g
 wf : ∀ q ∈ qs, WfR q
theorem RL.next {w wr w1 w5 : World} {r b c : Nat} {s : ByteArray} {a : Nat} {bad : Bool} {k ar a1 : Nat} {br : Bool} {qs : List Rc} {q : Rc} {v v5 : Value} (h : RL w wr r b c s a bad k ar br qs v) (hrl : r < w.heap.size) (hbl : b < w.heap.size)
  (G1 : wr.grownBy w1 (some r)) (R1 : Rd w1 r b c s a1 false) (A1 : Ran (pR s) (stOf ar br) q (stOf a1 false)) (wq : WfR q) (o1 o2 : Obj)
  (g : Grew 69 5 ((w1.alloc o1).alloc o2) w5 v v5 (qs.length + 1) ((qs.map Rc.cells).flatten ++ q.cells)) : RL w w5 r b c s a bad (k + 1) a1 false (qs ++ [q]) v5 := by
 have hb2 : Below w1.heap.size w1 ((w1.alloc o1).alloc o2) := ((Below.refl _ _).alloc (Nat.le_refl _) _).alloc (by rw [alloc_size]; omega) _
 have hz : w.heap.size ≤ ((w1.alloc o1).alloc o2).heap.size := Nat.le_trans (Nat.le_trans h.grown.size G1.size) hb2.size
 refine ⟨(R1.new (Nat.le_refl _) hb2).grow g.grown (ne_row h.new hrl) (ne_row h.new hbl), ?_, h.ran.more A1, ?_, row_new h.new g hz, ?_⟩
 ·exact grownBy_row (grownBy_trans (grownBy_trans h.grown G1) (grownBy_below hb2 _)) g.grown h.new
 ·have e1 : (qs ++ [q]).length = qs.length + 1 := by simp
  have e2 : ((qs ++ [q]).map Rc.cells).flatten = (qs.map Rc.cells).flatten ++ q.cells := by simp
  rw [e1, e2]
  exact g.own
 ·intro y hy
  rcases List.mem_append.1 hy with hy | hy
  ·exact h.wf y hy
  ·simp at hy
   subst hy
   exact wq
theorem listR_any (w : World) (r b c : Nat) (s : ByteArray) (a : Nat) (bad : Bool) (n : Nat) (hn : n ≤ 65535) (h : Rd w r b c s a bad) :
  Calls Tryz.prog 71 #[.pointer (some ⟨r, 0, none⟩), .int .u16 n, .func (.func 72) #[.pointer (some ⟨r, 0, none⟩)] #[]] w fun e w' =>
   ∃ (qs : List Rc) (al : Option Addr) (cl : Nat), e = .returned (.slice al qs.length cl) ∧ Hid (Out ((pR s).many n) w w' r b c s a bad qs ∧ w'.ownsRow 0 69 5 (.slice al qs.length cl) qs.length ((qs.map Rc.cells).flatten) ∧ (∀ g, (Value.slice al qs.length cl).ownBlock = some g → w.heap.size ≤ g) ∧ (∀ q ∈ qs, WfR q) ∧ qs.length ≤ 65535) := by
 obtain ⟨i0, hi, hz0, hz1, hz2⟩ := info_parts rI0
 have hrl : r < w.heap.size := heap_lt h.box
 have hbl : b < w.heap.size := h.lt
 have H0 : Hid (RL w w r b c s a bad 0 a bad [] (.slice none 0 0)) := ⟨h, grownBy_refl _ _, Ran.pure _ _, World.ownsRow_nil _ _ _ _, (fun g hg => by cases hg), (fun q hq => by cases hq)⟩
 clear h
 go_enter Tryz.func71, Tryz.ntmps71
 go_wp2_with fail
 go_loopw [7, 10] (fun v i wr => ∃ (k ar : Nat) (br : Bool) (qs : List Rc) (al : Option Addr) (cl : Nat), v = .slice al qs.length cl ∧ i = .int .u16 k ∧ k ≤ n ∧ qs.length ≤ k ∧ Hid (RL w wr r b c s a bad k ar br qs (.slice al qs.length cl))) (fun _ i _ => n - (intOf i).toNat)
 case atStart => exact ⟨0, a, bad, [], none, 0, rfl, rfl, Nat.zero_le _, by simp, H0.out⟩
 case round =>
  obtain ⟨k, ar, br, qs, al, cl, rfl, rfl, hk, hql, HQ⟩ := hrel
  by_cases hlt : k < n
  ·have hwz := HQ.out.grown.size
   have HLT := hide hlt
   go_wp2_with fail
   refine (record_any wr r b c s ar br HQ.out.rd).mono ?_
   rintro e w1 ⟨q, rfl, H1⟩
   obtain ⟨wq, a1, bad1, R1, G1, Ra1⟩ := H1.out
   have hw1 := G1.size
   have HR1 := hide R1
   have HG1 := hide G1
   have HA1 := hide Ra1
   have hcl := R1.cell
   have HWF := hide wq
   have HO1 := hide (HQ.out.own.kept G1 (own_apart HQ.out.new hrl))
   clear H1 R1 G1 Ra1 wq
   obtain ⟨nm, ty, cs, tl, dt⟩ := q
   simp only [Rc.cells]
   have hca := fun ob => (HR1.out.new (Nat.le_refl _) ((Below.refl _ _).alloc (Nat.le_refl _) ob)).cell
   cases bad1
   ·go_wp2_with (at_builtin; refine wpList_append_grew _ rfl _ _ 28 rfl 69 i0 _ 5 40 uRs hi hz0 hz1 hz2 rfl (by decide) (.slice al qs.length cl) qs.length ((qs.map Rc.cells).flatten) rfl ⟨w1.heap.size + 1, 0, none⟩ 1 1 [.string nm, .int .u16 ty, .int .u16 cs, .int .u32 tl, .string dt] rfl rfl one_r5 ((HO1.out.alloc _).alloc _) (cells_new2 w1 _ #[.string nm, .int .u16 ty, .int .u16 cs, .int .u32 tl, .string dt] _) (by unfold maxLen; omega) (by omega) ?_; intro v5 w5 g5; obtain ⟨a5, c5, rfl⟩ := own_slice g5.own; have HG5 := hide g5; clear g5)
    refine ⟨⟨k + 1, a1, false, qs ++ [⟨nm, ty, cs, tl, dt⟩], a5, c5, by rw [List.length_append]; rfl, by go_num, by omega, by rw [List.length_append]; simp; omega, ?_⟩, by simp [intOf]; omega⟩
    rw [List.length_append]
    exact HQ.out.next hrl hbl HG1.out HR1.out HA1.out HWF.out _ _ HG5.out
   ·go_wp2_with fail
    go_ret
    exact ⟨[], none, 0, rfl, ⟨a1, true, HR1.out.new (Nat.le_refl _) ((Below.refl _ _).alloc (Nat.le_refl _) _), grownBy_trans HQ.out.grown (grownBy_trans HG1.out (grownBy_below ((Below.refl _ _).alloc (Nat.le_refl _) _) _)), (HQ.out.ran.more HA1.out).stop (by have := HLT.out; omega) _⟩, World.ownsRow_nil _ _ _ _, (fun g hg => by cases hg), (fun q hq => by cases hq), by simp⟩
  ·go_wp2_with fail
   go_ret
   have e : k = n := by omega
   subst e
   exact ⟨qs, _, _, rfl, ⟨ar, br, HQ.out.rd, HQ.out.grown, HQ.out.ran⟩, HQ.out.own, HQ.out.new, HQ.out.wf, by omega⟩
theorem and_pow (f k : Nat) : f &&& 2 ^ k = f / 2 ^ k % 2 * 2 ^ k := by
 have hb := Nat.testBit_eq_decide_div_mod_eq (x := f) (i := k)
 rcases Nat.mod_two_eq_zero_or_one (f / 2 ^ k) with h | h
 ·rw [h] at hb ⊢
  refine Nat.eq_of_testBit_eq fun i => ?_
  rw [Nat.testBit_and, Nat.testBit_two_pow, Nat.zero_mul, Nat.zero_testBit]
  by_cases e : k = i
  ·subst e; rw [hb]; simp
  ·simp [e]
 ·rw [h] at hb ⊢
  refine Nat.eq_of_testBit_eq fun i => ?_
  rw [Nat.testBit_and, Nat.testBit_two_pow, Nat.one_mul, Nat.testBit_two_pow]
  by_cases e : k = i
  ·subst e; rw [hb]; simp
  ·simp [e]
theorem and_bit {f : Nat} (hf : f ≤ 65535) (k : Nat) (hk : 2 ^ k ≤ 32768) : bits BinOp.and IntKind.u16 (f : Int) ((2 ^ k : Nat) : Int) = ((f / 2 ^ k % 2 * 2 ^ k : Nat) : Int) := by
 rw [u16_and_nat f (2 ^ k) (by omega) (by omega), and_pow]
theorem bit_set {f : Nat} (hf : f ≤ 65535) (k : Nat) (hk : 2 ^ k ≤ 32768) (hp : 0 < 2 ^ k) : (bits BinOp.and IntKind.u16 (f : Int) ((2 ^ k : Nat) : Int) != 0) = decide ((f : Int) / ((2 ^ k : Nat) : Int) % 2 = 1) := by
 rw [and_bit hf k hk]
 have h := Nat.mod_two_eq_zero_or_one (f / 2 ^ k)
 have e : (f : Int) / ((2 ^ k : Nat) : Int) % 2 = ((f / 2 ^ k % 2 : Nat) : Int) := by omega
 rw [e]
 rcases h with h | h
 ·rw [h]; simp
 ·rw [h, Nat.one_mul]
  have h2 : ((2 ^ k : Nat) : Int) ≠ 0 := by omega
  rw [show (((2 ^ k : Nat) : Int) != 0) = true from bne_iff_ne.2 h2]
  rfl
theorem and15 {f : Nat} (hf : f ≤ 65535) : bits BinOp.and IntKind.u16 (f : Int) 15 = (f : Int) % 16 := by
 have := u16_and_nat f 15 (by omega) (by omega)
 rw [show ((15 : Nat) : Int) = 15 from rfl] at this
 rw [this, show (15 : Nat) = 2 ^ 4 - 1 from rfl, Nat.and_two_pow_sub_one_eq_mod]
 omega
theorem unpackFlags_any (w : World) (p : Nat) (f : Nat) (hf : f ≤ 65535) (id : Int) (h : w.heap[p]? = some (.cells (msgCells ⟨id, false, 0, false, false, false, false, 0, [], [], [], []⟩ (.slice none 0 0) (.slice none 0 0) (.slice none 0 0) (.slice none 0 0)) 30)) :
  Calls Tryz.prog 68 #[.pointer (some ⟨p, 0, none⟩), .int .u16 f] w fun e w' => ∃ v, e = .returned v ∧ Hid (w'.heap[p]? = some (.cells (msgCells (flagged id f [] [] [] []) (.slice none 0 0) (.slice none 0 0) (.slice none 0 0) (.slice none 0 0)) 30) ∧ w.grownBy w' (some p)) := by
 have H := hide h
 have hc := box_cells h
 have hfz := frozen_of_block h
 simp only [msgCells] at hc
 clear h
 go_enter Tryz.func68, Tryz.ntmps68
 go_wp2_with fail
 go_end0
 refine ⟨_, rfl, ?_, ?_⟩
 ·have e1 := bit_set hf 15 (by decide) (by decide)
  have e2 := bit_set hf 10 (by decide) (by decide)
  have e3 := bit_set hf 9 (by decide) (by decide)
  have e4 := bit_set hf 8 (by decide) (by decide)
  have e5 := bit_set hf 7 (by decide) (by decide)
  have e6 := and15 hf
  have e7 := and15 (f := f / 2048) (by omega)
  have c1 : ((f / 2048 : Nat) : Int) = (f : Int) / 2048 := by omega
  rw [c1] at e7
  simp only [Nat.reducePow] at e1 e2 e3 e4 e5
  rw [show ((32768 : Nat) : Int) = 32768 from rfl] at e1
  rw [show ((1024 : Nat) : Int) = 1024 from rfl] at e2
  rw [show ((512 : Nat) : Int) = 512 from rfl] at e3
  rw [show ((256 : Nat) : Int) = 256 from rfl] at e4
  rw [show ((128 : Nat) : Int) = 128 from rfl] at e5
  rw [e1, e2, e3, e4, e5, e6, e7]
  have w1 : wrap64 ((f : Int) / 2048 % 16) = (f : Int) / 2048 % 16 := by unfold wrap64; omega
  have w2 : wrap64 ((f : Int) % 16) = (f : Int) % 16 := by unfold wrap64; omega
  rw [w1, w2]
  rw [heap_setCell_eq (heap_setCell_eq (heap_setCell_eq (heap_setCell_eq (heap_setCell_eq (heap_setCell_eq (heap_setCell_eq H.out _) _) _) _) _) _) _]
  rfl
 ·exact grownBy_trans (grownBy_trans (grownBy_trans (grownBy_trans (grownBy_trans (grownBy_trans (grownBy_setCell _ _ _ _) (grownBy_setCell _ _ _ _)) (grownBy_setCell _ _ _ _)) (grownBy_setCell _ _ _ _)) (grownBy_setCell _ _ _ _)) (grownBy_setCell _ _ _ _)) (grownBy_setCell _ _ _ _)
end Go.Proofs.YtafoepfhepdcoaaGreat
