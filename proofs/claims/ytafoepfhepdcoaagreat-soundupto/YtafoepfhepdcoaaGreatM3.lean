import Derived.Test.YtafoepfhepdcoaaGreatM1
import Derived.Laws.StructEq
import Derived.Test.YtafoepfhepdcoaaGreatM2
import Derived.Laws.CopyRow
import Derived.OwnWalk
import Derived.Deep.QuietTactic
import Derived.BigQuiet
set_option maxRecDepth 100000
set_option maxHeartbeats 8000000
namespace Go.Proofs.YtafoepfhepdcoaaGreat
open Go.RowKit Go.Trawl
theorem undQ : Tryz.prog.underlying 41 = some (.struct (Tryz.prog.fieldsOf 41)) := by kernel_rfl
theorem stQ : Tryz.prog.stoodInHeld 41 = false := by kernel_rfl
theorem egQ : Tryz.prog.eqGuardType Tryz.prog.depth 41 = false := by kernel_rfl
theorem undR : Tryz.prog.underlying 69 = some (.struct (Tryz.prog.fieldsOf 69)) := by kernel_rfl
theorem stR : Tryz.prog.stoodInHeld 69 = false := by kernel_rfl
theorem egR : Tryz.prog.eqGuardType Tryz.prog.depth 69 = false := by kernel_rfl
theorem equalQ (s t : ByteArray) (a b c d : Int) (W : World) : (Op.equalIn 10000 41 (.agg #[.string s, .int .u16 a, .int .u16 b]) (.agg #[.string t, .int .u16 c, .int .u16 d])).run Tryz.prog W = .ok (s.toList == t.toList && (a == c && b == d)) W := by
 rw [run_equalIn_struct W 9999 41 _ _ undQ stQ]
 simp only [Program.fieldsOf, Tryz.underlying41]
 go_simp
 by_cases h1 : s.toList = t.toList <;> by_cases h2 : a = c <;> by_cases h3 : b = d <;> simp [h1, h2, h3]
theorem equalR (s t s' t' : ByteArray) (a b c d e f : Int) (W : World) : (Op.equalIn 10000 69 (.agg #[.string s, .int .u16 a, .int .u16 b, .int .u32 c, .string t]) (.agg #[.string s', .int .u16 d, .int .u16 e, .int .u32 f, .string t'])).run Tryz.prog W = .ok (s.toList == s'.toList && (a == d && (b == e && (c == f && t.toList == t'.toList)))) W := by
 rw [run_equalIn_struct W 9999 69 _ _ undR stR]
 simp only [Program.fieldsOf, Tryz.underlying69]
 go_simp
 by_cases h1 : s.toList = s'.toList <;> by_cases h2 : a = d <;> by_cases h3 : b = e <;> by_cases h4 : c = f <;> by_cases h5 : t.toList = t'.toList <;> simp [h1, h2, h3, h4, h5]
theorem guardQ (op : BinOp) (x y : Operand) (xs ys : Array Value) (W : World) : (eqGuard op 41 x y (.agg xs) (.agg ys)).run Tryz.prog W = .ok () W := run_eqGuard_agg W op _ x y xs ys egQ
theorem guardR (op : BinOp) (x y : Operand) (xs ys : Array Value) (W : World) : (eqGuard op 69 x y (.agg xs) (.agg ys)).run Tryz.prog W = .ok () W := run_eqGuard_agg W op _ x y xs ys egR
theorem buildQ (s : ByteArray) (a : Int) (W : World) : (Instr.build 41 #[(0, .string s), (1, .int .u16 a)]).run Tryz.prog W = .ok (.agg #[.string s, .int .u16 a, .int .u16 0]) W := run_build W _ _ _ (by kernel_rfl)
theorem buildR (s : ByteArray) (a : Int) (W : World) : (Instr.build 69 #[(0, .string s), (3, .int .u32 a)]).run Tryz.prog W = .ok (.agg #[.string s, .int .u16 0, .int .u16 0, .int .u32 a, .string ⟨#[]⟩]) W := run_build W _ _ _ (by kernel_rfl)
theorem buildQ0 (W : World) : (Instr.build 41 #[]).run Tryz.prog W = .ok (.agg #[.string ⟨#[]⟩, .int .u16 0, .int .u16 0]) W := run_build W _ _ _ (by kernel_rfl)
theorem buildR0 (W : World) : (Instr.build 69 #[]).run Tryz.prog W = .ok (.agg #[.string ⟨#[]⟩, .int .u16 0, .int .u16 0, .int .u32 0, .string ⟨#[]⟩]) W := run_build W _ _ _ (by kernel_rfl)
def signV (mk i : Int) : Int := wrap64 (mk + wrap64 (i * (1 + mk / 256))) % 256
def bM (mk : Int) (j : Nat) : Value := .int .u8 (signV mk j)
def rM (mk : Int) : Value := .int .u32 (1000000 + mk)
def qM (mk : Int) : List Value := [.string ⟨#[109, 97, 114, 107]⟩, .int .u16 (IntKind.u16.wrap mk), .int .u16 0]
def cM (mk : Int) : List Value := [.string ⟨#[109, 97, 114, 107]⟩, .int .u16 0, .int .u16 0, .int .u32 mk, .string ⟨#[]⟩]
def bEs (mk : Int) (n : Nat) : List (List Value) := (List.range n).map fun j => [bM mk j]
def RowM (U : Nat → Prop) (w : World) (e : TypeId) (sz : Nat) (v : Value) (es : List (List Value)) : Prop :=
 ∃ a c, v = .slice a es.length c ∧ es.length ≤ 4194304 ∧ (es = [] ∨ ∃ g cur, a = some ⟨g, 0, none⟩ ∧ U g ∧ w.heap[g]? = some (.cells cur e) ∧
  ∀ i x, es[i]? = some x → ∀ j u, x[j]? = some u → cur[i * sz + j]? = some u)
structure HoldM (U : Nat → Prop) (w : World) (hb : Nat) (vb vr vq vc : Value) (mk : Int) (lb lr lq lc : Nat) : Prop where
 use : U hb
 box : w.heap[hb]? = some (.cells #[vb, vr, vq, vc, .int .i64 mk] 121)
 lo : 1 ≤ mk
 hi : mk ≤ 100000000
 b : RowM U w 5 1 vb (bEs mk lb)
 r : RowM U w 54 1 vr (List.replicate lr [rM mk])
 q : RowM U w 41 3 vq (List.replicate lq (qM mk))
 c : RowM U w 69 5 vc (List.replicate lc (cM mk))
theorem RowM.cell {w : World} {e : TypeId} {sz : Nat} {g : Nat} {cur : Array Value} {es : List (List Value)} (hg : w.heap[g]? = some (.cells cur e))
  (h : ∀ i x, es[i]? = some x → ∀ j u, x[j]? = some u → cur[i * sz + j]? = some u) {i : Nat} {x : List Value} (hi : es[i]? = some x) {j : Nat} {u : Value} (hj : x[j]? = some u) : w.cell? ⟨g, i * sz + j, none⟩ = some u := by
 rw [box_cells hg]; exact h i x hi j u hj
attribute [local go_sem] equalQ equalR guardQ guardR buildQ buildR buildQ0 buildR0
end Go.Proofs.YtafoepfhepdcoaaGreat
namespace Go.Proofs.YtafoepfhepdcoaaGreat
open Go.RowKit Go.Trawl
attribute [local go_sem] equalQ equalR guardQ guardR buildQ buildR buildQ0 buildR0 Stg.upon
def bL (mk : Int) (n : Nat) : List Value := (List.range n).map (bM mk)
structure HoldO (w : World) (hb : Nat) (vb vr vq vc : Value) (mk : Int) (lb lr lq lc : Nat) : Prop where
 box : w.heap[hb]? = some (.cells #[vb, vr, vq, vc, .int .i64 mk] 121)
 b : w.ownsRow 0 5 1 vb lb (bL mk lb)
 r : w.ownsRow 0 54 1 vr lr (List.replicate lr [rM mk]).flatten
 q : w.ownsRow 0 41 3 vq lq (List.replicate lq (qM mk)).flatten
 c : w.ownsRow 0 69 5 vc lc (List.replicate lc (cM mk)).flatten
theorem own_slice {w : World} {base : Nat} {e : TypeId} {sz : Nat} {v : Value} {n : Nat} {x : List Value} (h : w.ownsRow base e sz v n x) : ∃ a c, v = .slice a n c := by
 rcases h.2 with ⟨rfl, rfl⟩ | ⟨g, cap, cur, rfl, _⟩
 ·exact ⟨_, _, rfl⟩
 ·exact ⟨_, _, rfl⟩
theorem heap_lt {w : World} {b : Nat} {o : Obj} (h : w.heap[b]? = some o) : b < w.heap.size := (Array.getElem?_eq_some_iff.1 h).1
theorem heap_setCell_eq {w : World} {G j : Nat} {cs : Array Value} {t : TypeId} (hG : w.heap[G]? = some (.cells cs t)) (u : Value) : (w.setCell ⟨G, j, none⟩ u).heap[G]? = some (.cells (cs.setIfInBounds j u) t) := by
 simp only [World.setCell, Array.getElem?_modify, if_true, hG]
 rfl
theorem grownBy_setCell (w : World) (G j : Nat) (u : Value) : w.grownBy (w.setCell ⟨G, j, none⟩ u) (some G) :=
 ⟨rfl, rfl, rfl, by simp [World.setCell], fun k _ hne => Below.heap_setCell w ⟨G, j, none⟩ u k (fun e => hne (by rw [e]))⟩
theorem own_type_ne' {w : World} {e t : TypeId} {sz : Nat} {v : Value} {n : Nat} {x : List Value} {b : Nat} {cs : Array Value} (h : w.ownsRow 0 e sz v n x) (hb : w.heap[b]? = some (.cells cs t)) (hne : e ≠ t) : v.ownBlock ≠ some b := by
 rcases h.2 with ⟨rfl, _⟩ | ⟨g, cap, cur, rfl, _, hg, _⟩
 ·simp [Value.ownBlock]
 ·intro e1
  have := Option.some.inj e1
  simp only at this
  subst this
  rw [hb] at hg
  injection hg with h1
  injection h1 with _ h2
  exact hne h2.symm
theorem own_setCell_ne {w : World} {e t : TypeId} {sz : Nat} {v : Value} {n : Nat} {x : List Value} {G j : Nat} {cs : Array Value} (h : w.ownsRow 0 e sz v n x) (hG : w.heap[G]? = some (.cells cs t)) (hne : e ≠ t) (u : Value) : (w.setCell ⟨G, j, none⟩ u).ownsRow 0 e sz v n x :=
 h.kept (grownBy_setCell w G j u) (.inr (own_type_ne' h hG hne))
theorem own_other {w w2 : World} {e e2 : TypeId} {sz sz2 : Nat} {v v' u : Value} {n n2 n' : Nat} {x x2 x' : List Value} (g : Grew e sz w w2 v v' n' x') (hv : w.ownsRow 0 e sz v n x) (hu : w.ownsRow 0 e2 sz2 u n2 x2) (hne : e2 ≠ e) : w2.ownsRow 0 e2 sz2 u n2 x2 := by
 refine hu.kept g.grown ?_
 rcases hv.2 with ⟨rfl, _⟩ | ⟨gg, cap, cur, rfl, _, hg, _⟩
 ·cases h1 : u.ownBlock
  ·exact .inl rfl
  ·exact .inr (by simp [Value.ownBlock])
 ·exact .inr (own_type_ne' hu hg hne)
theorem block_other {w w2 : World} {e t : TypeId} {sz : Nat} {v v' : Value} {n n' : Nat} {x x' : List Value} {b : Nat} {cs : Array Value} (g : Grew e sz w w2 v v' n' x') (hv : w.ownsRow 0 e sz v n x) (hb : w.heap[b]? = some (.cells cs t)) (hne : e ≠ t) : w2.heap[b]? = some (.cells cs t) :=
 (g.keeps (heap_lt hb) (own_type_ne' hv hb hne)).1.trans hb
theorem heap_old {w : World} {b : Nat} {o : Obj} (h : w.heap[b]? = some o) (x : Obj) : (w.alloc x).heap[b]? = some o := by
 rw [Below.heap_alloc w x b (heap_lt h)]; exact h
structure Lg (w0 w : World) (hb G : Nat) (vb vr vq vc : Value) (mk : Int) (lb lr lq lc : Nat) (x0 x1 x2 x3 : Value) : Prop where
 boxh : w.heap[hb]? = some (.cells #[vb, vr, vq, vc, .int .i64 mk] 121)
 boxg : w.heap[G]? = some (.cells #[x0, x1, x2, x3, .int .i64 mk] 121)
 ne : hb ≠ G
 b : w.ownsRow 0 5 1 vb lb (bL mk lb)
 r : w.ownsRow 0 54 1 vr lr (List.replicate lr [rM mk]).flatten
 q : w.ownsRow 0 41 3 vq lq (List.replicate lq (qM mk)).flatten
 c : w.ownsRow 0 69 5 vc lc (List.replicate lc (cM mk)).flatten
 os : w.os = w0.os
 tape : w.tape = w0.tape
 output : w.output = w0.output
 size : w0.heap.size ≤ w.heap.size
 frame : ∀ k, k < w0.heap.size → vb.ownBlock ≠ some k → vr.ownBlock ≠ some k → vq.ownBlock ≠ some k → vc.ownBlock ≠ some k → w.heap[k]? = w0.heap[k]?
 fresh : w0.heap.size ≤ G
theorem Lg.stepQ {w0 w w2 : World} {hb G : Nat} {vb vr vq vc : Value} {mk : Int} {lb lr lq lc : Nat} {x0 x1 x2 x3 v' : Value} {n' : Nat} {z : List Value} {T : Obj} (h : Lg w0 w hb G vb vr vq vc mk lb lr lq lc x0 x1 x2 x3)
  (g : Grew 41 3 (w.alloc T) w2 vq v' n' z) (old : w2.ownsRow 0 41 3 vq lq (List.replicate lq (qM mk)).flatten) : Lg w0 (w2.setCell ⟨G, 2, none⟩ v') hb G vb vr vq vc mk lb lr lq lc x0 x1 v' x3 := by
 have hv : (w.alloc T).ownsRow 0 41 3 vq lq (List.replicate lq (qM mk)).flatten := h.q.alloc _
 have hg := block_other g hv (heap_old h.boxg T) (by decide)
 have hh := block_other g hv (heap_old h.boxh T) (by decide)
 refine ⟨?_, ?_, h.ne, ?_, ?_, ?_, ?_, g.grown.os.trans h.os, g.grown.tape.trans h.tape, g.grown.output.trans h.output, ?_, ?_, h.fresh⟩
 ·rw [Below.heap_setCell _ _ _ _ (show hb ≠ G from h.ne)]; exact hh
 ·rw [heap_setCell_eq hg]; rfl
 ·exact own_setCell_ne (own_other g hv (h.b.alloc _) (by decide)) hg (by decide) v'
 ·exact own_setCell_ne (own_other g hv (h.r.alloc _) (by decide)) hg (by decide) v'
 ·exact own_setCell_ne old hg (by decide) v'
 ·exact own_setCell_ne (own_other g hv (h.c.alloc _) (by decide)) hg (by decide) v'
 ·have := g.grown.size
  rw [alloc_size] at this
  have h2 := h.size
  simp only [World.setCell, Array.size_modify]; omega
 ·intro k hk n1 n2 n3 n4
  have hf := h.fresh
  have hs := h.size
  rw [Below.heap_setCell _ _ _ _ (show k ≠ G by omega), (g.keeps (b := k) (by rw [alloc_size]; omega) n3).1, Below.heap_alloc w T k (by omega)]
  exact h.frame k hk n1 n2 n3 n4
theorem frozen_of_block {w : World} {b : Nat} {cs : Array Value} {t : TypeId} (h : w.heap[b]? = some (.cells cs t)) : ∀ o, w.frozen? ⟨b, o, none⟩ = false := by
 intro o
 simp [World.frozen?, h]
theorem Lg.drew {w0 w : World} {hb G : Nat} {vb vr vq vc : Value} {mk : Int} {lb lr lq lc : Nat} {x0 x1 x2 x3 : Value} (h : Lg w0 w hb G vb vr vq vc mk lb lr lq lc x0 x1 x2 x3) : Lg w0 { w with drawn := w.drawn + 1 } hb G vb vr vq vc mk lb lr lq lc x0 x1 x2 x3 :=
 ⟨h.boxh, h.boxg, h.ne, h.b, h.r, h.q, h.c, h.os, h.tape, h.output, h.size, h.frame, h.fresh⟩
structure NewRow (w0 w : World) (e : TypeId) (sz : Nat) (v x : Value) (n : Nat) (z : List Value) : Prop where
 own : w.ownsRow 0 e sz x n z
 loc : Go.Trawl.Loc w0 v x
theorem NewRow.step {w0 w w2 : World} {e e2 t : TypeId} {sz sz2 : Nat} {v x u v' : Value} {n m n' : Nat} {z y y' : List Value} {T : Obj} {G j : Nat} {cs : Array Value} (h : NewRow w0 w e sz v x n z) (g : Grew e2 sz2 (w.alloc T) w2 u v' n' y') (hu : (w.alloc T).ownsRow 0 e2 sz2 u m y) (hne : e ≠ e2)
  (hG : w2.heap[G]? = some (.cells cs t)) (hne2 : e ≠ t) : NewRow w0 (w2.setCell ⟨G, j, none⟩ v') e sz v x n z :=
 ⟨own_setCell_ne (own_other g hu (h.own.alloc _) hne) hG hne2 v', h.loc⟩
theorem NewRow.drew {w0 w : World} {e : TypeId} {sz : Nat} {v x : Value} {n : Nat} {z : List Value} (h : NewRow w0 w e sz v x n z) : NewRow w0 { w with drawn := w.drawn + 1 } e sz v x n z := ⟨h.own, h.loc⟩
theorem NewRow.mk' {w0 w w2 : World} {e t : TypeId} {sz : Nat} {v v' : Value} {n' : Nat} {z : List Value} {T : Obj} {G j : Nat} {cs : Array Value} (g : Grew e sz (w.alloc T) w2 v v' n' z) (hs : w0.heap.size ≤ w.heap.size)
  (hG : w2.heap[G]? = some (.cells cs t)) (hne2 : e ≠ t) : NewRow w0 (w2.setCell ⟨G, j, none⟩ v') e sz v v' n' z := by
 refine ⟨own_setCell_ne g.own hG hne2 v', ?_⟩
 rcases g.loc with e1 | ⟨k, e1, hk⟩
 ·exact .inl e1
 ·rw [alloc_size] at hk; exact .inr ⟨k, e1, by omega⟩
theorem one_u8 {k : IntKind} {a : Int} : ∀ u ∈ [Value.int k a], u.oneCell' = true := by
 intro u hu; simp at hu; subst hu; rfl
theorem cells_new (w : World) (cs : Array Value) (t : TypeId) : ∀ j u, cs.toList[j]? = some u → (w.alloc (.cells cs t)).cell? ((⟨w.heap.size, 0, none⟩ : Addr).add j) = some u := by
 intro j u hj
 have e1 : (⟨w.heap.size, 0, none⟩ : Addr).add j = ⟨w.heap.size, j, none⟩ := by simp [Addr.add]; omega
 rw [e1, box_cells (heap_new w _)]
 simpa using hj
end Go.Proofs.YtafoepfhepdcoaaGreat
namespace Go.Proofs.YtafoepfhepdcoaaGreat
open Go.RowKit Go.Trawl
theorem lab_next' {s : ByteArray} {k : Nat} (h : k < s.size) (h1 : 1 ≤ (s[k].toNat : Int)) (h2 : (s[k].toNat : Int) ≤ 63) : behind s k = behind s (k + (1 + s[k].toNat)) := by
 rw [← Nat.add_assoc]; exact lab_next h (by omega) h2
theorem lab_stop2' {s : ByteArray} {k : Nat} (h : k < s.size) (h2 : (s[k].toNat : Int) < 1) : behind s k = k := lab_stop2 h (by omega)
theorem ret_nat {a b : Nat} (h : a = b) : Ending.returned (.int .i64 (a : Int)) = .returned (.int .i64 (b : Int)) := by rw [h]
theorem behS_any (s : ByteArray) (w : World) (hs : s.size ≤ 255) :
  Calls Tryz.prog 167 #[.string s, .int .i64 0] w fun e w' => e = .returned (.int .i64 (behind s 0)) ∧ w' = w := by
 go_enter Tryz.func167, Tryz.ntmps167
 go_wp2
 go_loop [1] (fun i => ∃ k : Nat, i = .int .i64 k ∧ k ≤ 1000 ∧ Hid (behind s 0 = behind s k)) (fun i => s.size - (intOf i).toNat)
 case atStart => exact ⟨0, rfl, by omega, rfl⟩
 case round =>
  obtain ⟨k, rfl, hk, hb⟩ := hrel
  by_cases hlt : k < s.size
  ·go_wp2
   ·have h1 : 1 ≤ (s[k].toNat : Int) := by assumption
    have h2 : (s[k].toNat : Int) ≤ 63 := by assumption
    exact ⟨⟨k + (1 + s[k].toNat), by go_num, by omega, hb.out.trans (lab_next' hlt h1 h2)⟩, by simp [intOf]; omega⟩
   ·go_ret
    exact ⟨ret_nat (hb.out.trans (lab_stop1 hlt (by assumption))).symm, rfl⟩
   ·go_ret
    exact ⟨ret_nat (hb.out.trans (lab_stop2' hlt (by assumption))).symm, rfl⟩
  ·go_wp2
   go_ret
   exact ⟨ret_nat (hb.out.trans (lab_stop3 hlt)).symm, rfl⟩
theorem isName_any (s : ByteArray) (w : World) (hs : s.size ≤ maxLen) :
  Calls Tryz.prog 140 #[.string s] w fun e w' => e = .returned (.bool (nameB s)) ∧ w' = w := by
 unfold maxLen at hs
 by_cases h : s.size ≤ 255
 ·by_cases hb : (behind s 0 : Int) = (s.size : Int) - 1
  ·have h1 : 1 ≤ s.size := by omega
   have hlt : s.size - 1 < s.size := Nat.sub_lt h1 Nat.one_pos
   have HY : Hid (((s[s.size - 1].toNat : Int) == 0) = nameB s) := name_yes rfl h hb hlt
   have hbb : ((behind s 0 : Int) == (s.size : Int) - 1) = true := by simpa using hb
   clear hb
   go_enter Tryz.func140, Tryz.ntmps140
   go_wp2_with (go_at_call 167; refine (behS_any _ _ h).mono ?_; rintro e w' ⟨rfl, rfl⟩)
   go_ret
   exact ⟨ret_bool HY.out, rfl⟩
  ·have HN : Hid (nameB s = false) := name_no rfl hb
   have hbb : ((behind s 0 : Int) == (s.size : Int) - 1) = false := by simpa using hb
   clear hb
   go_enter Tryz.func140, Tryz.ntmps140
   go_wp2_with (go_at_call 167; refine (behS_any _ _ h).mono ?_; rintro e w' ⟨rfl, rfl⟩)
   go_ret
   exact ⟨ret_bool HN.out.symm, rfl⟩
 ·have HN : Hid (nameB s = false) := name_long h
  go_enter Tryz.func140, Tryz.ntmps140
  go_wp2
  go_ret
  exact ⟨ret_bool HN.out.symm, rfl⟩
theorem flag_any (b : Bool) (n : Int) (w : World) :
  Calls Tryz.prog 97 #[.bool b, .int .u16 n] w fun e w' => e = .returned (.int .u16 (bit b n)) ∧ w' = w := by
 cases b
 all_goals
  go_enter Tryz.func97, Tryz.ntmps97
  go_wp2
  go_ret
  exact ⟨rfl, rfl⟩
theorem countQ_any (a : Option Addr) (n c : Nat) (hn : n ≤ 65535) (w : World) :
  Calls Tryz.prog 62 #[.slice a n c] w fun e w' => e = .returned (.int .u16 n) ∧ w' = w := by
 go_enter Tryz.func62, Tryz.ntmps62
 go_wp2
 go_ret
 exact ⟨ret_int (by omega), rfl⟩
theorem countR_any (a : Option Addr) (n c : Nat) (hn : n ≤ 65535) (w : World) :
  Calls Tryz.prog 63 #[.slice a n c] w fun e w' => e = .returned (.int .u16 n) ∧ w' = w := by
 go_enter Tryz.func63, Tryz.ntmps63
 go_wp2
 go_ret
 exact ⟨ret_int (by omega), rfl⟩
def withQ (size : Int) (q : Qn) : Value := if nameB q.name then .tuple #[.int .i64 (size + (q.name.size + 4)), .bool (decide (size + (q.name.size + 4) ≤ 512))] else .tuple #[.int .i64 0, .bool false]
theorem withQ_any (size : Int) (s : ByteArray) (k c : Int) (w : World) (h0 : 0 ≤ size) (h1 : size ≤ 512) (hs : s.size ≤ maxLen) :
  Calls Tryz.prog 95 #[.int .i64 size, .agg #[.string s, .int .u16 k, .int .u16 c]] w fun e w' => e = .returned (withQ size ⟨s, k, c⟩) ∧ Below w.heap.size w w' := by
 by_cases hn : nameB s = true
 ·have hz := nameB_size hn
  have HQ : Hid (withQ size ⟨s, k, c⟩ = .tuple #[.int .i64 (size + (s.size + 4)), .bool (decide (size + (s.size + 4) ≤ 512))]) := by unfold withQ; rw [if_pos hn]; rfl
  go_enter Tryz.func95, Tryz.ntmps95
  go_wp2_with (go_at_call 140; refine (isName_any _ _ hs).mono ?_; rintro e w' ⟨rfl, rfl⟩)
  go_ret2
  exact ⟨by rw [HQ.out]; rfl, (Below.refl _ _).alloc (Nat.le_refl _) _⟩
 ·have hn' : nameB s = false := by simpa using hn
  clear hn
  have HQ : Hid (withQ size ⟨s, k, c⟩ = .tuple #[.int .i64 0, .bool false]) := by unfold withQ; rw [hn']; rfl
  go_enter Tryz.func95, Tryz.ntmps95
  go_wp2_with (go_at_call 140; refine (isName_any _ _ hs).mono ?_; rintro e w' ⟨rfl, rfl⟩)
  go_ret2
  exact ⟨by rw [HQ.out]; rfl, (Below.refl _ _).alloc (Nat.le_refl _) _⟩
def withR (size : Int) (r : Rc) : Value :=
 if okR r && decide (r.data.size ≤ 512) then .tuple #[.int .i64 (size + (r.name.size + 10 + r.data.size)), .bool (decide (size + (r.name.size + 10 + r.data.size) ≤ 512))] else .tuple #[.int .i64 0, .bool false]
theorem withR_any (size : Int) (s : ByteArray) (k c t : Int) (d : ByteArray) (w : World) (h0 : 0 ≤ size) (h1 : size ≤ 512) (hs : s.size ≤ maxLen) (hd : d.size ≤ maxLen) :
  Calls Tryz.prog 96 #[.int .i64 size, .agg #[.string s, .int .u16 k, .int .u16 c, .int .u32 t, .string d]] w fun e w' => e = .returned (withR size ⟨s, k, c, t, d⟩) ∧ Below w.heap.size w w' := by
 have hd' : d.size ≤ 9223372036854775807 := by unfold maxLen at hd; omega
 cases hn : nameB s with
 | false =>
  have HQ : Hid (withR size ⟨s, k, c, t, d⟩ = .tuple #[.int .i64 0, .bool false]) := by show _ = _; unfold withR okR; simp [hn]
  go_enter Tryz.func96, Tryz.ntmps96
  go_wp2_with (go_at_call 140; refine (isName_any _ _ hs).mono ?_; rintro e w' ⟨rfl, rfl⟩)
  go_ret2
  exact ⟨by rw [HQ.out]; rfl, (Below.refl _ _).alloc (Nat.le_refl _) _⟩
 | true =>
  have hz := nameB_size hn
  by_cases hb : d.size ≤ 512
  ·cases hk : named k with
   | false =>
    have HQ : Hid (withR size ⟨s, k, c, t, d⟩ = .tuple #[.int .i64 (size + (s.size + 10 + d.size)), .bool (decide (size + (s.size + 10 + d.size) ≤ 512))]) := by show _ = _; unfold withR okR; simp [hn, hb, hk]
    go_enter Tryz.func96, Tryz.ntmps96
    go_wp2_with (first | (go_at_call 140; refine (isName_any _ _ hs).mono ?_; rintro e w' ⟨rfl, rfl⟩) | (go_at_call 141; refine (isNameType_any _ _).mono ?_; rintro e w' ⟨rfl, rfl⟩))
    go_ret2
    exact ⟨by rw [HQ.out]; rfl, (Below.refl _ _).alloc (Nat.le_refl _) _⟩
   | true =>
    cases hm : nameB d with
    | false =>
     have HQ : Hid (withR size ⟨s, k, c, t, d⟩ = .tuple #[.int .i64 0, .bool false]) := by show _ = _; unfold withR okR; simp [hm, hk]
     go_enter Tryz.func96, Tryz.ntmps96
     go_wp2_with fail
     refine (isName_any _ _ hs).mono ?_
     rintro e w' ⟨rfl, rfl⟩
     go_wp2_with (go_at_call 141; refine (isNameType_any _ _).mono ?_; rintro e w' ⟨rfl, rfl⟩)
     refine (isName_any _ _ hd).mono ?_
     rintro e w' ⟨rfl, rfl⟩
     go_wp2
     go_ret2
     exact ⟨by rw [HQ.out]; rfl, (Below.refl _ _).alloc (Nat.le_refl _) _⟩
    | true =>
     have HQ : Hid (withR size ⟨s, k, c, t, d⟩ = .tuple #[.int .i64 (size + (s.size + 10 + d.size)), .bool (decide (size + (s.size + 10 + d.size) ≤ 512))]) := by show _ = _; unfold withR okR; simp [hn, hb, hm]
     go_enter Tryz.func96, Tryz.ntmps96
     go_wp2_with fail
     refine (isName_any _ _ hs).mono ?_
     rintro e w' ⟨rfl, rfl⟩
     go_wp2_with (go_at_call 141; refine (isNameType_any _ _).mono ?_; rintro e w' ⟨rfl, rfl⟩)
     refine (isName_any _ _ hd).mono ?_
     rintro e w' ⟨rfl, rfl⟩
     go_wp2
     go_ret2
     exact ⟨by rw [HQ.out]; rfl, (Below.refl _ _).alloc (Nat.le_refl _) _⟩
  ·have HQ : Hid (withR size ⟨s, k, c, t, d⟩ = .tuple #[.int .i64 0, .bool false]) := by show _ = _; unfold withR; simp [hb]
   go_enter Tryz.func96, Tryz.ntmps96
   go_wp2_with (go_at_call 140; refine (isName_any _ _ hs).mono ?_; rintro e w' ⟨rfl, rfl⟩)
   go_ret2
   exact ⟨by rw [HQ.out]; rfl, (Below.refl _ _).alloc (Nat.le_refl _) _⟩
theorem flags_fin : ∀ (op code : Fin 16) (r o c wt a : Bool),
  bits BinOp.or IntKind.u16 (bits BinOp.or IntKind.u16 (bits BinOp.or IntKind.u16 (bits BinOp.or IntKind.u16 (bits BinOp.or IntKind.u16 (bits BinOp.or IntKind.u16 (bit r 32768) ((op.val : Int) * 2048)) (bit o 1024)) (bit c 512)) (bit wt 256)) (bit a 128)) (code.val : Int)
   = bit r 32768 + 2048 * (op.val : Int) + bit o 1024 + bit c 512 + bit wt 256 + bit a 128 + (code.val : Int) := by
 decide +kernel
theorem flags_or (op code : Int) (r o c wt a : Bool) (h0 : 0 ≤ op) (h1 : op ≤ 15) (h2 : 0 ≤ code) (h3 : code ≤ 15) :
  bits BinOp.or IntKind.u16 (bits BinOp.or IntKind.u16 (bits BinOp.or IntKind.u16 (bits BinOp.or IntKind.u16 (bits BinOp.or IntKind.u16 (bits BinOp.or IntKind.u16 (bit r 32768) (op * 2048)) (bit o 1024)) (bit c 512)) (bit wt 256)) (bit a 128)) code
   = bit r 32768 + 2048 * op + bit o 1024 + bit c 512 + bit wt 256 + bit a 128 + code := by
 have := flags_fin ⟨op.toNat, by omega⟩ ⟨code.toNat, by omega⟩ r o c wt a
 simp only [Int.toNat_of_nonneg h0, Int.toNat_of_nonneg h2] at this
 exact this
theorem packFlags_any (id op code : Int) (r o c wt a : Bool) (q1 q2 q3 q4 : Value) (w : World) (h0 : 0 ≤ op) (h1 : op ≤ 15) (h2 : 0 ≤ code) (h3 : code ≤ 15) :
  Calls Tryz.prog 61 #[.agg #[.int .u16 id, .bool r, .int .i64 op, .bool o, .bool c, .bool wt, .bool a, .int .i64 code, q1, q2, q3, q4]] w fun e w' => e = .returned (.int .u16 (bit r 32768 + 2048 * op + bit o 1024 + bit c 512 + bit wt 256 + bit a 128 + code)) ∧ ∃ n, w' = (w.alloc (.cells #[.int .u16 id, .bool r, .int .i64 op, .bool o, .bool c, .bool wt, .bool a, .int .i64 code, q1, q2, q3, q4] 30)).drewN n := by
 have HF : Hid _ := flags_or op code r o c wt a h0 h1 h2 h3
 go_enter Tryz.func61, Tryz.ntmps61
 go_wp2
 go_quiet ((go_at_call 97; exact Calls.quiet_of_same (flag_any _ _ _)))
 go_wp2
 go_ret
 exact ⟨ret_int HF.out, _, rfl⟩
theorem u8_info : (Tryz.prog.info? 5).map (fun i => (i.zero, i.size, i.bytes)) = some (some (.int .u8 0), 1, 1) := by kernel_rfl
theorem und_bytes : Tryz.prog.underlying 32 = some (.slice 5) := by kernel_rfl
theorem und_string : Tryz.prog.underlying 9 = some .string := by kernel_rfl
theorem one2 {k : IntKind} {a b : Int} : ∀ u ∈ [Value.int k a, Value.int k b], u.oneCell' = true := by
 intro u hu
 simp at hu
 rcases hu with rfl | rfl <;> rfl
theorem addShort_any (v : Value) (n : Nat) (xs : List Value) (x : Int) (w : World) (h0 : 0 ≤ x) (h1 : x ≤ 65535) (hown : w.ownsRow 0 5 1 v n xs) (hn : n ≤ 1000000) :
  Calls Tryz.prog 64 #[v, .int .u16 x] w fun e w' => ∃ v', e = .returned v' ∧ Grew 5 1 w w' v v' (n + 2) (xs ++ bytesV (two x)) := by
 obtain ⟨i0, hi, hz0, hz1, hz2⟩ := info_parts u8_info
 have HT : Hid _ := two_cells' h0 h1
 go_enter Tryz.func64, Tryz.ntmps64
 go_wp2_with (at_builtin; refine wpList_append_grew _ rfl _ _ 32 rfl 5 i0 (.int .u8 0) 1 1 und_bytes hi hz0 hz1 hz2 rfl (by decide) v n xs rfl ⟨w.heap.size, 0, none⟩ 2 2 [.int .u8 (x / 256), .int .u8 (x % 256)] rfl rfl one2 (hown.alloc _) (cell_two_new _ _ _ _) (by unfold maxLen; omega) (by omega) ?_; intro v' w' hg)
 go_ret
 rw [HT.out]
 exact ⟨_, rfl, hg.pre (World.grownBy_alloc _ _ _)⟩
theorem Grew.box {e : TypeId} {sz : Nat} {w w' : World} {v v' : Value} {n : Nat} {x : List Value} {b : Nat} {o : Obj} (h : Grew e sz w w' v v' n x) (hb : w.heap[b]? = some o ∧ v.ownBlock ≠ some b) : w'.heap[b]? = some o ∧ v'.ownBlock ≠ some b := by
 have hlt : b < w.heap.size := (Array.getElem?_eq_some_iff.1 hb.1).1
 have := h.keeps hlt hb.2
 exact ⟨this.1.trans hb.1, this.2.1⟩
theorem addQ_any (v : Value) (n : Nat) (xs : List Value) (s : ByteArray) (k c : Int) (w : World) (hk0 : 0 ≤ k) (hk1 : k ≤ 65535) (hc0 : 0 ≤ c) (hc1 : c ≤ 65535) (hs : s.size ≤ 255) (hown : w.ownsRow 0 5 1 v n xs) (hn : n ≤ 10000) :
  Calls Tryz.prog 65 #[v, .agg #[.string s, .int .u16 k, .int .u16 c]] w fun e w' => ∃ v', e = .returned v' ∧ Grew 5 1 w w' v v' (n + (qbytes ⟨s, k, c⟩).length) (xs ++ bytesV (qbytes ⟨s, k, c⟩)) := by
 obtain ⟨i0, hi, hz0, hz1, hz2⟩ := info_parts u8_info
 go_enter Tryz.func65, Tryz.ntmps65
 go_wp2_with (at_builtin; refine wpList_append_grew_string _ rfl _ _ 32 9 rfl 5 i0 und_bytes und_string hi hz0 hz1 hz2 v n xs rfl s rfl (hown.alloc _) (by unfold maxLen; omega) (by omega) ?_; intro v1 w1 g1; have b1 := Grew.box g1 ⟨heap_new _ _, own_ne hown (Nat.le_refl _)⟩; have c1 := box_cells b1.1; have B1 := hide b1; clear b1)
 refine (addShort_any _ _ _ _ _ hk0 hk1 g1.own (by omega)).mono ?_
 rintro e w2 ⟨v2, rfl, g2⟩
 have b2 := Grew.box g2 (unhide B1)
 have c2 := box_cells b2.1
 clear c1
 have B2 := hide b2
 clear b2
 go_wp2_with fail
 refine (addShort_any _ _ _ _ _ hc0 hc1 g2.own (by omega)).mono ?_
 rintro e w3 ⟨v3, rfl, g3⟩
 clear c2
 go_wp2_with fail
 go_ret
 have g := ((g1.trans g2).trans g3).pre (World.grownBy_alloc w _ _)
 have e1 : n + s.size + 2 + 2 = n + (qbytes ⟨s, k, c⟩).length := by rw [length_qbytes]; show _ = n + (s.size + 4); omega
 have e2 : xs ++ Lib.strCells s ++ bytesV (two k) ++ bytesV (two c) = xs ++ bytesV (qbytes ⟨s, k, c⟩) := by
  simp only [qbytes, bytesV_append, strCells_bytesV, List.append_assoc]
 rw [e1, e2] at g
 exact ⟨_, rfl, g⟩
theorem wrapU16 (x : Int) : IntKind.u16.wrap x = x % 65536 := by
 simp [IntKind.wrap, IntKind.signed, IntKind.bits]
theorem addR_any (v : Value) (n : Nat) (xs : List Value) (s : ByteArray) (k c t : Int) (d : ByteArray) (w : World) (hk0 : 0 ≤ k) (hk1 : k ≤ 65535) (hc0 : 0 ≤ c) (hc1 : c ≤ 65535) (ht0 : 0 ≤ t) (ht1 : t ≤ 4294967295) (hs : s.size ≤ 255) (hd : d.size ≤ 512) (hown : w.ownsRow 0 5 1 v n xs) (hn : n ≤ 10000) :
  Calls Tryz.prog 66 #[v, .agg #[.string s, .int .u16 k, .int .u16 c, .int .u32 t, .string d]] w fun e w' => ∃ v', e = .returned v' ∧ Grew 5 1 w w' v v' (n + (rbytes ⟨s, k, c, t, d⟩).length) (xs ++ bytesV (rbytes ⟨s, k, c, t, d⟩)) := by
 obtain ⟨i0, hi, hz0, hz1, hz2⟩ := info_parts u8_info
 have HT : Hid (t ≤ 4294967295) := ht1
 clear ht1
 go_enter Tryz.func66, Tryz.ntmps66
 go_wp2_with (at_builtin; refine wpList_append_grew_string _ rfl _ _ 32 9 rfl 5 i0 und_bytes und_string hi hz0 hz1 hz2 v n xs rfl s rfl (hown.alloc _) (by unfold maxLen; omega) (by omega) ?_; intro v1 w1 g1; have b1 := Grew.box g1 ⟨heap_new _ _, own_ne hown (Nat.le_refl _)⟩; have c1 := box_cells b1.1; have B1 := hide b1; clear b1)
 refine (addShort_any _ _ _ _ _ hk0 hk1 g1.own (by omega)).mono ?_
 rintro e w2 ⟨v2, rfl, g2⟩
 have b2 := Grew.box g2 (unhide B1)
 have c2 := box_cells b2.1
 clear c1
 have B2 := hide b2
 clear b2
 go_wp2_with fail
 refine (addShort_any _ _ _ _ _ hc0 hc1 g2.own (by omega)).mono ?_
 rintro e w3 ⟨v3, rfl, g3⟩
 have b3 := Grew.box g3 (unhide B2)
 have c3 := box_cells b3.1
 clear c2
 have B3 := hide b3
 clear b3
 go_wp2_with fail
 rw [wrapU16, show t / 65536 % 65536 = t / 65536 from by have := HT.out; omega]
 refine (addShort_any _ _ _ _ _ (by omega) (by have := HT.out; omega) g3.own (by omega)).mono ?_
 rintro e w4 ⟨v4, rfl, g4⟩
 have b4 := Grew.box g4 (unhide B3)
 have c4 := box_cells b4.1
 clear c3
 have B4 := hide b4
 clear b4
 go_wp2_with fail
 first | rw [wrapU16] | skip
 refine (addShort_any _ _ _ _ _ (by omega) (by omega) g4.own (by omega)).mono ?_
 rintro e w5 ⟨v5, rfl, g5⟩
 have b5 := Grew.box g5 (unhide B4)
 have c5 := box_cells b5.1
 clear c4
 have B5 := hide b5
 clear b5
 go_wp2_with fail
 refine (addShort_any _ _ _ _ _ (by omega) (by omega) g5.own (by omega)).mono ?_
 rintro e w6 ⟨v6, rfl, g6⟩
 have b6 := Grew.box g6 (unhide B5)
 have c6 := box_cells b6.1
 clear c5 b6
 have o6 := g6.own
 go_wp2_with (at_builtin; refine wpList_append_grew_string _ rfl _ _ 32 9 rfl 5 i0 und_bytes und_string hi hz0 hz1 hz2 v6 _ _ rfl d rfl o6 (by unfold maxLen; omega) (by omega) ?_; intro v7 w7 g7)
 go_ret
 have g := ((((((g1.trans g2).trans g3).trans g4).trans g5).trans g6).trans g7).pre (World.grownBy_alloc w _ _)
 have e1 : n + s.size + 2 + 2 + 2 + 2 + 2 + d.size = n + (rbytes ⟨s, k, c, t, d⟩).length := by rw [length_rbytes]; show _ = n + (s.size + 10 + d.size); omega
 have e2 : xs ++ Lib.strCells s ++ bytesV (two k) ++ bytesV (two c) ++ bytesV (two (t / 65536)) ++ bytesV (two (t % 65536)) ++ bytesV (two d.size) ++ Lib.strCells d = xs ++ bytesV (rbytes ⟨s, k, c, t, d⟩) := by
  simp only [rbytes, bytesV_append, strCells_bytesV, List.append_assoc]
 rw [e1, e2] at g
 exact ⟨_, rfl, g⟩
end Go.Proofs.YtafoepfhepdcoaaGreat
