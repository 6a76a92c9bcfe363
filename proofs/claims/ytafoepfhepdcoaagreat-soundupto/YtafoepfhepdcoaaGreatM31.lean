import Derived.Test.YtafoepfhepdcoaaGreatM25
import Derived.Test.YtafoepfhepdcoaaGreatM27
import Derived.Deep.CutRange
import Derived.Test.YtafoepfhepdcoaaGreatM28
set_option maxRecDepth 100000
set_option maxHeartbeats 8000000
namespace Go.Trawl
def onB (a : Nat) : List UInt8 := if a = 0 then [0] else [UInt8.ofNat (192 + a / 256), UInt8.ofNat (a % 256)]
def entryB (i : Nat) (l : List UInt8) (a : Nat) : List UInt8 := ([UInt8.ofNat l.length] ++ l) ++ (onB a ++ (two (i : Int) ++ two 1))
structure PtS where
 body : List UInt8
 at_ : Nat
 last : List UInt8
 names : List (List UInt8)
def PtS.start : PtS := ⟨[], 0, [0], []⟩
def PtS.step (s : PtS) (l : List UInt8) : PtS := ⟨s.body ++ entryB s.names.length l s.at_, 12 + s.body.length, [UInt8.ofNat l.length] ++ l ++ s.last, s.names ++ [[UInt8.ofNat l.length] ++ l ++ s.last]⟩
def qsOf (names : List (List UInt8)) : List Qn := names.mapIdx fun i n => ⟨⟨n.toArray⟩, (i : Int), 1⟩
theorem qsOf_snoc (names : List (List UInt8)) (n : List UInt8) : qsOf (names ++ [n]) = qsOf names ++ [⟨⟨n.toArray⟩, (names.length : Int), 1⟩] := by
 unfold qsOf
 rw [List.mapIdx_append]
 simp
structure Reads (s : ByteArray) (p : PtS) : Prop where
 first : p.names = [] → p.at_ = 0 ∧ p.last = [0]
 next : p.names ≠ [] → 12 ≤ p.at_ ∧ p.at_ < 12 + p.body.length ∧ ∃ e, whole s p.at_ = some (p.last, e)
 many : (pQ s).many p.names.length 12 = some (qsOf p.names, 12 + p.body.length)
theorem Reads.start (s : ByteArray) : Reads s PtS.start := ⟨fun _ => ⟨rfl, rfl⟩, fun h => absurd rfl h, rfl⟩
theorem u8n {n : Nat} (h : n < 256) : (UInt8.ofNat n).toNat = n := UInt8.toNat_ofNat_of_lt' h
theorem Reads.step {s : ByteArray} {p : PtS} (h : Reads s p) {l : List UInt8} (h1 : 1 ≤ l.length) (h2 : l.length ≤ 20) (hi : p.names.length < 20) (hs : 12 + (p.step l).body.length ≤ 512) (hn : (p.step l).last.length ≤ 255) (hat : At s 12 (p.step l).body) : Reads s (p.step l) := by
 have hen : At s (12 + p.body.length) (entryB p.names.length l p.at_) := hat.right
 have hA := hen.left
 have hO := hen.right.left
 have hT := hen.right.right
 have hle := hen.le
 have hb0 := hA.at8 (k := 0) (b := UInt8.ofNat l.length) rfl
 rw [u8n (by omega), Nat.add_zero] at hb0
 have hlA : ([UInt8.ofNat l.length] ++ l).length = 1 + l.length := by simp; omega
 have hlen : (entryB p.names.length l p.at_).length = 1 + l.length + ((onB p.at_).length + 4) := by
  unfold entryB
  rw [List.length_append, hlA, List.length_append, List.length_append, length_two, length_two]
 rw [hlen] at hle
 rw [hlA] at hO
 rw [hlA] at hT
 have hc := hA.is
 rw [hlA] at hc
 have hh : behind s (12 + p.body.length) = behind s (12 + p.body.length + (1 + l.length)) := by
  rw [behind_next s _ (by omega) (by omega) (by omega), hb0]
  congr 1
  omega
 have key : ∃ e, whole s (12 + p.body.length) = some ((p.step l).last, e) ∧ e = 12 + p.body.length + (1 + l.length) + (onB p.at_).length := by
  by_cases h0 : p.names = []
  ·obtain ⟨ha, hl⟩ := h.first h0
   unfold onB at hO ⊢
   rw [if_pos ha] at hO ⊢
   have h8 := hO.at8 (k := 0) (b := 0) rfl
   rw [Nat.add_zero] at h8
   have hst : behind s (12 + p.body.length + (1 + l.length)) = 12 + p.body.length + (1 + l.length) := behind_stop s _ (fun hh => by rw [h8] at hh; exact absurd hh.2.1 (by decide))
   have hb := hh.trans hst
   refine ⟨_, whole_end (by rw [hb]; omega) (by rw [hb, h8]; rfl) |>.trans ?_, rfl⟩
   rw [hb, hc]
   show some _ = some _
   unfold PtS.step
   rw [hl]
   rfl
  ·obtain ⟨ha, hlt, e, hw⟩ := h.next h0
   unfold onB at hO ⊢
   rw [if_neg (by omega)] at hO ⊢
   have hat512 : p.at_ < 512 := by
    have : p.body.length ≤ (p.step l).body.length := by unfold PtS.step; simp
    omega
   have h8 := hO.at8 (k := 0) (b := UInt8.ofNat (192 + p.at_ / 256)) rfl
   have h9 := hO.at8 (k := 1) (b := UInt8.ofNat (p.at_ % 256)) rfl
   rw [u8n (by omega), Nat.add_zero] at h8
   rw [u8n (by omega)] at h9
   have hst : behind s (12 + p.body.length + (1 + l.length)) = 12 + p.body.length + (1 + l.length) := behind_stop s _ (fun hh => by omega)
   have hb := hh.trans hst
   have hle2 := hO.le
   simp only [List.length_cons, List.length_nil] at hle2
   have hp : ptr s (12 + p.body.length + (1 + l.length)) = p.at_ := by unfold ptr; rw [h8, h9]; omega
   refine ⟨_, whole_on (by rw [hb]; omega) (by rw [hb]; omega) (by rw [hb]; omega) (by rw [hb, hp]; exact hlt) |>.trans ?_, rfl⟩
   rw [hb, hp, hw, hc]
   rfl
 obtain ⟨e, hw, he⟩ := key
 have hnm : pName s (12 + p.body.length) = some (⟨(p.step l).last.toArray⟩, e) := by
  unfold pName
  rw [hw]
  simp only [Option.bind_some]
  rw [if_pos hn]
 have hq : pQ s (12 + p.body.length) = some (⟨⟨(p.step l).last.toArray⟩, (p.names.length : Int), 1⟩, 12 + (p.step l).body.length) := by
  unfold pQ
  have t1 := hT.left.num2 (n := (p.names.length : Int)) (by omega) (by omega)
  have t2 := hT.right.num2 (n := 1) (by decide) (by decide)
  rw [length_two] at t2
  rw [bind_some hnm, he, bind_some t1, bind_some t2]
  show some _ = some _
  have : 12 + p.body.length + (1 + l.length) + (onB p.at_).length + 2 + 2 = 12 + (p.step l).body.length := by
   unfold PtS.step
   dsimp only
   rw [List.length_append, hlen]
   omega
  rw [this]
 refine ⟨fun h => ?_, fun _ => ⟨by unfold PtS.step; dsimp only; omega, ?_, e, hw⟩, ?_⟩
 ·unfold PtS.step at h; simp at h
 ·unfold PtS.step
  dsimp only
  rw [List.length_append, hlen]
  omega
 ·have hl2 : (p.step l).names.length = p.names.length + 1 := by unfold PtS.step; simp
  rw [hl2]
  show ((pQ s).many p.names.length).bind _ 12 = _
  rw [bind_some h.many, bind_some hq]
  show some _ = some _
  have : (p.step l).names = p.names ++ [(p.step l).last] := rfl
  rw [this, qsOf_snoc]
def headB (n : Nat) : List UInt8 := [0, 5, 128, 0, 0, UInt8.ofNat n, 0, 0, 0, 0, 0, 0]
end Go.Trawl
namespace Go.Proofs.YtafoepfhepdcoaaGreat
open Go.RowKit Go.Trawl
attribute [local go_sem] buildKQ equalQ guardQ
def namesV (l : List (List UInt8)) : List Value := l.map fun n => .string (str n)
structure PM (w wr : World) (n : Nat) (p : PtS) (vb vw : Value) : Prop where
 below : Below w.heap.size w wr
 bytes : wr.ownsRow 0 5 1 vb (12 + p.body.length) (bytesV (headB 0 ++ p.body))
 names : wr.ownsRow 0 9 1 vw p.names.length (namesV p.names)
 blo : ∀ k, vb.ownBlock = some k → w.heap.size ≤ k
 wlo : ∀ k, vw.ownBlock = some k → w.heap.size ≤ k
 few : p.names.length ≤ 20 ∧ p.names.length ≤ n
 size : 12 + p.body.length ≤ 512
 last : p.last.length ≤ 255
 atl : p.at_ ≤ 12 + p.body.length
 reads : ∀ s, At s 12 p.body → Reads s p
theorem PM.next {w wr wr' : World} {n : Nat} {p : PtS} {vb vw : Value} (h : PM w wr n p vb vw) (hb : Below wr.heap.size wr wr') : PM w wr' n p vb vw :=
 { h with below := h.below.trans (hb.mono h.below.size), bytes := own_below h.bytes hb, names := own_below h.names hb }
structure PR (w W : World) (v vw : Value) (X : List UInt8) (nm : List (List UInt8)) : Prop where
 below : Below w.heap.size w W
 bytes : W.ownsRow 0 5 1 v X.length (bytesV X)
 names : W.ownsRow 0 9 1 vw nm.length (namesV nm)
 blo : ∀ k, v.ownBlock = some k → w.heap.size ≤ k
 wlo : ∀ k, vw.ownBlock = some k → w.heap.size ≤ k
theorem PR.next {w W W' : World} {v vw : Value} {X : List UInt8} {nm : List (List UInt8)} (h : PR w W v vw X nm) (hb : Below W.heap.size W W') : PR w W' v vw X nm :=
 { h with below := h.below.trans (hb.mono h.below.size), bytes := own_below h.bytes hb, names := own_below h.names hb }
theorem row_text {w : World} {a : Option Addr} {n c : Nat} {l : List (List UInt8)} (h : w.ownsRow 0 9 1 (.slice a n c) l.length (namesV l)) {k : Nat} {x : List UInt8} (hk : l[k]? = some x) : ∃ g, a = some ⟨g, 0, none⟩ ∧ w.cell? ⟨g, k, none⟩ = some (.string (str x)) := by
 rcases h.2 with ⟨_, h0⟩ | ⟨g, cap, cur, e, _⟩
 ·have : l = [] := List.eq_nil_of_length_eq_zero h0
  rw [this] at hk
  simp at hk
 ·cases e
  have := h.cells (g := g) rfl k (.string (str x)) (by unfold namesV; rw [List.getElem?_map, hk]; rfl)
  refine ⟨g, rfl, ?_⟩
  have e1 : (⟨g, 0, none⟩ : Addr).add k = ⟨g, k, none⟩ := by
   unfold Addr.add
   by_cases h : k = 0
   ·rw [h]; rfl
   ·rw [if_neg h]; simp
  rwa [e1] at this
end Go.Proofs.YtafoepfhepdcoaaGreat
namespace Go.Proofs.YtafoepfhepdcoaaGreat
open Go.RowKit Go.Trawl
theorem hI0 : (Tryz.prog.info? 69).map (fun i => (i.zero, i.size, i.bytes)) = some (some (.agg #[.string ⟨#[]⟩, .int .u16 0, .int .u16 0, .int .u32 0, .string ⟨#[]⟩]), 5, 40) := by kernel_rfl
theorem ba_beq (a b : ByteArray) : (a == b) = decide (a = b) := by
 cases a with | mk a => cases b with | mk b =>
 show (a == b) = _
 by_cases h : a = b
 ·subst h; simp
 ·have : (a == b) = false := by simpa using h
  rw [this]; symm; simpa using h
theorem toList_inj {a b : ByteArray} (h : a.toList = b.toList) : a = b := by
 rw [toList_eq, toList_eq] at h
 cases a with | mk a => cases b with | mk b =>
 exact congrArg ByteArray.mk (Array.toList_inj.mp h)
theorem tr_for {t : Tr} (h : TrOk t) (v : Value) {i : Nat} (hi : i < 12) : (trA t v)[24 + i]? = some (.int .i64 (t.for_.getD i 0)) := by
 have h1 := h.z
 have h2 := h.h
 have h3 := h.f
 have h4 := h.s
 have hl : (t.zone ++ t.has).length = 24 := by simp; omega
 unfold trA trL
 rw [List.getElem?_toArray, List.getElem?_append_left (by simp; omega), List.getElem?_map, List.getElem?_append_left (by simp; omega), List.getElem?_append_right (by omega), hl, Nat.add_sub_cancel_left, List.getElem?_eq_getElem (by omega), List.getD_eq_getElem?_getD, List.getElem?_eq_getElem (by omega)]
 rfl
def recsV (l : List Rc) : List Value := (l.map Rc.cells).flatten
structure HasAt (w wr : World) (v : Value) (l : List Rc) : Prop where
 own : wr.ownsRow 0 69 5 v l.length (recsV l)
 blk : ∀ g, v.ownBlock = some g → w.heap.size + 1 ≤ g
theorem HasAt.below {w w1 w2 : World} {v : Value} {l : List Rc} (h : HasAt w w1 v l) (hb : Below w1.heap.size w1 w2) : HasAt w w2 v l := ⟨own_below h.own hb, h.blk⟩
theorem recsV_snoc (l : List Rc) (r : Rc) : recsV (l ++ [r]) = recsV l ++ r.cells := by
 unfold recsV
 simp
theorem has_grow {w w1 w2 w3 : World} {v v' : Value} {l : List Rc} (h : HasAt w w2 v l) (hb : Below w1.heap.size w1 w2) (r : Rc) (hg : Grew 69 5 (w2.alloc (.cells r.cells.toArray 69)) w3 v v' (l.length + 1) (recsV l ++ r.cells)) (hw : w.heap.size + 1 ≤ w1.heap.size) :
  HasAt w w3 v' (l ++ [r]) ∧ Below (w.heap.size + 1) w1 w3 := by
 have hb1 := (Below.refl w2.heap.size w2).alloc (Nat.le_refl _) (.cells r.cells.toArray 69)
 have h2 := hb.size
 have hgb := hg.below (B := w.heap.size + 1) (by rw [alloc_size]; omega) h.blk
 refine ⟨⟨?_, hgb.2⟩, ((hb.mono hw).trans (hb1.mono (by omega))).trans hgb.1⟩
 rw [recsV_snoc, List.length_append]
 exact hg.own
theorem has_round {w wc : World} {v : Value} {t : Tr} {n : ByteArray} {k : Int} {i : Nat} {L : List Rc} (hs : (List.range (i + 1)).flatMap (hasI t n k) = L ++ hasI t n k i) (h : HasAt w wc v (L ++ hasA t n k i)) (hc : nm i ≠ n ∨ i = 0) : HasAt w wc v ((List.range (i + 1)).flatMap (hasI t n k)) := by
 rw [hs]
 unfold hasI
 rw [if_pos hc, List.append_nil]
 exact h
theorem has_round2 {w wc : World} {v : Value} {t : Tr} {n : ByteArray} {k : Int} {i : Nat} {L : List Rc} (hs : (List.range (i + 1)).flatMap (hasI t n k) = L ++ hasI t n k i) (h : HasAt w wc v (L ++ hasA t n k i ++ hasB t n k i ++ hasC t n k i)) (hc : nm i = n ∧ i ≠ 0) : HasAt w wc v ((List.range (i + 1)).flatMap (hasI t n k)) := by
 rw [hs]
 unfold hasI
 rw [if_neg (by rintro (e | e); exact e hc.1; exact hc.2 e)]
 simp only [List.append_assoc] at h ⊢
 exact h
theorem has_exit {w wc : World} {v : Value} {t : Tr} {n : ByteArray} {k : Int} {i j hN : Nat} {L : List Rc} (hh : hN = hasN t i) (h : HasAt w wc v (L ++ (List.range j).map fun j => hasJ n k i (j + 2))) (hj : j = 0 ∨ (j + 1 ≤ hN ∧ hN < 4 ∧ k = 1)) (hb : (decide (j + 2 ≤ hN) && decide (hN < 4) && decide (k = 1)) = false) : HasAt w wc v (L ++ hasB t n k i) := by
 have e : hasB t n k i = (List.range j).map fun j => hasJ n k i (j + 2) := by
  unfold hasB
  rw [← hh]
  by_cases hc : hN < 4 ∧ k = 1
  ·rw [if_pos hc]
   have : ¬ j + 2 ≤ hN := fun e => by simp [e, hc.1, hc.2] at hb
   congr 2
   omega
  ·rw [if_neg hc]
   have : j = 0 := by
    rcases hj with e | e
    ·exact e
    ·exact absurd e.2 hc
   subst this
   rfl
 rw [e]
 exact h
theorem has_none {w wc : World} {v : Value} {n : ByteArray} {k : Int} {i : Nat} {L : List Rc} (h : HasAt w wc v L) : HasAt w wc v (L ++ (List.range 0).map fun j => hasJ n k i (j + 2)) := by
 rw [List.range_zero, List.map_nil, List.append_nil]
 exact h
theorem has_more {n : ByteArray} {k : Int} {i j : Nat} {L : List Rc} : L ++ (List.range (j + 1)).map (fun j => hasJ n k i (j + 2)) = (L ++ (List.range j).map fun j => hasJ n k i (j + 2)) ++ [hasJ n k i (j + 2)] := by
 rw [List.range_succ, List.map_append, List.append_assoc]
 rfl
def pkW (A B D E : World) (a b c j : Nat) : World := if j < a then A else if j < b then B else if j < c then D else E
end Go.Proofs.YtafoepfhepdcoaaGreat
