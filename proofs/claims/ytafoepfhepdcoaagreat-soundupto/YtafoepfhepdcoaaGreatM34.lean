import Derived.Test.YtafoepfhepdcoaaGreatM28
import Derived.Test.YtafoepfhepdcoaaGreatM31
import Derived.Deep.CutRange
import Derived.Test.YtafoepfhepdcoaaGreatM32
import Derived.Test.YtafoepfhepdcoaaGreatM29
import Derived.Test.YtafoepfhepdcoaaGreatM18
import Derived.Test.YtafoepfhepdcoaaGreatM30
import Derived.Test.YtafoepfhepdcoaaGreatM33
set_option maxRecDepth 100000
set_option maxHeartbeats 8000000
namespace Go.Proofs.YtafoepfhepdcoaaGreat
open Go.RowKit Go.Trawl
def lbs : List (List UInt8) := [[], [97], [98], [99], [97, 97], [98, 97], [97, 98], [98, 98], [97, 97, 97], [97, 98, 97], [97, 97, 98], [97, 98, 98]]
theorem lbs_name (i : Nat) (hi : i < 12) : str (nameL (str (lbs.getD i []))) = nm i := by
 have h : ∀ j : Fin 12, nameL (str (lbs.getD j.val [])) = nmL.getD j.val [] := by decide
 have := h ⟨i, hi⟩
 unfold nm
 rw [← this]
theorem lbs_size (i : Nat) : (str (lbs.getD i [])).size ≤ 3 := by
 show (lbs.getD i []).length ≤ 3
 by_cases h : i < 12
 ·have : ∀ j : Fin 12, (lbs.getD j.val []).length ≤ 3 := by decide
  exact this ⟨i, h⟩
 ·rw [List.getD_eq_getElem?_getD, List.getElem?_eq_none (by show lbs.length ≤ i; have : lbs.length = 12 := rfl; omega)]
  simp
def lbC : Array Value := #[.string ⟨#[]⟩, .string ⟨#[97]⟩, .string ⟨#[98]⟩, .string ⟨#[99]⟩, .string ⟨#[97, 97]⟩, .string ⟨#[98, 97]⟩, .string ⟨#[97, 98]⟩, .string ⟨#[98, 98]⟩, .string ⟨#[97, 97, 97]⟩, .string ⟨#[97, 98, 97]⟩, .string ⟨#[97, 97, 98]⟩, .string ⟨#[97, 98, 98]⟩]
theorem lbC_at (i : Nat) (hi : i < 12) : lbC[i]? = some (.string (str (lbs.getD i []))) := by
 match i, hi with
 | 0, _ => rfl
 | 1, _ => rfl
 | 2, _ => rfl
 | 3, _ => rfl
 | 4, _ => rfl
 | 5, _ => rfl
 | 6, _ => rfl
 | 7, _ => rfl
 | 8, _ => rfl
 | 9, _ => rfl
 | 10, _ => rfl
 | 11, _ => rfl
theorem nI0 : (Tryz.prog.info? 9).map (fun i => (i.zero, i.size, i.bytes)) = some (some (.string ⟨#[]⟩), 1, 16) := by kernel_rfl
theorem nSs : Tryz.prog.underlying 39 = some (.slice 9) := by kernel_rfl
theorem one_t {x : ByteArray} : ∀ u ∈ [Value.string x], u.oneCell' = true := by
 intro u hu
 simp at hu
 subst hu
 rfl
theorem nmL_snoc (k : Nat) (hk : k < 12) : namesV (nmL.take (k + 1)) = namesV (nmL.take k) ++ [.string (nm k)] := by
 have : ∀ j : Fin 12, nmL.take (j.val + 1) = nmL.take j.val ++ [nmL.getD j.val []] := by decide
 rw [this ⟨k, hk⟩]
 unfold namesV nm
 rw [List.map_append]
 rfl
theorem nmL_at (k : Nat) (hk : k < 12) : nmL[k]? = some (nmL.getD k []) := by
 rw [List.getD_eq_getElem?_getD, List.getElem?_eq_getElem (by show k < nmL.length; have : nmL.length = 12 := rfl; omega)]
 rfl
theorem kNames_any (w : World) : Calls Tryz.prog 17 #[] w fun e w' => ∃ v, e = .returned v ∧ Hid (Below w.heap.size w w' ∧ NmAt w' v) := by
 obtain ⟨i1, hi1, hy0, hy1, hy2⟩ := info_parts nI0
 have HB1 := hide ((Below.refl w.heap.size w).alloc (Nat.le_refl _) (.cells lbC 9))
 have HL1 := hide (heap_new w (.cells lbC 9))
 have HS1 := hide (alloc_size w (.cells lbC 9))
 unfold lbC at HB1 HL1 HS1
 go_enter Tryz.func17, Tryz.ntmps17
 go_wp2_with fail
 generalize w.alloc _ = W1 at HB1 HL1 HS1 ⊢
 go_loopw [2, 3] (fun v vi wr => ∃ k : Nat, vi = .int .i64 k ∧ k ≤ 12 ∧ Hid (wr.ownsRow 0 9 1 v k (namesV (nmL.take k)) ∧ Below w.heap.size w wr ∧ (∀ g, v.ownBlock = some g → w.heap.size + 1 ≤ g) ∧ w.heap.size + 1 ≤ wr.heap.size ∧ wr.heap[w.heap.size]? = some (.cells lbC 9))) (fun _ vi _ => 12 - (intOf vi).toNat)
 case atStart => exact ⟨0, rfl, Nat.zero_le _, World.ownsRow_nil _ _ _ _, HB1.out, fun g hg => (by cases hg), Nat.le_of_eq HS1.out.symm, HL1.out⟩
 case round =>
  obtain ⟨k, rfl, hk, H⟩ := hrel
  by_cases hlt : k < 12
  ·have hc : wr.cell? ⟨w.heap.size, k, none⟩ = some (.string (str (lbs.getD k []))) := (box_cells H.out.2.2.2.2 k).trans (lbC_at k hlt)
   have hsz := lbs_size k
   go_wp2_with fail
   refine (kName_any wr (str (lbs.getD k [])) (by omega)).mono ?_
   rintro e w2 ⟨rfl, H2⟩
   rw [lbs_name k hlt]
   clear hc
   have HO := hide (own_below H.out.1 H2.out)
   have HSZ := hide (Nat.le_trans H.out.2.2.2.1 H2.out.size)
   have HB := hide (H.out.2.1.trans (H2.out.mono H.out.2.1.size))
   have HL := hide ((H2.out.block w.heap.size (by have := H.out.2.2.2.1; omega)).trans H.out.2.2.2.2)
   have HG := hide H.out.2.2.1
   clear H H2
   go_wp2_with (at_builtin; refine wpList_append_grew _ rfl _ _ 39 rfl 9 i1 (.string ⟨#[]⟩) 1 16 nSs hi1 hy0 hy1 hy2 rfl (by decide) _ k _ rfl ⟨w2.heap.size, 0, none⟩ 1 1 [.string (nm k)] rfl rfl one_t (HO.out.alloc _) (cells_new _ _ _) (by unfold maxLen; omega) (by omega) ?_; intro v' w' hg)
   have hb1 := (Below.refl w2.heap.size w2).alloc (Nat.le_refl _) (.cells #[.string (nm k)] 9)
   have hgb := hg.below (B := w.heap.size + 1) (by rw [alloc_size]; have := HSZ.out; omega) HG.out
   have hb2 := (hb1.mono HSZ.out).trans hgb.1
   refine ⟨⟨k + 1, by go_num, by omega, ?_, HB.out.trans (hb2.mono (Nat.le_succ _)), hgb.2, Nat.le_trans HSZ.out hb2.size, (hb2.block w.heap.size (by omega)).trans HL.out⟩, by simp [intOf]; omega⟩
   rw [nmL_snoc k hlt]
   exact hg.own
  ·have hk2 : k = 12 := by omega
   subst hk2
   go_wp2_with fail
   go_ret
   obtain ⟨a, c, rfl⟩ := own_slice H.out.1
   have ho : wr.ownsRow 0 9 1 (.slice a 12 c) nmL.length (namesV nmL) := H.out.1
   obtain ⟨g, rfl, _⟩ := row_text ho (nmL_at 0 (by omega))
   refine ⟨_, rfl, H.out.2.1, ⟨g, c, rfl, ?_, fun i hi => ?_⟩⟩
   ·exact Nat.lt_of_not_le fun hle => own_ne ho hle rfl
   ·obtain ⟨g', e', hc⟩ := row_text ho (nmL_at i hi)
    cases e'
    exact hc
def slN : Value → Nat
 | .slice _ n _ => n
 | _ => 0
structure Lk (w wr : World) (t : Tr) (v v8 v9 : Value) (all : List Rc) (seen : List ByteArray) : Prop where
 below : Below w.heap.size w wr
 names0 : NmAt w v
 tb : wr.heap[w.heap.size]? = some (.cells (trA t v) 49)
 all : HasAt w wr v8 all
 seen : wr.ownsRow 0 9 1 v9 seen.length (strV seen)
 sb : ∀ g, v9.ownBlock = some g → w.heap.size + 1 ≤ g
section
variable {w wr W : World} {t : Tr} {v v8 v9 v8' v9' : Value} {all : List Rc} {seen : List ByteArray}
theorem Lk.tr (h : Lk w wr t v v8 v9 all seen) : TrAt wr w.heap.size t v := ⟨h.tb, h.names0.below h.below⟩
theorem Lk.next (h : Lk w wr t v v8 v9 all seen) (hb : Below wr.heap.size wr W) : Lk w W t v v8 v9 all seen :=
 ⟨h.below.trans (hb.mono h.below.size), h.names0, (hb.block _ (heap_lt h.tb)).trans h.tb, h.all.below hb, own_below h.seen hb, h.sb⟩
theorem Lk.say (h : Lk w wr t v v8 v9 all seen) {n : ByteArray} (hg : Grew 9 1 (wr.alloc (.cells #[.string n] 9)) W v9 v9' (seen.length + 1) (strV seen ++ [.string n])) : Lk w W t v v8 v9' all (seen ++ [n]) := by
 have hb1 := (Below.refl wr.heap.size wr).alloc (Nat.le_refl _) (.cells #[.string n] 9)
 have hz := heap_lt h.tb
 have hgb := hg.below (B := w.heap.size + 1) (by rw [alloc_size]; omega) h.sb
 have h1 := h.next hb1
 have hb2 := (hb1.mono hz).trans hgb.1
 refine ⟨h.below.trans (hb2.mono (Nat.le_succ _)), h.names0, (hb2.block _ (Nat.lt_succ_self _)).trans h.tb, ⟨?_, h.all.blk⟩, ?_, hgb.2⟩
 ·cases hv : v9.ownBlock with
  | none => exact h1.all.own.kept (row := none) (by rw [← hv]; exact hg.grown) (by cases h2 : v8.ownBlock <;> simp)
  | some r => exact own_grown h1.all.own (by have := hg.grown; rw [hv] at this; exact this) (fun e => k_apart h1.all.own h1.seen (by decide) e hv)
 ·have : strV (seen ++ [n]) = strV seen ++ [.string n] := by unfold strV; simp
  rw [this, List.length_append]
  exact hg.own
theorem Lk.find (h : Lk w wr t v v8 v9 all seen) {r : Rc} (hg : Grew 69 5 (wr.alloc (.cells r.cells.toArray 69)) W v8 v8' (all.length + 1) (recsV all ++ r.cells)) : Lk w W t v v8' v9 (all ++ [r]) seen := by
 have hb1 := (Below.refl wr.heap.size wr).alloc (Nat.le_refl _) (.cells r.cells.toArray 69)
 have hz := heap_lt h.tb
 have h1 := h.next hb1
 have hG := has_grow h.all (Below.refl _ _) r hg hz
 refine ⟨h.below.trans (hG.2.mono (Nat.le_succ _)), h.names0, (hG.2.block _ (Nat.lt_succ_self _)).trans h.tb, hG.1, ?_, h.sb⟩
 cases hv : v8.ownBlock with
 | none => exact h1.seen.kept (row := none) (by rw [← hv]; exact hg.grown) (by cases h2 : v9.ownBlock <;> simp)
 | some r => exact own_grown h1.seen (by have := hg.grown; rw [hv] at this; exact this) (fun e => k_apart h1.seen h1.all.own (by decide) e hv)
theorem recsV_append (a b : List Rc) : recsV (a ++ b) = recsV a ++ recsV b := by unfold recsV; simp
theorem recsV_len (a : List Rc) : (recsV a).length = a.length * 5 := by
 induction a with
 | nil => rfl
 | cons x a ih =>
  unfold recsV at ih ⊢
  rw [List.map_cons, List.flatten_cons, List.length_append, ih, List.length_cons]
  show 5 + _ = _
  omega
theorem recsV_one (a : List Rc) : ∀ u ∈ recsV a, u.oneCell' = true := by
 intro u hu
 unfold recsV at hu
 obtain ⟨l, hl, hu⟩ := List.mem_flatten.1 hu
 obtain ⟨r, _, rfl⟩ := List.mem_map.1 hl
 exact (show ∀ u ∈ r.cells, u.oneCell' = true from one_r5) u hu
theorem Lk.more (h : Lk w wr t v v8 v9 all seen) {l : List Rc} (hg : Grew 69 5 wr W v8 v8' (all.length + l.length) (recsV all ++ recsV l)) : Below w.heap.size w W ∧ Lies W 5 v8' ((all ++ l).map Rc.cells) := by
 have hz := heap_lt h.tb
 have hgb := hg.below (B := w.heap.size + 1) (by omega) h.all.blk
 refine ⟨h.below.trans (hgb.1.mono (Nat.le_succ _)), own_lies (e := 69) (n := all.length + l.length) ?_ (fun x hx => by obtain ⟨r, _, rfl⟩ := List.mem_map.1 hx; rfl) (by rw [List.length_map, List.length_append])⟩
 have := hg.own
 rw [← recsV_append] at this
 exact this
theorem Lk.done (h : Lk w wr t v v8 v9 all seen) : Below w.heap.size w wr ∧ Lies wr 5 v8 (all.map Rc.cells) :=
 ⟨h.below, own_lies h.all.own (fun x hx => by obtain ⟨r, _, rfl⟩ := List.mem_map.1 hx; rfl) (by rw [List.length_map])⟩
theorem HasAt.first {w wr : World} {a : Option Addr} {n c : Nat} {r : Rc} {l : List Rc} (h : HasAt w wr (.slice a n c) (r :: l)) : ∃ g, a = some ⟨g, 0, none⟩ ∧ (∀ j u, r.cells[j]? = some u → wr.cell? ⟨g, j, none⟩ = some u) ∧ n = l.length + 1 := by
 have ho := h.own
 obtain ⟨a', c', e⟩ := own_slice ho
 cases e
 rcases ho.2 with ⟨e, h0⟩ | ⟨g, cap, cur, e, _⟩
 ·simp at h0
 ·cases e
  refine ⟨g, rfl, fun j u hj => ?_, rfl⟩
  have := ho.cells (g := g) rfl j u (by
   unfold recsV
   rw [List.map_cons, List.flatten_cons, List.getElem?_append_left (by have := List.getElem?_eq_some_iff.1 hj; exact this.1)]
   exact hj)
  have e : (⟨g, 0, none⟩ : Addr).add j = ⟨g, j, none⟩ := by
   unfold Addr.add
   by_cases h : j = 0
   ·rw [h]; rfl
   ·rw [if_neg h]; simp
  rw [e] at this
  exact this
end
theorem Lk.start {w : World} {t : Tr} {v : Value} (hv : NmAt w v) : Lk w (w.alloc (.cells (trA t v) 49)) t v (.slice none 0 0) (.slice none 0 0) [] [] :=
 ⟨(Below.refl _ _).alloc (Nat.le_refl _) _, hv, heap_new _ _, ⟨World.ownsRow_nil _ _ _ _, fun g hg => by cases hg⟩, World.ownsRow_nil _ _ _ _, fun g hg => by cases hg⟩
section
variable {t : Tr} {k : Int} {f : Nat} {seen : List ByteArray} {all : List Rc} {n : ByteArray} {x : Rc} {l : List Rc}
theorem lkd_in (h : n ∈ seen) : lkd t k (f + 1) seen all n = (2, []) := by
 unfold lkd
 rw [if_pos (any_mem.2 h)]
theorem lkd_has (h : n ∉ seen) (h1 : hasL t n k ≠ []) : lkd t k (f + 1) seen all n = (0, all ++ hasL t n k) := by
 unfold lkd
 rw [if_neg (fun e => h (any_mem.1 e)), if_pos h1]
theorem lkd_none (h : n ∉ seen) (h1 : hasL t n k = []) (h2 : hasL t n 5 = []) : lkd t k (f + 1) seen all n = (if thereB t n = true then 0 else 3, all) := by
 unfold lkd
 rw [if_neg (fun e => h (any_mem.1 e)), if_neg (fun e => e h1), h2]
theorem lkd_full (h : n ∉ seen) (h1 : hasL t n k = []) (h2 : hasL t n 5 = x :: l) (h3 : 10 ≤ all.length) : lkd t k (f + 1) seen all n = (2, []) := by
 unfold lkd
 rw [if_neg (fun e => h (any_mem.1 e)), if_neg (fun e => e h1), h2]
 dsimp only
 rw [if_pos h3]
theorem lkd_next (h : n ∉ seen) (h1 : hasL t n k = []) (h2 : hasL t n 5 = x :: l) (h3 : ¬ 10 ≤ all.length) : lkd t k (f + 1) seen all n = lkd t k f (seen ++ [n]) (all ++ [x]) x.data := by
 conv => lhs; unfold lkd
 rw [if_neg (fun e => h (any_mem.1 e)), if_neg (fun e => e h1), h2]
 dsimp only
 rw [if_neg h3]
end
theorem kLooked_any (w : World) (t : Tr) (v : Value) (x : Nat) (k : Int) (ht : TrOk t) (hv : NmAt w v) (hx : x < 36) :
  Calls Tryz.prog 25 #[.agg (trA t v), .string (nn x), .int .u16 k] w fun e w' => ∃ a c, e = .returned (.tuple #[.int .i64 (lkd t k 12 [] [] (nn x)).1, .slice a (lkd t k 12 [] [] (nn x)).2.length c]) ∧ Hid (Below w.heap.size w w' ∧ Lies w' 5 (.slice a (lkd t k 12 [] [] (nn x)).2.length c) ((lkd t k 12 [] [] (nn x)).2.map Rc.cells)) := by
 have HT := hide ht
 have HL1 := hide (Lk.start (t := t) hv)
 obtain ⟨g, c, rfl, -, -⟩ := hv.is
 obtain ⟨iR, hiR, hr0, hr1, hr2⟩ := info_parts hI0
 obtain ⟨iS, hiS, hs0, hs1, hs2⟩ := info_parts nI0
 generalize hW : lkd t k 12 [] [] (nn x) = R
 have HR := hide hW
 clear hW hv ht
 go_enter Tryz.func25, Tryz.ntmps25
 go_wp2_with fail
 generalize w.alloc _ = W1 at HL1 ⊢
 go_loopw [1, 8, 9] (fun vn v8 v9 wr => ∃ (y f : Nat) (all : List Rc) (seen : List ByteArray), vn = .string (nn y) ∧ y < 36 ∧ f + all.length = 12 ∧ all.length ≤ 10 ∧ seen.length = all.length ∧ Hid (lkd t k f seen all (nn y) = R) ∧ Hid (Lk w wr t (.slice (some ⟨g, 0, none⟩) 12 c) v8 v9 all seen)) (fun _ v8 _ _ => 12 - slN v8)
 case atStart => exact ⟨x, 12, [], [], rfl, hx, rfl, by simp, rfl, HR.out, HL1.out⟩
 case round =>
  obtain ⟨y, f, all, seen, rfl, hy, hf, hal, hsl, HLK, HL⟩ := hrel
  clear HL1
  obtain ⟨a8, c8, rfl⟩ := own_slice HL.out.all.own
  obtain ⟨a9, c9, rfl⟩ := own_slice HL.out.seen
  obtain ⟨f', rfl⟩ : ∃ f', f = f' + 2 := ⟨f - 2, by omega⟩
  have HSL := hide hsl
  have hs10 : seen.length ≤ 10 := by omega
  clear hsl
  have hny := nn_size hy
  go_wp2_with fail
  go_loopw [10] (fun vi wr => ∃ i : Nat, vi = .int .i64 i ∧ i ≤ seen.length ∧ Hid (∀ s ∈ seen.take i, s ≠ nn y) ∧ Hid (Lk w wr t (.slice (some ⟨g, 0, none⟩) 12 c) (.slice a8 all.length c8) (.slice a9 seen.length c9) all seen)) (fun vi _ => seen.length - (intOf vi).toNat)
  case atStart => exact ⟨0, rfl, Nat.zero_le _, by unfold Hid; simp, HL.out⟩
  case round =>
   obtain ⟨i, rfl, hi, HNO, HL2⟩ := hrel
   clear HL
   by_cases hlt : i < seen.length
   ·obtain ⟨s, hs⟩ : ∃ s, seen[i]? = some s := ⟨_, List.getElem?_eq_getElem hlt⟩
    obtain ⟨g9, e9, hc9⟩ := seen_at HL2.out.seen hs
    subst e9
    have HMS := hide (List.mem_of_getElem? hs)
    have HTK : Hid (seen.take (i + 1) = seen.take i ++ [s]) := by
     unfold Hid
     rw [List.take_add_one, hs]
     rfl
    clear hs
    by_cases hsn : s = nn y
    ·subst hsn
     have HRR : Hid (R = (2, [])) := HLK.out.symm.trans (lkd_in HMS.out)
     go_wp2_with fail
     go_ret2
     exact ⟨none, 0, by rw [HRR.out]; rfl, HL2.out.below, by rw [HRR.out]; exact liesNil _ _⟩
    ·have hsn' : (s == nn y) = false := by rw [ba_beq]; exact decide_eq_false hsn
     go_wp2_with fail
     all_goals first
      | (exfalso; exact hsn (toList_inj (a := s) (b := nn y) (eq_of_beq (by assumption))))
      | skip
     refine ⟨⟨i + 1, by go_num, by omega, ?_, HL2⟩, by simp [intOf]; omega⟩
     unfold Hid
     rw [HTK.out]
     intro z hz
     rcases List.mem_append.1 hz with hz | hz
     ·exact HNO.out z hz
     ·rw [List.mem_singleton.1 hz]; exact hsn
   ·have hie : i = seen.length := by omega
    subst hie
    have HNI : Hid (nn y ∉ seen) := fun e => HNO.out (nn y) (by rw [List.take_length]; exact e) rfl
    clear HNO
    go_upto_region 9 with (at_builtin; refine wpList_append_grew _ rfl _ _ 39 rfl 9 iS (.string ⟨#[]⟩) 1 16 nSs hiS hs0 hs1 hs2 rfl (by decide) _ seen.length (strV seen) rfl ⟨wr.heap.size, 0, none⟩ 1 1 [.string (nn y)] rfl rfl one_t (HL2.out.seen.alloc _) (cells_new _ _ _) (by unfold maxLen; omega) (by omega) ?_; intro v9 w9 hg; have HL3 := hide (HL2.out.say hg); clear hg)
    obtain ⟨a9', c9', rfl⟩ := own_slice HL3.out.seen
    go_upto_region 10 with (refine wpList_load_cells _ rfl 49 _ rfl ⟨w.heap.size, 0, none⟩ rfl (trA t (.slice (some ⟨g, 0, none⟩) 12 c)) _ undTr rfl (trI' HT.out _) HL3.out.tr.all ?_)
    refine (kHas_any w9 t _ (nn y) k HT.out HL3.out.tr.names (by omega)).mono ?_
    rintro e w10 ⟨v11, rfl, H10⟩
    have HL4 := hide (HL3.out.next H10.out.1)
    have HH := hide H10.out.2
    clear H10 HL3 HL2
    obtain ⟨a11, c11, rfl⟩ := own_slice HH.out.own
    have hfew := has_few (t := t) (k := k) hy
    by_cases hne : hasL t (nn y) k = []
    ·rw [hne]
     simp only [List.length_nil]
     go_upto_region 13 with (refine wpList_load_cells _ rfl 49 _ rfl ⟨w.heap.size, 0, none⟩ rfl (trA t (.slice (some ⟨g, 0, none⟩) 12 c)) _ undTr rfl (trI' HT.out _) HL4.out.tr.all ?_)
     refine (kHas_any w10 t _ (nn y) 5 HT.out HL4.out.tr.names (by omega)).mono ?_
     rintro e w12 ⟨v12, rfl, H12⟩
     have HL5 := hide (HL4.out.next H12.out.1)
     have HH5 := hide H12.out.2
     have HAP : Hid (∀ r, (Value.slice a8 all.length c8).ownBlock = some r → r < w10.heap.size) := fun r hr => (HL4.out.all.own.lt r hr).2
     clear H12 HL4 HH
     obtain ⟨a12, c12, rfl⟩ := own_slice HH5.out.own
     cases h5 : hasL t (nn y) 5 with
     | nil =>
      simp only [List.length_nil]
      go_upto_region 15 with (refine wpList_load_cells _ rfl 49 _ rfl ⟨w.heap.size, 0, none⟩ rfl (trA t (.slice (some ⟨g, 0, none⟩) 12 c)) _ undTr rfl (trI' HT.out _) HL5.out.tr.all ?_)
      refine (kThere_any w12 t _ (nn y) HT.out HL5.out.tr.names (by omega)).mono ?_
      rintro e w13 ⟨rfl, H13⟩
      have HL6 := hide (HL5.out.next H13.out)
      have HRR : Hid (R = (if thereB t (nn y) = true then 0 else 3, all)) := HLK.out.symm.trans (lkd_none HNI.out hne h5)
      clear H13 HL5 HH5
      cases hth : thereB t (nn y) with
      | true =>
       rw [hth, if_pos rfl] at HRR
       go_wp2_with fail
       go_ret2
       exact ⟨a8, c8, by rw [HRR.out]; rfl, HL6.out.below, by rw [HRR.out]; exact HL6.out.done.2⟩
      | false =>
       rw [hth, if_neg (by decide)] at HRR
       go_wp2_with fail
       go_ret2
       exact ⟨a8, c8, by rw [HRR.out]; rfl, HL6.out.below, by rw [HRR.out]; exact HL6.out.done.2⟩
     | cons r rs =>
      rw [h5] at HH5
      have hrl : (r :: rs).length = rs.length + 1 := rfl
      obtain ⟨g12, e12, hcs, -⟩ := HH5.out.first
      subst e12
      have hmr : r ∈ hasL t (nn y) 5 := by rw [h5]; simp
      have hfew5 := has_few (t := t) (k := 5) hy
      rw [h5] at hfew5
      obtain ⟨-, s2, -⟩ := has_sm hy (by decide) (by decide) (by decide) hmr
      obtain ⟨j, hj, hrj⟩ := s2 rfl
      have HRJ := hide hrj
      clear hrj s2
      by_cases h10 : 10 ≤ all.length
      ·have HRR : Hid (R = (2, [])) := HLK.out.symm.trans (lkd_full HNI.out hne h5 h10)
       have h10' : (10 : Int) ≤ (all.length : Int) := by omega
       clear hcs h5
       go_wp2_with fail
       go_ret2
       exact ⟨none, 0, by rw [HRR.out]; rfl, HL5.out.below, by rw [HRR.out]; exact liesNil _ _⟩
      ·have HLN := hide (HLK.out.symm.trans (lkd_next HNI.out hne h5 h10))
       have h10' : ¬ (10 : Int) ≤ (all.length : Int) := by omega
       have c0 := hcs 0 _ rfl
       have c1 := hcs 1 _ rfl
       have c2 := hcs 2 _ rfl
       have c3 := hcs 3 _ rfl
       have c4 := hcs 4 _ rfl
       have hg12 : w10.heap.size + 1 ≤ g12 := HH5.out.blk g12 rfl
       have hl12 : g12 < w12.heap.size := cellk_lt c0
       clear hcs h5
       go_upto_region 21 with (at_builtin; refine wpList_append_grew _ rfl _ _ 28 rfl 69 iR _ 5 40 uRs hiR hr0 hr1 hr2 rfl (by decide) _ all.length (recsV all) rfl ⟨w12.heap.size, 0, none⟩ 1 1 r.cells rfl rfl one_r5 (HL5.out.all.own.alloc _) (cells_new w12 r.cells.toArray _) (by unfold maxLen; omega) (by omega) ?_; intro v8 w14 hg; have HG := hide hg; have HL6 := hide (HL5.out.find hg); clear hg)
       have hc4 : w14.cell? ⟨g12, 4, none⟩ = some (.string r.data) := by
        have hk : (w12.alloc (.cells r.cells.toArray 69)).heap[g12]? = w12.heap[g12]? := ((Below.refl w12.heap.size w12).alloc (Nat.le_refl _) (.cells r.cells.toArray 69)).block g12 hl12
        refine cell_of_heap ((HG.out.grown.block g12 (by rw [alloc_size]; omega) (fun e => ?_)).trans hk) c4
        have := HAP.out g12 (Eq.symm e)
        omega
       rw [HRJ.out] at hc4 HLN
       clear c0 c1 c2 c3 c4 HG HL5 HH5
       obtain ⟨a8', c8', rfl⟩ := own_slice HL6.out.all.own
       go_wp2_with fail
       exact ⟨⟨j, f' + 1, all ++ [r], seen ++ [nn y], rfl, by omega, by simp; omega, by simp; omega, by simp [HSL.out], HLN.out.symm, by unfold Hid; simpa using HL6.out⟩, by simp [slN]; omega⟩
    ·cases hL : hasL t (nn y) k with
     | nil => exact absurd hL hne
     | cons r rs =>
      have HRR := hide (HLK.out.symm.trans (lkd_has HNI.out hne))
      rw [hL] at HH HRR hfew
      have hLpos : ¬ (r :: rs).length = 0 := by simp
      obtain ⟨g11, e11, -, -⟩ := HH.out.first
      subst e11
      clear hL hne
      generalize r :: rs = L at HH HRR hfew hLpos ⊢
      go_wp2_with (at_builtin; refine wpList_append_grew _ rfl _ _ 28 rfl 69 iR _ 5 40 uRs hiR hr0 hr1 hr2 rfl (by decide) _ all.length (recsV all) rfl ⟨g11, 0, none⟩ L.length c11 (recsV L) rfl (recsV_len L) (recsV_one L) HL4.out.all.own (fun j u hj => HH.out.own.cells rfl j u hj) (by unfold maxLen; omega) (by omega) ?_; intro v8 w14 hg; have HG := hide hg; clear hg)
      have hmo := HL4.out.more HG.out
      obtain ⟨a8', c8', rfl⟩ := own_slice HG.out.own
      go_ret2
      exact ⟨a8', c8', by rw [HRR.out, List.length_append]; rfl, hmo.1, by rw [HRR.out, List.length_append]; exact hmo.2⟩
def t48 (t : Tr) : Array Value := ((t.zone ++ t.has ++ t.for_ ++ t.server).map (fun x => Value.int .i64 x)).toArray
theorem t48_size {t : Tr} (h : TrOk t) : (t48 t).size = 48 := by
 have h1 := h.z
 have h2 := h.h
 have h3 := h.f
 have h4 := h.s
 unfold t48
 simp
 omega
theorem und45 : Tryz.prog.underlying 45 = some (.struct (Tryz.prog.fieldsOf 45)) := by kernel_rfl
theorem i45 : (Tryz.prog.info? 45).map (·.size) = some 48 := by kernel_rfl
theorem i45' {t : Tr} (h : TrOk t) : (Tryz.prog.info? 45).map (·.size) = some (t48 t).size := by rw [i45, t48_size h]
theorem t48_all {w : World} {X : Nat} {t : Tr} (h : w.heap[X]? = some (.cells (t48 t) 45)) : ∀ j u, (t48 t).toList[j]? = some u → w.cell? ((⟨X, 0, none⟩ : Addr).add j) = some u := by
 intro j u hj
 have e1 : (⟨X, 0, none⟩ : Addr).add j = ⟨X, j, none⟩ := by
  unfold Addr.add
  by_cases h : j = 0
  ·rw [h]; rfl
  ·rw [if_neg h]; simp
 rw [e1, box_cells h j]
 simpa using hj
theorem list12 {l : List Int} (h : l.length = 12) : ∃ a0 a1 a2 a3 a4 a5 a6 a7 a8 a9 a10 a11, l = [a0, a1, a2, a3, a4, a5, a6, a7, a8, a9, a10, a11] := by
 match l, h with
 | [a0, a1, a2, a3, a4, a5, a6, a7, a8, a9, a10, a11], _ => exact ⟨a0, a1, a2, a3, a4, a5, a6, a7, a8, a9, a10, a11, rfl⟩
theorem builtTr {t : Tr} (h : TrOk t) (a : Option Addr) (n c : Nat) : Tryz.prog.built 49 [(0, .agg (t48 t)), (1, .slice a n c)] = some (trA t (.slice a n c)) := by
 obtain ⟨z, hs, f, s⟩ := t
 obtain ⟨a0, a1, a2, a3, a4, a5, a6, a7, a8, a9, a10, a11, rfl⟩ := list12 h.z
 obtain ⟨b0, b1, b2, b3, b4, b5, b6, b7, b8, b9, b10, b11, rfl⟩ := list12 h.h
 obtain ⟨c0, c1, c2, c3, c4, c5, c6, c7, c8, c9, c10, c11, rfl⟩ := list12 h.f
 obtain ⟨d0, d1, d2, d3, d4, d5, d6, d7, d8, d9, d10, d11, rfl⟩ := list12 h.s
 kernel_rfl
theorem trA_one (t : Tr) (a : Option Addr) (n c : Nat) : (trA t (.slice a n c)).all (·.oneCell') = true := by
 unfold trA trL
 rw [List.all_toArray, List.all_append, Bool.and_eq_true, List.all_map]
 refine ⟨?_, rfl⟩
 rw [List.all_eq_true]
 intro x _
 rfl
def yy (y : Nat) : ByteArray := str ([1, 121] ++ nnL y)
theorem yy_name {y : Nat} (h : y < 36) : nameB (yy y) = true := (by decide +kernel : ∀ y : Fin 36, nameB (yy y.val) = true) ⟨y, h⟩
theorem yy_size {y : Nat} (h : y < 36) : (yy y).size ≤ 11 := (by decide +kernel : ∀ y : Fin 36, (yy y.val).size ≤ 11) ⟨y, h⟩
theorem yy_not {y : Nat} (h : y < 36) : sameB (yy y) (nn y) = false := (by decide +kernel : ∀ y : Fin 36, sameB (yy y.val) (nn y.val) = false) ⟨y, h⟩
theorem wf_small {m : Msg} {n : ByteArray} {k : Int} (hq : m.qs = [⟨n, k, 1⟩]) (hz : n.size ≤ 20) (k0 : 0 ≤ k) (k1 : k ≤ 65535) (hi : 0 ≤ m.id ∧ m.id ≤ 65535) (ho : 0 ≤ m.op ∧ m.op ≤ 15) (hc : 0 ≤ m.code ∧ m.code ≤ 15) (hr : ∀ r ∈ recs m, SmR r) (hl : (recs m).length ≤ 13) : WfM m := by
 unfold recs at hl
 rw [List.length_append, List.length_append] at hl
 refine ⟨hi.1, hi.2, by omega, by omega, by omega, by omega, by rw [hq]; simp, by omega, by omega, by omega, fun q h => ?_, fun r h => ?_⟩
 ·rw [hq, List.mem_singleton] at h
  subst h
  exact ⟨by show n.size ≤ _; omega, k0, k1, by simp, by simp⟩
 ·have := hr r h
  have h1 := this.size
  have h2 := this.data
  exact ⟨by omega, by omega, this.k0, this.k1, this.c0, this.c1, this.t0, this.t1⟩
structure Smm (m : Msg) : Prop where
 wf : WfM m
 un : unpack (str (packL m)) = some m
 ne : packL m ≠ []
 len : (packL m).length ≤ 512
theorem smm {m : Msg} {n : ByteArray} {k : Int} (hq : m.qs = [⟨n, k, 1⟩]) (hn : nameB n = true) (hz : n.size ≤ 20) (k0 : 0 ≤ k) (k1 : k ≤ 65535) (hi : 0 ≤ m.id ∧ m.id ≤ 65535) (ho : 0 ≤ m.op ∧ m.op ≤ 15) (hc : 0 ≤ m.code ∧ m.code ≤ 15) (hr : ∀ r ∈ recs m, SmR r) (hl : (recs m).length ≤ 13) : Smm m := by
 obtain ⟨e, hu⟩ := un_small hq hn hz k0 k1 hi ho hc hr hl
 obtain ⟨h1, h2⟩ := few m e
 exact ⟨wf_small hq hz k0 k1 hi ho hc hr hl, hu, h1, h2⟩
structure SayF (st : RSt) (tt : Int) (y : Nat) (kc : Int) (A : Msg) : Prop where
 id : A.id = st.id
 qs : A.qs = [⟨nn y, kc, 1⟩]
 s0 : Smm A
 s1 : Smm { A with id := (st.id + 1) % 65536 }
 s2 : Smm { A with qs := [⟨yy y, kc, 1⟩] }
 n0 : heardS st (tt + 1) (str (packL A)) = (st, stepV 0 0 ⟨#[]⟩, 0)
 n1 : heardS st tt (str (packL { A with id := (st.id + 1) % 65536 })) = (st, stepV 0 0 ⟨#[]⟩, 0)
 n2 : heardS st tt (str (packL { A with qs := [⟨yy y, kc, 1⟩] })) = (st, stepV 0 0 ⟨#[]⟩, 0)
 no : ∀ s, unpack s = none → heardS st tt s = (st, stepV 0 0 ⟨#[]⟩, 0)
theorem say_f {t : Tr} {k : Int} {x0 i : Nat} {st : RSt} (h : Snd t k x0 i st) (k0 : 0 ≤ k) (k1 : k ≤ 65535) (k2 : k ≠ 2) {r : List Ch} {c : Ch} (hl : st.l = r ++ [c]) {host y : Nat} (ht : st.to = hostA host) (hy : y < 36) (hn : c.name = nn y) (hkc : c.kind = k ∨ c.kind = 1) :
  SayF st st.to y c.kind (sayM t host (askM st.id c) (nn y) c.kind) ∧ heardS st st.to (str (packL (sayM t host (askM st.id c) (nn y) c.kind))) = ((followsP st r c (sayM t host (askM st.id c) (nn y) c.kind)).1, (followsP st r c (sayM t host (askM st.id c) (nn y) c.kind)).2, 0) ∧
  (∀ k' t' l, (followsP st r c (sayM t host (askM st.id c) (nn y) c.kind)).2 = stepV k' t' (str l) → Snds t k x0 (i + 1) (followsP st r c (sayM t host (askM st.id c) (nn y) c.kind)).1 k' t' l) := by
 have c0 : 0 ≤ c.kind := by rcases hkc with e | e <;> omega
 have c1 : c.kind ≤ 65535 := by rcases hkc with e | e <;> omega
 have c2 : c.kind ≠ 2 := by rcases hkc with e | e <;> omega
 have i0 := h.live.base.id0
 have i1 := h.live.base.id1
 have hm : askM st.id c = ⟨st.id, false, 0, false, false, false, false, 0, [⟨nn y, c.kind, 1⟩], [], [], []⟩ := by unfold askM; rw [hn]
 obtain ⟨e1, e2, e3, e4, e5, e6, e7⟩ := say_small (t := t) (server := host) hy c0 c1 c2 (askM st.id c) hm
 have hfo := snd_follows h k0 k1 k2 hl ht (askM st.id c) rfl
 rw [hn] at hfo
 generalize hA : sayM t host (askM st.id c) (nn y) c.kind = A at e1 e2 e3 e4 e5 e6 e7 hfo
 have hnz := nn_size hy
 have hyz := yy_size hy
 have s0 : Smm A := smm e4 (nn_name hy) (by omega) c0 c1 ⟨by omega, by omega⟩ ⟨by omega, by omega⟩ e5 e6 e7
 have s1 : Smm { A with id := (st.id + 1) % 65536 } := smm (n := nn y) (k := c.kind) e4 (nn_name hy) (by omega) c0 c1 ⟨by show 0 ≤ (st.id + 1) % 65536; omega, by show (st.id + 1) % 65536 ≤ 65535; omega⟩ ⟨by show 0 ≤ A.op; omega, by show A.op ≤ 15; omega⟩ e5 e6 e7
 have s2 : Smm { A with qs := [⟨yy y, c.kind, 1⟩] } := smm (n := yy y) (k := c.kind) rfl (yy_name hy) (by omega) c0 c1 ⟨by show 0 ≤ A.id; omega, by show A.id ≤ 65535; omega⟩ ⟨by show 0 ≤ A.op; omega, by show A.op ≤ 15; omega⟩ e5 e6 e7
 have hsame : sameB (nn y) (nn y) = true := by rw [nn_same hy hy]; exact decide_eq_true rfl
 have hfit : fitsP st c st.to A = true := by
  unfold fitsP
  rw [e2, e1, e4]
  dsimp only
  rw [hn, hsame]
  simp
 refine ⟨⟨e1, e4, s0, s1, s2, ?_, ?_, ?_, ?_⟩, heardS_fit h.busy hl s0.un hfit, fun k' t' l hv => ?_⟩
 ·refine heardS_none h.busy hl fun m hu => ?_
  rw [s0.un] at hu
  cases hu
  unfold fitsP
  rw [e4]
  dsimp only
  rw [decide_eq_false (show ¬ st.to + 1 = st.to by omega)]
  simp
 ·refine heardS_none h.busy hl fun m hu => ?_
  rw [s1.un] at hu
  cases hu
  unfold fitsP
  dsimp only
  rw [decide_eq_false (show ¬ (st.id + 1) % 65536 = st.id by omega)]
  simp
 ·refine heardS_none h.busy hl fun m hu => ?_
  rw [s2.un] at hu
  cases hu
  unfold fitsP
  dsimp only
  rw [hn, yy_not hy]
  simp
 ·exact fun s hs => heardS_none h.busy hl fun m hu => by rw [hs] at hu; cases hu
 ·refine hfo ?_ hv
  have hg := unpack_got s0.un
  obtain ⟨r', c', er, hs⟩ := h.live.last
  have e2' : r' = r ∧ c' = c := by
   rw [hl] at er
   obtain ⟨a1, a2⟩ := List.append_inj' er rfl
   exact ⟨a1.symm, by simpa using a2.symm⟩
  rw [e2'.2] at hs
  exact comes_follows h.live h.busy hl hs hg
theorem Snds.parts {t : Tr} {k : Int} {x0 i : Nat} {st : RSt} {kk tt : Int} {l : List UInt8} (h : Snds t k x0 i st kk tt l) : (kk = 1 ∧ tt = st.to ∧ Snd t k x0 i st ∧ ∃ r c, st.l = r ++ [c] ∧ l = packL (askM st.id c)) ∨ (kk = 2 ∧ Ovr t k x0 st l) := by
 cases h with
 | sent h s => exact .inl ⟨rfl, rfl, h, s⟩
 | over hi h => exact .inr ⟨rfl, h⟩
theorem Ovr.un {t : Tr} {k : Int} {x0 : Nat} {st : RSt} {l : List UInt8} (h : Ovr t k x0 st l) (hx : x0 < 24) (k0 : 0 ≤ k) (k1 : k ≤ 65535) : l ≠ [] ∧ l.length ≤ 512 ∧ unpack (str l) = some ⟨9, true, 0, false, false, true, true, (lkd t k 12 [] [] (nn x0)).1, [⟨nn x0, k, 1⟩], (lkd t k 12 [] [] (nn x0)).2, [], []⟩ ∧ (lkd t k 12 [] [] (nn x0)).2.length ≤ 13 := by
 obtain ⟨code, an, e, hl, hs, hn, c0, c3⟩ := h.says
 rw [e]
 have hz := nn_size (show x0 < 36 by omega)
 have hS : Smm (asReply ⟨9, false, 0, false, false, true, true, code, [⟨nn x0, k, 1⟩], an, [], []⟩) := smm (n := nn x0) (k := k) rfl (nn_name (by omega)) (by omega) k0 k1 ⟨by show (0 : Int) ≤ 9; omega, by show (9 : Int) ≤ 65535; omega⟩ ⟨by show (0 : Int) ≤ 0; omega, by show (0 : Int) ≤ 15; omega⟩ ⟨c0, by show code ≤ 15; omega⟩ (fun r hr => hs r (by simpa [recs, asReply] using hr)) (by simpa [recs, asReply] using hn)
 have hok : packOk (asReply ⟨9, false, 0, false, false, true, true, code, [⟨nn x0, k, 1⟩], an, [], []⟩) = true := pack_small (n := nn x0) (k := k) rfl (nn_name (by omega)) (by omega) ⟨by show (0 : Int) ≤ 0; omega, by show (0 : Int) ≤ 15; omega⟩ ⟨c0, by show code ≤ 15; omega⟩ (fun r hr => hs r (by simpa [recs, asReply] using hr)) (by simpa [recs, asReply] using hn)
 have e2 : l = packL (asReply ⟨9, false, 0, false, false, true, true, code, [⟨nn x0, k, 1⟩], an, [], []⟩) := by
  rw [hl]
  unfold replyL
  rw [if_pos hok]
 rw [e2]
 exact ⟨hS.ne, hS.len, hS.un, hn⟩
end Go.Proofs.YtafoepfhepdcoaaGreat
