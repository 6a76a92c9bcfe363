import Derived.Test.YtafoepfhepdcoaaGreatM27
import Derived.Test.YtafoepfhepdcoaaGreatM11
import Derived.Lib.QuietBelow
import Derived.Deep.CutRange
import Derived.Test.YtafoepfhepdcoaaGreatM1
set_option maxRecDepth 100000
set_option maxHeartbeats 8000000
namespace Go.Proofs.YtafoepfhepdcoaaGreat
open Go.RowKit Go.Trawl
def nmL : List (List UInt8) := [[0], [1, 97, 0], [1, 98, 0], [1, 99, 0], [1, 97, 1, 97, 0], [1, 98, 1, 97, 0], [1, 97, 1, 98, 0], [1, 98, 1, 98, 0], [1, 97, 1, 97, 1, 97, 0], [1, 97, 1, 98, 1, 97, 0], [1, 97, 1, 97, 1, 98, 0], [1, 97, 1, 98, 1, 98, 0]]
def nm (i : Nat) : ByteArray := str (nmL.getD i [])
def hostN (t : Tr) (i : Nat) : Nat :=
 if i = 0 then 0
 else if pkN (t.server.getD i 0) 5 < 1 ∨ 3 < pkN (t.server.getD i 0) 5 ∨ pkN (t.server.getD i 0) 5 = i then i
 else if zoneB t (pkN (t.server.getD i 0) 5) = false ∨ (1 ≤ pkN (t.server.getD (pkN (t.server.getD i 0) 5) 0) 5 ∧ pkN (t.server.getD (pkN (t.server.getD i 0) 5) 0) 5 ≤ 3 ∧ pkN (t.server.getD (pkN (t.server.getD i 0) 5) 0) 5 ≠ pkN (t.server.getD i 0) 5) ∨ liesS (nm (pkN (t.server.getD i 0) 5)) (nm i) = true then i
 else pkN (t.server.getD i 0) 5
theorem nm_size (i : Nat) : (nm i).size ≤ 7 := by
 unfold nm
 show (nmL.getD i []).length ≤ 7
 by_cases h : i < 12
 ·have : ∀ j : Fin 12, (nmL.getD j.val []).length ≤ 7 := by decide
  exact this ⟨i, h⟩
 ·rw [List.getD_eq_getElem?_getD, List.getElem?_eq_none (by show nmL.length ≤ i; have : nmL.length = 12 := rfl; omega)]
  simp
structure NmAt (w : World) (v : Value) : Prop where
 is : ∃ g c, v = .slice (some ⟨g, 0, none⟩) 12 c ∧ g < w.heap.size ∧ ∀ i, i < 12 → w.cell? ⟨g, i, none⟩ = some (.string (nm i))
theorem NmAt.below {w w' : World} {v : Value} (h : NmAt w v) (hb : Below w.heap.size w w') : NmAt w' v := by
 obtain ⟨g, c, e, hg, hc⟩ := h.is
 exact ⟨g, c, e, Nat.lt_of_lt_of_le hg hb.size, fun i hi => cell_of_heap (hb.block g hg) (hc i hi)⟩
theorem tr_len {t : Tr} (h : TrOk t) (v : Value) : (trL t v).length = 49 := by
 have h1 := h.z
 have h2 := h.h
 have h3 := h.f
 have h4 := h.s
 unfold trL
 simp only [List.length_append, List.length_map, List.length_singleton]
 omega
theorem tr_server {t : Tr} (h : TrOk t) (v : Value) {i : Nat} (hi : i < 12) : (trA t v)[36 + i]? = some (.int .i64 (t.server.getD i 0)) := by
 have h1 := h.z
 have h2 := h.h
 have h3 := h.f
 have h4 := h.s
 have hl : (t.zone ++ t.has ++ t.for_).length = 36 := by simp; omega
 unfold trA trL
 rw [List.getElem?_toArray, List.getElem?_append_left (by simp; omega), List.getElem?_map, List.getElem?_append_right (by omega), hl, Nat.add_sub_cancel_left, List.getElem?_eq_getElem (by omega), List.getD_eq_getElem?_getD, List.getElem?_eq_getElem (by omega)]
 rfl
theorem tr_names {t : Tr} (h : TrOk t) (v : Value) : (trA t v)[48]? = some v := by
 have h1 := h.z
 have h2 := h.h
 have h3 := h.f
 have h4 := h.s
 unfold trA trL
 rw [List.getElem?_toArray, List.getElem?_append_right (by simp; omega)]
 have : 48 - (List.map (fun x => Value.int IntKind.i64 x) (t.zone ++ t.has ++ t.for_ ++ t.server)).length = 0 := by simp; omega
 rw [this]
 rfl
theorem undTr : Tryz.prog.underlying 49 = some (.struct (Tryz.prog.fieldsOf 49)) := by kernel_rfl
theorem trI : (Tryz.prog.info? 49).map (·.size) = some 49 := by kernel_rfl
theorem trI' {t : Tr} (h : TrOk t) (v : Value) : (Tryz.prog.info? 49).map (·.size) = some (trA t v).size := by
 rw [trI]
 unfold trA
 rw [List.size_toArray, tr_len h]
structure TrAt (w : World) (X : Nat) (t : Tr) (v : Value) : Prop where
 box : w.heap[X]? = some (.cells (trA t v) 49)
 names : NmAt w v
theorem TrAt.below {w w' : World} {X : Nat} {t : Tr} {v : Value} (h : TrAt w X t v) (hb : Below w.heap.size w w') : TrAt w' X t v := ⟨(hb.block _ (heap_lt h.box)).trans h.box, h.names.below hb⟩
theorem TrAt.start {w : World} {t : Tr} {v : Value} (h : NmAt w v) : TrAt (w.alloc (.cells (trA t v) 49)) w.heap.size t v :=
 ⟨heap_new _ _, h.below ((Below.refl _ _).alloc (Nat.le_refl _) _)⟩
theorem TrAt.all {w : World} {X : Nat} {t : Tr} {v : Value} (h : TrAt w X t v) : ∀ j u, (trA t v).toList[j]? = some u → w.cell? ((⟨X, 0, none⟩ : Addr).add j) = some u := by
 intro j u hj
 have e1 : (⟨X, 0, none⟩ : Addr).add j = ⟨X, j, none⟩ := by
  unfold Addr.add
  by_cases h : j = 0
  ·rw [h]; rfl
  ·rw [if_neg h]; simp
 rw [e1, box_cells h.box j]
 simpa using hj
theorem kHost_any (w : World) (t : Tr) (v : Value) (i : Nat) (ht : TrOk t) (hi : i < 12) (hv : NmAt w v) :
  Calls Tryz.prog 38 #[.agg (trA t v), .int .i64 i] w fun e w' => e = .returned (.int .i64 (hostN t i : Nat)) ∧ Hid (Below w.heap.size w w') := by
 have HB1 := hide ((Below.refl w.heap.size w).alloc (Nat.le_refl _) (.cells (trA t v) 49))
 have HT1 := hide (TrAt.start (t := t) hv)
 have HT := hide ht
 obtain ⟨H, hH⟩ : ∃ H, H = hostN t i := ⟨_, rfl⟩
 rw [← hH]
 unfold hostN at hH
 have HH := hide hH
 clear hH hv ht
 by_cases h0 : i = 0
 ·have hh : H = 0 := by rw [HH.out, if_pos h0]
  subst hh
  have h0' : ((i : Int) == 0) = true := by simp; exact h0
  clear h0
  go_enter Tryz.func38, Tryz.ntmps38
  go_wp2_with fail
  go_ret
  exact ⟨rfl, HB1.out⟩
 have h0' : ((i : Int) == 0) = false := by simp; exact h0
 rw [if_neg h0] at HH
 have hs1 : (w.alloc (.cells (trA t v) 49)).cell? ⟨w.heap.size, 36 + i, none⟩ = some (.int .i64 (t.server.getD i 0)) := (box_cells HT1.out.box (36 + i)).trans (tr_server HT.out v hi)
 have hr1 := get_range HT.out.s HT.out.rs hi
 go_enter Tryz.func38, Tryz.ntmps38
 go_wp2_with fail
 refine (kPick_any _ 5 (by decide) (by decide) hr1.1 hr1.2 _).mono ?_
 rintro e w2 ⟨rfl, hw⟩
 have hw := hw.symm
 subst hw
 have hk5 := pkN_lt (c := t.server.getD i 0) (n := 5) (by decide)
 clear hs1
 generalize pkN (t.server.getD i 0) 5 = k at HH hk5 ⊢
 generalize w.alloc _ = W1 at HB1 HT1 ⊢
 rcases (show k < 1 ∨ (1 ≤ k ∧ 3 < k) ∨ (1 ≤ k ∧ k ≤ 3 ∧ k = i) ∨ (1 ≤ k ∧ k ≤ 3 ∧ k ≠ i) by omega) with hk | ⟨hk, hk3⟩ | ⟨hk, hk3, hki⟩ | ⟨hk, hk3, hki⟩
 ·have hh : H = i := by rw [HH.out, if_pos (.inl hk)]
  subst hh
  go_wp2_with fail
  go_ret
  exact ⟨rfl, HB1.out⟩
 ·have hh : H = i := by rw [HH.out, if_pos (.inr (.inl hk3))]
  subst hh
  go_wp2_with fail
  go_ret
  exact ⟨rfl, HB1.out⟩
 ·have hh : H = i := by rw [HH.out, if_pos (.inr (.inr hki))]
  subst hh
  have hki' : ((k : Int) == (H : Int)) = true := by simp; omega
  go_wp2_with fail
  go_ret
  exact ⟨rfl, HB1.out⟩
 have hki' : ((k : Int) == (i : Int)) = false := by simp; omega
 rw [if_neg (by omega)] at HH
 go_wp2_with (refine wpList_load_cells _ rfl 49 _ rfl ⟨w.heap.size, 0, none⟩ rfl (trA t v) _ undTr rfl (trI' HT.out v) HT1.out.all ?_)
 refine (kZone_any W1 t v k HT.out (by omega)).mono ?_
 rintro e w3 ⟨rfl, H3⟩
 have HB3 := hide (HB1.out.trans (H3.out.mono HB1.out.size))
 have HT3 := hide (HT1.out.below H3.out)
 clear H3 HB1 HT1
 have hs1 : w3.cell? ⟨w.heap.size, 36 + k, none⟩ = some (.int .i64 (t.server.getD k 0)) := (box_cells HT3.out.box (36 + k)).trans (tr_server HT.out v (by omega))
 have hr2 := get_range HT.out.s HT.out.rs (i := k) (by omega)
 have hk12 : k < 12 := by omega
 go_wp2_with fail
 refine (kPick_any _ 5 (by decide) (by decide) hr2.1 hr2.2 _).mono ?_
 rintro e w4 ⟨rfl, hw⟩
 have hw := hw.symm
 subst hw
 have ho5 := pkN_lt (c := t.server.getD k 0) (n := 5) (by decide)
 clear hs1
 generalize pkN (t.server.getD k 0) 5 = ow at HH ho5 ⊢
 have hn48 : w3.cell? ⟨w.heap.size, 48, none⟩ = some v := (box_cells HT3.out.box 48).trans (tr_names HT.out v)
 obtain ⟨g, c, rfl, hg, hgc⟩ := HT3.out.names.is
 have hgk := hgc k hk12
 have hgi := hgc i hi
 have l1 := nm_size k
 have l2 := nm_size i
 clear hgc
 go_wp2_with fail
 go_quiet ((go_at_call 80; exact Calls.quiet_of_same (kLies_any _ _ _ (by omega) (by omega))))
 have HB5 := hide (below_drewN HB3.out nq)
 clear HB3 HT3 hn48 hgk hgi
 generalize w3.drewN nq = W5 at HB5 ⊢
 generalize zoneB t k = bz at HH ⊢
 generalize liesS (nm k) (nm i) = bl at HH ⊢
 cases bz
 ·have hh : H = i := by rw [HH.out, if_pos (.inl rfl)]
  subst hh
  go_wp2_with fail
  go_ret
  exact ⟨rfl, HB5.out⟩
 by_cases how : 1 ≤ ow ∧ ow ≤ 3 ∧ ow ≠ k
 ·have hh : H = i := by rw [HH.out, if_pos (.inr (.inl how))]
  subst hh
  have ho1 := how.1
  have ho2 := how.2.1
  have ho3 : ((ow : Int) != (k : Int)) = true := by simp; omega
  go_wp2_with fail
  go_ret
  exact ⟨rfl, HB5.out⟩
 cases bl
 rotate_left
 ·have hh : H = i := by rw [HH.out, if_pos (.inr (.inr rfl))]
  subst hh
  rcases (show ow < 1 ∨ (1 ≤ ow ∧ 3 < ow) ∨ (1 ≤ ow ∧ ow ≤ 3 ∧ ow = k) by omega) with ho | ⟨ho, ho3⟩ | ⟨ho, ho3, hok⟩
  ·go_wp2_with fail
   go_ret
   exact ⟨rfl, HB5.out⟩
  ·go_wp2_with fail
   go_ret
   exact ⟨rfl, HB5.out⟩
  ·have ho4 : ((ow : Int) != (k : Int)) = false := by simp; omega
   go_wp2_with fail
   go_ret
   exact ⟨rfl, HB5.out⟩
 ·have hh : H = k := by rw [HH.out, if_neg (by rintro (h | h | h); exact Bool.noConfusion h; exact how h; exact Bool.noConfusion h)]
  subst hh
  rcases (show ow < 1 ∨ (1 ≤ ow ∧ 3 < ow) ∨ (1 ≤ ow ∧ ow ≤ 3 ∧ ow = H) by omega) with ho | ⟨ho, ho3⟩ | ⟨ho, ho3, hok⟩
  ·go_wp2_with fail
   go_ret
   exact ⟨rfl, HB5.out⟩
  ·go_wp2_with fail
   go_ret
   exact ⟨rfl, HB5.out⟩
  ·have ho4 : ((ow : Int) != (H : Int)) = false := by simp; omega
   go_wp2_with fail
   go_ret
   exact ⟨rfl, HB5.out⟩
theorem wpList_load_want {P : Program} (w : World) {ops : Array Oper} {rest : List Oper} {o : Oper} {a : Act} {Q : Exit → Act → World → Prop} (hgd : Region.wanted o (yielded ops a.tmps) = true) (ty : TypeId) (x : Operand) (ho : o.op = .load ty x)
  (ad : Addr) (hx : a.eval x = .pointer (some ad)) (cs : Array Value) (d : TypeDesc) (hu : P.underlying ty = some d) (hd : (match d with | .struct _ | .array _ _ => true | _ => false) = true) (hi : (P.info? ty).map (·.size) = some cs.size)
  (hc : ∀ j v, cs.toList[j]? = some v → w.cell? (ad.add j) = some v)
  (h : wpList P ops Q rest (a.put o.dst (.agg cs)) w) : wpList P ops Q (o :: rest) a w := by
 refine wpList_step fun K hK => ?_
 rw [if_pos hgd]
 have hl := run_loadCells_list (P := P) w ad cs.toList hc
 have hr : (loadVar ty ad).run P w = .ok (.agg cs) w := by
  cases hq : P.info? ty with
  | none => simp [hq] at hi
  | some i =>
   have hs : i.size = cs.size := by simpa [hq] using hi
   have hagg : (isAgg ty).run P w = .ok true w := by
    unfold isAgg
    rw [Sem.run_bind, run_underlying hu w]
    cases d <;> simp_all
   simp only [Array.length_toList, Array.toArray_toList] at hl
   simp [loadVar, Sem.run_bind, hagg, sizeOf, typeInfo, hq, hs, hl]
 unfold Oper.wp execOp
 simp only [ho, hx, Instr.loadAt, Instr.sureAddr, Sem.run_bind, Sem.run_pure, Result.andThen_ok, hr]
 exact hK _ _ h
def srvL (i : Nat) : List UInt8 := [1, 110] ++ nmL.getD i []
def srv (i : Nat) : ByteArray := str (srvL i)
def adrB (i : Nat) : ByteArray := str [10, 0, 0, UInt8.ofNat i]
theorem kServer_any (w : World) (t : Tr) (v : Value) (i : Nat) (ht : TrOk t) (hi : i < 12) (hv : NmAt w v) :
  Calls Tryz.prog 39 #[.agg (trA t v), .int .i64 i] w fun e w' => e = .returned (.string (srv i)) ∧ Hid (Below w.heap.size w w') := by
 have HB1 := hide ((Below.refl w.heap.size w).alloc (Nat.le_refl _) (.cells (trA t v) 49))
 have HT1 := hide (TrAt.start (t := t) hv)
 have hn48 : (w.alloc (.cells (trA t v) 49)).cell? ⟨w.heap.size, 48, none⟩ = some v := (box_cells HT1.out.box 48).trans (tr_names ht v)
 obtain ⟨g, c, rfl, hg, hgc⟩ := HT1.out.names.is
 have hgi := hgc i hi
 have l2 := nm_size i
 have hcat : (⟨#[1, 110]⟩ : ByteArray) ++ nm i = srv i := str_append [1, 110] (nmL.getD i [])
 have hs2 : (⟨#[1, 110]⟩ : ByteArray).size = 2 := rfl
 clear hgc
 go_enter Tryz.func39, Tryz.ntmps39
 go_wp2_with fail
 go_ret
 exact ⟨rfl, HB1.out⟩
theorem kAddress_any (w : World) (i : Nat) (hi : i < 12) :
  Calls Tryz.prog 40 #[.int .i64 i] w fun e w' => e = .returned (.string (adrB i)) ∧ Hid (Below w.heap.size w w') := by
 have HB1 := hide ((Below.refl w.heap.size w).alloc (Nat.le_refl _) (.cells #[.int .u8 10, .int .u8 0, .int .u8 0, .int .u8 (i : Int)] 5))
 have hw1 : IntKind.u8.wrap (i : Int) = (i : Int) := by rw [IntKind.wrap_u8]; omega
 have hcv : (convert 32 9 (.slice (some ⟨w.heap.size, 0, none⟩) 4 4)).run Tryz.prog (w.alloc (.cells #[.int .u8 10, .int .u8 0, .int .u8 0, .int .u8 (i : Int)] 5)) = .ok (.string (adrB i)) (w.alloc (.cells #[.int .u8 10, .int .u8 0, .int .u8 0, .int .u8 (i : Int)] 5)) := conv_own _ 0 (some ⟨w.heap.size, 0, none⟩) 4 [10, 0, 0, UInt8.ofNat i] (own_block (n := 4) (heap_new w _) (by simp [bytesV, ofNat_toNat (show i < 256 by omega)]) rfl (by decide))
 go_enter Tryz.func40, Tryz.ntmps40
 go_wp2_with fail
 go_ret
 exact ⟨rfl, HB1.out⟩
theorem srv_size (i : Nat) : (srv i).size ≤ 9 := by
 have := nm_size i
 have h2 : (nm i).size = (nmL.getD i []).length := rfl
 show ([1, 110] ++ nmL.getD i []).length ≤ 9
 rw [List.length_append, ← h2]
 simp only [List.length_cons, List.length_nil]
 omega
def thereOne (t : Tr) (n : ByteArray) (i : Nat) : Bool := (liesS (nm i) n && (zoneB t i || decide (2 ≤ pkN (t.has.getD i 0) 5))) || (zoneB t i && decide (0 < i) && liesS (srv i) n)
def thereB (t : Tr) (n : ByteArray) : Bool := (List.range 12).any (thereOne t n)
theorem tr_has {t : Tr} (h : TrOk t) (v : Value) {i : Nat} (hi : i < 12) : (trA t v)[12 + i]? = some (.int .i64 (t.has.getD i 0)) := by
 have h1 := h.z
 have h2 := h.h
 have h3 := h.f
 have h4 := h.s
 unfold trA trL
 rw [List.getElem?_toArray, List.getElem?_append_left (by simp; omega), List.getElem?_map, List.getElem?_append_left (by simp; omega), List.getElem?_append_left (by simp; omega), List.getElem?_append_right (by omega), h1, Nat.add_sub_cancel_left, List.getElem?_eq_getElem (by omega), List.getD_eq_getElem?_getD, List.getElem?_eq_getElem (by omega)]
 rfl
theorem kThere_any (w : World) (t : Tr) (v : Value) (n : ByteArray) (ht : TrOk t) (hv : NmAt w v) (hn : n.size ≤ 1000) :
  Calls Tryz.prog 42 #[.agg (trA t v), .string n] w fun e w' => e = .returned (.bool (thereB t n)) ∧ Hid (Below w.heap.size w w') := by
 have HB1 := hide ((Below.refl w.heap.size w).alloc (Nat.le_refl _) (.cells (trA t v) 49))
 have HT1 := hide (TrAt.start (t := t) hv)
 have HT := hide ht
 obtain ⟨g, c, rfl, -, -⟩ := hv.is
 clear hv ht
 go_enter Tryz.func42, Tryz.ntmps42
 go_wp2_with fail
 generalize w.alloc _ = W1 at HB1 HT1 ⊢
 go_loopw [5] (fun vi wr => ∃ i : Nat, vi = .int .i64 i ∧ i ≤ 12 ∧ Hid ((List.range i).any (thereOne t n) = false) ∧ Hid (TrAt wr w.heap.size t (.slice (some ⟨g, 0, none⟩) 12 c)) ∧ Hid (Below w.heap.size w wr)) (fun vi _ => 12 - (intOf vi).toNat)
 case atStart => exact ⟨0, rfl, by omega, rfl, HT1.out, HB1.out⟩
 case round =>
  obtain ⟨i, rfl, hi, HN, HTR, HB⟩ := hrel
  have hn48 : wr.cell? ⟨w.heap.size, 48, none⟩ = some (.slice (some ⟨g, 0, none⟩) 12 c) := (box_cells HTR.out.box 48).trans (tr_names HT.out _)
  by_cases hlt : i < 12
  ·go_upto_region 4 with fail
   go_upto_region 5 with (refine wpList_load_cells _ rfl 49 _ rfl ⟨w.heap.size, 0, none⟩ rfl (trA t (.slice (some ⟨g, 0, none⟩) 12 c)) _ undTr rfl (trI' HT.out _) HTR.out.all ?_)
   refine (kZone_any wr t _ i HT.out hlt).mono ?_
   rintro e w2 ⟨rfl, H2⟩
   have HT2 := hide (HTR.out.below H2.out)
   have HB2 := hide (HB.out.trans (H2.out.mono HB.out.size))
   clear H2 HTR HB hn48
   have hh : w2.cell? ⟨w.heap.size, 12 + i, none⟩ = some (.int .i64 (t.has.getD i 0)) := (box_cells HT2.out.box (12 + i)).trans (tr_has HT.out _ hlt)
   have hr := get_range HT.out.h HT.out.rh hlt
   obtain ⟨hz, hhz⟩ : ∃ hz, hz = t.has.getD i 0 := ⟨_, rfl⟩
   rw [← hhz] at hh hr
   have HHZ := hide hhz
   clear hhz
   go_wp2_with fail
   refine (kPick_any _ 5 (by decide) (by decide) hr.1 hr.2 _).mono ?_
   rintro e w3 ⟨rfl, hw⟩
   have hw := hw.symm
   subst hw
   clear hh
   have hn48 : w2.cell? ⟨w.heap.size, 48, none⟩ = some (.slice (some ⟨g, 0, none⟩) 12 c) := (box_cells HT2.out.box 48).trans (tr_names HT.out _)
   have hgi : w2.cell? ⟨g, i, none⟩ = some (.string (nm i)) := by
    obtain ⟨g', c', e', _, hgc⟩ := HT2.out.names.is
    cases e'
    exact hgc i hlt
   have l2 := nm_size i
   have l3 := srv_size i
   go_wp2_with fail
   refine (kLies_any w2 (nm i) n (by omega) (by omega)).mono ?_
   rintro e w3 ⟨rfl, hw⟩
   have hw := hw.symm
   subst hw
   clear hn48 hgi
   have HONE : Hid ((List.range (i + 1)).any (thereOne t n) = thereOne t n i) := by
    unfold Hid
    rw [List.range_succ, List.any_append, HN.out]
    simp
   have HYES : Hid (thereOne t n i = true → thereB t n = true) := fun h => by
    unfold thereB
    rw [List.any_eq_true]
    exact ⟨i, List.mem_range.2 hlt, h⟩
   have HTO : Hid (thereOne t n i = ((liesS (nm i) n && (zoneB t i || decide (2 ≤ pkN (t.has.getD i 0) 5))) || (zoneB t i && decide (0 < i) && liesS (srv i) n))) := rfl
   generalize zoneB t i = bz at HTO ⊢
   generalize liesS (nm i) n = bl at HTO ⊢
   rw [← HHZ.out] at HTO
   generalize pkN hz 5 = ph at HTO ⊢
   by_cases hg : bz = true ∧ 0 < i
   ·obtain ⟨rfl, h0⟩ := hg
    have h0' : decide ((0 : Int) < (i : Int)) = true := by simp; omega
    go_wp2_with (refine wpList_load_want _ (by kernel_rfl) 49 _ rfl ⟨w.heap.size, 0, none⟩ rfl (trA t (.slice (some ⟨g, 0, none⟩) 12 c)) _ undTr rfl (trI' HT.out _) HT2.out.all ?_)
    refine (kServer_any w2 t _ i HT.out hlt HT2.out.names).mono ?_
    rintro e w4 ⟨rfl, H4⟩
    have HT4 := hide (HT2.out.below H4.out)
    have HB4 := hide (HB2.out.trans (H4.out.mono HB2.out.size))
    clear H4 HT2 HB2
    go_wp2_with fail
    refine (kLies_any w4 (srv i) n (by omega) (by omega)).mono ?_
    rintro e w5 ⟨rfl, hw⟩
    have hw := hw.symm
    subst hw
    generalize liesS (srv i) n = bs at HTO ⊢
    cases bl
    ·cases bs
     ·go_wp2_with fail
      exact ⟨⟨i + 1, by go_num, by omega, by unfold Hid; rw [HONE.out, HTO.out]; simp, HT4.out, HB4.out⟩, by simp [intOf]; omega⟩
     ·have HR : Hid (thereB t n = true) := HYES.out (by rw [HTO.out]; simp [h0])
      go_wp2_with fail
      go_ret
      exact ⟨by rw [HR.out]; rfl, HB4.out⟩
    ·have HR : Hid (thereB t n = true) := HYES.out (by rw [HTO.out]; simp)
     go_wp2_with fail
     go_ret
     exact ⟨by rw [HR.out]; rfl, HB4.out⟩
   ·have hbz : bz = false ∨ (bz = true ∧ i = 0) := by
     cases bz
     ·exact .inl rfl
     ·exact .inr ⟨rfl, Classical.byContradiction fun e => hg ⟨rfl, by omega⟩⟩
    rcases hbz with rfl | ⟨rfl, rfl⟩
    ·cases bl
     ·go_wp2_with fail
      exact ⟨⟨i + 1, by go_num, by omega, by unfold Hid; rw [HONE.out, HTO.out]; simp, HT2.out, HB2.out⟩, by simp [intOf]; omega⟩
     ·by_cases hp2 : 2 ≤ ph
      ·have HR : Hid (thereB t n = true) := HYES.out (by rw [HTO.out]; simp [hp2])
       have hp2' : decide ((2 : Int) ≤ (ph : Int)) = true := by simp; omega
       go_wp2_with fail
       go_ret
       exact ⟨by rw [HR.out]; rfl, HB2.out⟩
      ·have hp2' : decide ((2 : Int) ≤ (ph : Int)) = false := by simp; omega
       go_wp2_with fail
       exact ⟨⟨i + 1, by go_num, by omega, by unfold Hid; rw [HONE.out, HTO.out]; simp [hp2], HT2.out, HB2.out⟩, by simp [intOf]; omega⟩
    ·cases bl
     ·go_wp2_with fail
      exact ⟨⟨0 + 1, by go_num, by omega, by unfold Hid; rw [HONE.out, HTO.out]; simp, HT2.out, HB2.out⟩, by simp [intOf]⟩
     ·have HR : Hid (thereB t n = true) := HYES.out (by rw [HTO.out]; simp)
      go_wp2_with fail
      go_ret
      exact ⟨by rw [HR.out]; rfl, HB2.out⟩
  ·have h12 : i = 12 := by omega
   subst h12
   go_wp2_with fail
   go_ret
   exact ⟨by unfold thereB; rw [HN.out]; rfl, HB.out⟩
def rcOf (n : ByteArray) (k : Int) (ttl : Int) (d : ByteArray) : Rc := { name := n, kind := k, cls := 1, ttl := ttl, data := d }
def hasN (t : Tr) (i : Nat) : Nat := if pkN (t.has.getD i 0) 5 = 4 ∧ zoneB t i = true then 2 else pkN (t.has.getD i 0) 5
def hasA (t : Tr) (n : ByteArray) (k : Int) (i : Nat) : List Rc := if zoneB t i = true ∧ 0 < i ∧ srv i = n ∧ k = 1 then [rcOf n k 60 (adrB i)] else []
def hasJ (n : ByteArray) (k : Int) (i j : Nat) : Rc := rcOf n k i (str [192, 0, UInt8.ofNat i, UInt8.ofNat j])
def hasB (t : Tr) (n : ByteArray) (k : Int) (i : Nat) : List Rc := if hasN t i < 4 ∧ k = 1 then (List.range (hasN t i - 1)).map fun j => hasJ n k i (j + 2) else []
def hasC (t : Tr) (n : ByteArray) (k : Int) (i : Nat) : List Rc := if hasN t i = 4 ∧ k = 5 then [rcOf n k i (nm (pkN (t.for_.getD i 0) 12))] else []
def hasI (t : Tr) (n : ByteArray) (k : Int) (i : Nat) : List Rc := hasA t n k i ++ (if nm i ≠ n ∨ i = 0 then [] else hasB t n k i ++ hasC t n k i)
def hasL (t : Tr) (n : ByteArray) (k : Int) : List Rc := (List.range 12).flatMap (hasI t n k)
theorem hasN_lt (t : Tr) (i : Nat) : hasN t i < 5 := by
 unfold hasN
 have := pkN_lt (c := t.has.getD i 0) (n := 5) (by omega)
 split <;> omega
theorem hasA_len (t : Tr) (n : ByteArray) (k : Int) (i : Nat) : (hasA t n k i).length ≤ 1 := by
 unfold hasA
 split <;> simp
theorem hasB_len (t : Tr) (n : ByteArray) (k : Int) (i : Nat) : (hasB t n k i).length ≤ 2 := by
 unfold hasB
 split
 ·rw [List.length_map, List.length_range]; omega
 ·simp
theorem hasC_len (t : Tr) (n : ByteArray) (k : Int) (i : Nat) : (hasC t n k i).length ≤ 1 := by
 unfold hasC
 split <;> simp
theorem hasI_len (t : Tr) (n : ByteArray) (k : Int) (i : Nat) : (hasI t n k i).length ≤ 4 := by
 have h1 := hasA_len t n k i
 have h2 := hasB_len t n k i
 have h3 := hasC_len t n k i
 unfold hasI
 rw [List.length_append]
 split
 ·simp; omega
 ·rw [List.length_append]; omega
theorem has_snoc (t : Tr) (n : ByteArray) (k : Int) (i : Nat) : (List.range (i + 1)).flatMap (hasI t n k) = (List.range i).flatMap (hasI t n k) ++ hasI t n k i := by
 rw [List.range_succ, List.flatMap_append]
 simp
theorem has_len (t : Tr) (n : ByteArray) (k : Int) (i : Nat) : ((List.range i).flatMap (hasI t n k)).length ≤ 4 * i := by
 induction i with
 | zero => simp
 | succ i ih =>
  rw [has_snoc, List.length_append]
  have := hasI_len t n k i
  omega
theorem has_of {t : Tr} {n : ByteArray} {k : Int} {r : Rc} (h : r ∈ hasL t n k) : r.name = n ∧ r.kind = k ∧ r.cls = 1 := by
 unfold hasL at h
 obtain ⟨i, _, h⟩ := List.mem_flatMap.mp h
 unfold hasI at h
 rcases List.mem_append.mp h with h | h
 ·unfold hasA at h
  split at h
  ·simp at h; subst h; exact ⟨rfl, rfl, rfl⟩
  ·simp at h
 ·split at h
  ·simp at h
  ·rcases List.mem_append.mp h with h | h
   ·unfold hasB at h
    split at h
    ·obtain ⟨j, _, rfl⟩ := List.mem_map.mp h; exact ⟨rfl, rfl, rfl⟩
    ·simp at h
   ·unfold hasC at h
    split at h
    ·simp at h; subst h; exact ⟨rfl, rfl, rfl⟩
    ·simp at h
def deeper (best : Option Nat) (i : Nat) : Bool := match best with
 | none => true
 | some b => decide ((nm b).size < (nm i).size)
def deepStep (t : Tr) (n : ByteArray) (server : Nat) (best : Option Nat) (i : Nat) : Option Nat :=
 if zoneB t i && liesS n (nm i) && decide (hostN t i = server) && deeper best i then some i else best
def deepN (t : Tr) (n : ByteArray) (server : Nat) : Option Nat := (List.range 12).foldl (deepStep t n server) none
def optI : Option Nat → Int
 | none => -1
 | some b => b
theorem fold_snoc {α β : Type} (f : α → β → α) (a : α) (l : List β) (x : β) : (l ++ [x]).foldl f a = f (l.foldl f a) x := by simp
theorem deep_or (t : Tr) (n : ByteArray) (server : Nat) (best : Option Nat) (k : Nat) : deepStep t n server best k = some k ∨ deepStep t n server best k = best := by
 unfold deepStep
 split
 ·exact .inl rfl
 ·exact .inr rfl
theorem deep_lt (t : Tr) (n : ByteArray) (server : Nat) : ∀ k, k ≤ 12 → ∀ b, (List.range k).foldl (deepStep t n server) none = some b → b < 12
 | 0, _, b, h => by simp at h
 | k + 1, hk, b, h => by
  have ih := deep_lt t n server k (by omega)
  rw [List.range_succ, fold_snoc] at h
  generalize (List.range k).foldl (deepStep t n server) none = best at h ih
  rcases deep_or t n server best k with e | e
  ·rw [e] at h; cases h; omega
  ·rw [e] at h; exact ih b h
theorem kDeep_any (w : World) (t : Tr) (v : Value) (n : ByteArray) (server : Nat) (ht : TrOk t) (hv : NmAt w v) (hn : n.size ≤ 1000) (_hsv : server < 12) :
  Calls Tryz.prog 36 #[.agg (trA t v), .string n, .int .i64 server] w fun e w' => e = .returned (.int .i64 (optI (deepN t n server))) ∧ Hid (Below w.heap.size w w') := by
 have HB1 := hide ((Below.refl w.heap.size w).alloc (Nat.le_refl _) (.cells (trA t v) 49))
 have HT1 := hide (TrAt.start (t := t) hv)
 have HT := hide ht
 obtain ⟨g, c, rfl, -, -⟩ := hv.is
 clear hv ht
 go_enter Tryz.func36, Tryz.ntmps36
 go_wp2_with fail
 generalize w.alloc _ = W1 at HB1 HT1 ⊢
 go_loopw [7, 8] (fun vb vi wr => ∃ (i : Nat) (best : Option Nat), vi = .int .i64 i ∧ i ≤ 12 ∧ vb = .int .i64 (optI best) ∧ Hid ((List.range i).foldl (deepStep t n server) none = best) ∧ Hid (TrAt wr w.heap.size t (.slice (some ⟨g, 0, none⟩) 12 c)) ∧ Hid (Below w.heap.size w wr)) (fun _ vi _ => 12 - (intOf vi).toNat)
 case atStart => exact ⟨0, none, rfl, by omega, rfl, rfl, HT1.out, HB1.out⟩
 case round =>
  obtain ⟨i, best, rfl, hi, rfl, HN, HTR, HB⟩ := hrel
  have hn48 : wr.cell? ⟨w.heap.size, 48, none⟩ = some (.slice (some ⟨g, 0, none⟩) 12 c) := (box_cells HTR.out.box 48).trans (tr_names HT.out _)
  by_cases hlt : i < 12
  ·go_upto_region 5 with fail
   go_upto_region 6 with (refine wpList_load_cells _ rfl 49 _ rfl ⟨w.heap.size, 0, none⟩ rfl (trA t (.slice (some ⟨g, 0, none⟩) 12 c)) _ undTr rfl (trI' HT.out _) HTR.out.all ?_)
   refine (kZone_any wr t _ i HT.out hlt).mono ?_
   rintro e w2 ⟨rfl, H2⟩
   have HT2 := hide (HTR.out.below H2.out)
   have HB2 := hide (HB.out.trans (H2.out.mono HB.out.size))
   clear H2 HTR HB hn48
   have hn48 : w2.cell? ⟨w.heap.size, 48, none⟩ = some (.slice (some ⟨g, 0, none⟩) 12 c) := (box_cells HT2.out.box 48).trans (tr_names HT.out _)
   have hgi : w2.cell? ⟨g, i, none⟩ = some (.string (nm i)) := by
    obtain ⟨g', c', e', _, hgc⟩ := HT2.out.names.is
    cases e'
    exact hgc i hlt
   have l2 := nm_size i
   go_wp2_with fail
   refine (kLies_any w2 n (nm i) (by omega) (by omega)).mono ?_
   rintro e w3 ⟨rfl, hw⟩
   have hw := hw.symm
   subst hw
   clear hn48 hgi
   go_upto_region 7 with fail
   go_upto_region 8 with (refine wpList_load_cells _ rfl 49 _ rfl ⟨w.heap.size, 0, none⟩ rfl (trA t (.slice (some ⟨g, 0, none⟩) 12 c)) _ undTr rfl (trI' HT.out _) HT2.out.all ?_)
   refine (kHost_any w2 t _ i HT.out hlt HT2.out.names).mono ?_
   rintro e w4 ⟨rfl, H4⟩
   have HT4 := hide (HT2.out.below H4.out)
   have HB4 := hide (HB2.out.trans (H4.out.mono HB2.out.size))
   clear H4 HT2 HB2
   have hn48 : w4.cell? ⟨w.heap.size, 48, none⟩ = some (.slice (some ⟨g, 0, none⟩) 12 c) := (box_cells HT4.out.box 48).trans (tr_names HT.out _)
   have hgc : ∀ j, j < 12 → w4.cell? ⟨g, j, none⟩ = some (.string (nm j)) := by
    obtain ⟨g', c', e', _, hgc⟩ := HT4.out.names.is
    cases e'
    exact hgc
   have hgi := hgc i hlt
   have HGC := hide hgc
   clear hgc
   have HST : Hid ((List.range (i + 1)).foldl (deepStep t n server) none = deepStep t n server best i) := by
    unfold Hid
    rw [List.range_succ, fold_snoc, HN.out]
   have HBL : Hid (∀ b, best = some b → b < 12) := fun b hb => deep_lt t n server i (by omega) b (HN.out.trans hb)
   have HDS : Hid (deepStep t n server best i = if zoneB t i && liesS n (nm i) && decide (hostN t i = server) && deeper best i then some i else best) := rfl
   generalize zoneB t i = bz at HDS ⊢
   generalize liesS n (nm i) = bi at HDS ⊢
   generalize hostN t i = ho at HDS ⊢
   have hsv0 : decide ((server : Int) < 0) = false := by simp
   cases bz
   ·skip
    go_wp2_with fail
    go_quiet (fail)
    have HT5 := hide (HT4.out.below (below_drewN (Below.refl _ _) nq))
    have HB5 := hide (below_drewN HB4.out nq)
    go_wp2_with fail
    exact ⟨⟨i + 1, best, by go_num, by omega, rfl, by unfold Hid; rw [HST.out, HDS.out]; simp, HT5.out, HB5.out⟩, by simp [intOf]; omega⟩
   cases bi
   ·skip
    go_wp2_with fail
    go_quiet (fail)
    have HT5 := hide (HT4.out.below (below_drewN (Below.refl _ _) nq))
    have HB5 := hide (below_drewN HB4.out nq)
    go_wp2_with fail
    exact ⟨⟨i + 1, best, by go_num, by omega, rfl, by unfold Hid; rw [HST.out, HDS.out]; simp, HT5.out, HB5.out⟩, by simp [intOf]; omega⟩
   by_cases hho : ho = server
   rotate_left
   ·have hho' : ((ho : Int) == (server : Int)) = false := by simp; omega
    go_wp2_with fail
    go_quiet (fail)
    have HT5 := hide (HT4.out.below (below_drewN (Below.refl _ _) nq))
    have HB5 := hide (below_drewN HB4.out nq)
    go_wp2_with fail
    exact ⟨⟨i + 1, best, by go_num, by omega, rfl, by unfold Hid; rw [HST.out, HDS.out]; simp [hho], HT5.out, HB5.out⟩, by simp [intOf]; omega⟩
   have hho' : ((ho : Int) == (server : Int)) = true := by simp; omega
   cases best with
   | none =>
    unfold optI
    go_wp2_with fail
    go_quiet (fail)
    have HT5 := hide (HT4.out.below (below_drewN (Below.refl _ _) nq))
    have HB5 := hide (below_drewN HB4.out nq)
    go_wp2_with fail
    exact ⟨⟨i + 1, some i, by go_num, by omega, rfl, by unfold Hid; rw [HST.out, HDS.out]; simp [hho, deeper], HT5.out, HB5.out⟩, by simp [intOf]; omega⟩
   | some b =>
    have hb12 := HBL.out b rfl
    have hgb := HGC.out b hb12
    have l4 := nm_size b
    unfold optI
    have hb0 : decide ((b : Int) < 0) = false := by simp
    by_cases hsz : (nm b).size < (nm i).size
    ·have hsz' : decide (((nm b).size : Int) < ((nm i).size : Int)) = true := by simp; omega
     go_wp2_with fail
     go_quiet (fail)
     have HT5 := hide (HT4.out.below (below_drewN (Below.refl _ _) nq))
     have HB5 := hide (below_drewN HB4.out nq)
     go_wp2_with fail
     exact ⟨⟨i + 1, some i, by go_num, by omega, rfl, by unfold Hid; rw [HST.out, HDS.out]; simp [hho, hsz, deeper], HT5.out, HB5.out⟩, by simp [intOf]; omega⟩
    ·have hsz' : decide (((nm b).size : Int) < ((nm i).size : Int)) = false := by simp; omega
     go_wp2_with fail
     go_quiet (fail)
     have HT5 := hide (HT4.out.below (below_drewN (Below.refl _ _) nq))
     have HB5 := hide (below_drewN HB4.out nq)
     go_wp2_with fail
     exact ⟨⟨i + 1, some b, by go_num, by omega, rfl, by unfold Hid; rw [HST.out, HDS.out]; simp [hho, hsz, deeper], HT5.out, HB5.out⟩, by simp [intOf]; omega⟩
  ·have h12 : i = 12 := by omega
   subst h12
   go_wp2_with fail
   go_ret
   exact ⟨by unfold deepN; rw [HN.out]; rfl, HB.out⟩
end Go.Proofs.YtafoepfhepdcoaaGreat
