import Derived.Test.YtafoepfhepdcoaaGreatM19
set_option maxRecDepth 100000
set_option maxHeartbeats 8000000
namespace Go.Proofs.YtafoepfhepdcoaaGreat
open Go.RowKit Go.Trawl
attribute [local go_sem] mf Stg.upon
theorem EL.base {w w2 wr : World} {c : QC} {r : List QC} {zone : ByteArray} {ns : List ByteArray} {sv : List Int} {vn vs : Value} (hg : w.grownBy w2 (some c.blk)) (h : EL w2 wr c r zone ns sv vn vs) : EL w wr c r zone ns sv vn vs :=
 ⟨grownBy_trans hg h.fr, h.box, h.on, h.os, fun k e => Nat.le_trans hg.size (h.nn k e), fun k e => Nat.le_trans hg.size (h.ns k e)⟩
theorem glue_len (ex : List Rc) (d : ByteArray) : (glueQ ex d).length ≤ ex.length := Nat.le_trans (addrs_len _) (List.length_filter_le _ _)
theorem q_enter (w : World) (c : QC) (r : List QC) (zone : ByteArray) (va vx : Value) (au ex : List Rc) (h : Chain w (c :: r)) (hau : Lies w 5 va (au.map Rc.cells)) (hex : Lies w 5 vx (ex.map Rc.cells)) (hna : ∀ k, va.ownBlock = some k → k ≠ c.blk) (hnx : ∀ k, vx.ownBlock = some k → k ≠ c.blk)
  (hal : au.length ≤ 65535) (hxl : ex.length ≤ 65535) (haw : ∀ x ∈ au, WfR x) (hxw : ∀ x ∈ ex, WfR x) :
  Calls Tryz.prog 123 #[.pointer (some ⟨c.blk, 0, none⟩), .string zone, va, vx] w fun e w' => e = .returned (.tuple #[]) ∧ Hid (∃ vn vs, EL w w' c r zone (enterL ex (au.filter (kindB zone 2))).1 (enterL ex (au.filter (kindB zone 2))).2 vn vs) := by
 have hbx := h.1
 have hbl := heap_lt hbx
 have hcc := box_cells hbx
 have hfc := frozen_of_block hbx
 simp only [qcCells] at hcc
 have HBX := hide hbx
 obtain ⟨W1, hW1⟩ : ∃ x : World, x = (((w.setCell ⟨c.blk, 4, none⟩ (.string zone)).setCell ⟨c.blk, 5, none⟩ (.slice none 0 0)).setCell ⟨c.blk, 6, none⟩ (.slice none 0 0)).setCell ⟨c.blk, 7, none⟩ (.int .i64 0) := ⟨_, rfl⟩
 have hG1 : w.grownBy W1 (some c.blk) := by
  rw [hW1]
  exact grownBy_trans (grownBy_trans (grownBy_trans (grownBy_setCell _ _ _ _) (grownBy_setCell _ _ _ _)) (grownBy_setCell _ _ _ _)) (grownBy_setCell _ _ _ _)
 have hX1 : W1.heap[c.blk]? = some (.cells (enCells c r zone (.slice none 0 0) (.slice none 0 0)) 192) := by
  rw [hW1, heap_setCell_eq (heap_setCell_eq (heap_setCell_eq (heap_setCell_eq hbx _) _) _) _]
  rfl
 have HE1 : Hid (EL w W1 c r zone [] [] (.slice none 0 0) (.slice none 0 0)) := ⟨hG1, hX1, World.ownsRow_nil _ _ _ _, World.ownsRow_nil _ _ _ _, fun k e => (by cases e), fun k e => (by cases e)⟩
 have HA1 := hide (HE1.out.lies hau hna)
 have HEX1 := hide (HE1.out.lies hex hnx)
 have HW1 := hide hW1
 have HAW := hide haw
 have HXW := hide hxw
 have HNX := hide hnx
 obtain ⟨aa, ca, rfl, _⟩ := (show Lies w 5 va (au.map Rc.cells) from hau)
 obtain ⟨ax, cx, rfl, _⟩ := (show Lies w 5 vx (ex.map Rc.cells) from hex)
 clear h hbx hau hex hna hnx haw hxw hW1 hG1 hX1
 rw [List.length_map] at HA1 ⊢
 rw [List.length_map] at HEX1 HNX ⊢
 go_enter Tryz.func123, Tryz.ntmps123
 go_wp2_with fail
 rw [← HW1.out]
 clear hcc hfc HW1
 refine (q_of W1 (.slice aa au.length ca) au zone 2 hal (fun x hx => (HAW.out x hx).name) HA1.out).mono ?_
 rintro e W2 ⟨al, cl, rfl, H2⟩
 obtain ⟨l, hl⟩ : ∃ l, l = au.filter (kindB zone 2) := ⟨_, rfl⟩
 have hll : l.length ≤ 65535 := by rw [hl]; exact Nat.le_trans (List.length_filter_le _ _) hal
 have HLW : Hid (∀ x ∈ l, WfR x) := fun x hx => HAW.out x (by rw [hl] at hx; exact (List.mem_filter.1 hx).1)
 rw [← hl] at H2 ⊢
 have HL := hide hl
 have HG2 : Hid (w.grownBy W2 (some c.blk)) := grownBy_trans HE1.out.fr (grown_below H2.out.below)
 have HE2 := HE1.out.below H2.out.below
 have H0 : Hid (EL W2 W2 c r zone [] [] (.slice none 0 0) (.slice none 0 0)) := ⟨grownBy_refl _ _, HE2.box, World.ownsRow_nil _ _ _ _, World.ownsRow_nil _ _ _ _, fun k e => (by cases e), fun k e => (by cases e)⟩
 have HV := own_lies H2.out.own (rcells_len' _) (by simp)
 have hnv : ∀ k, (Value.slice al l.length cl).ownBlock = some k → k ≠ c.blk := fun k e => by have := H2.out.new k e; have := HE1.out.fr.size; omega
 have HEX := hide (HEX1.out.below H2.out.below)
 have hbl2 : c.blk < W2.heap.size := heap_lt HE2.box
 obtain ⟨av, cv, hav, -, hv⟩ := HV
 rw [List.length_map] at hav
 cases hav
 have HV := hide hv
 have HNV := hide hnv
 clear hv hnv hl H2 HE1 HA1 HEX1 HE2
 go_wp2_with fail
 go_loopw [28] (fun i wr => ∃ (k : Nat) (ns : List ByteArray) (sv : List Int) (an : Option Addr) (cn : Nat) (aS : Option Addr) (cs : Nat), i = .int .i64 k ∧ k ≤ l.length ∧ ns.length ≤ k ∧ sv.length ≤ k * 65535 ∧ Hid (enterL ex (l.take k) = (ns, sv)) ∧ Hid (∀ n ∈ ns, n.size ≤ 2097152) ∧ Hid (EL W2 wr c r zone ns sv (.slice an ns.length cn) (.slice aS sv.length cs))) (fun i _ => l.length - (intOf i).toNat)
 case atStart => exact ⟨0, [], [], none, 0, none, 0, rfl, Nat.zero_le _, by simp, by simp, by simp [Hid, enterL], by simp [Hid], H0.out⟩
 case round =>
  obtain ⟨k, ns, sv, an, cn, aS, cs, rfl, hk, hnl, hsl, HX, HSZ, HO⟩ := hrel
  by_cases hin : k < l.length
  ·obtain ⟨x, hr⟩ : ∃ x, l[k]? = some x := ⟨_, List.getElem?_eq_getElem hin⟩
   rcases HV.out with he | ⟨b, off, rfl, hbl3, hc⟩
   ·exfalso; have := congrArg List.length he; simp at this; subst this; simp at hin
   obtain ⟨c0, c1, c2, c3, c4⟩ := Lies.rat hc hr
   have hbn : b ≠ c.blk := HNV.out b rfl
   have hxw := HLW.out x (List.mem_of_getElem? hr)
   have HTK : Hid (enterL ex (l.take (k + 1)) = enterStep ex (ns, sv) x) := by unfold Hid; rw [enterL_snoc hr, HX.out]
   have t1 : ∀ o u, W2.cell? ⟨b, o, none⟩ = some u → wr.cell? ⟨b, o, none⟩ = some u := fun o u => cell_of_heap (HO.out.fr.block b hbl3 (fun e => hbn (Option.some.inj e)))
   replace c0 := t1 _ _ c0
   replace c1 := t1 _ _ c1
   replace c2 := t1 _ _ c2
   replace c3 := t1 _ _ c3
   replace c4 := t1 _ _ c4
   have hwz := HO.out.fr.size
   have hb3 := (Below.refl wr.heap.size wr).alloc (Nat.le_refl _) (.cells #[.string x.name, .int .u16 x.kind, .int .u16 x.cls, .int .u32 x.ttl, .string x.data] 69)
   have HOa := hide (HO.out.below hb3)
   have HR := hide (heap_new wr (.cells #[.string x.name, .int .u16 x.kind, .int .u16 x.cls, .int .u32 x.ttl, .string x.data] 69))
   have hdz := hxw.data
   obtain ⟨nm, kd, kl, tt, dt⟩ := x
   dsimp only at c0 c1 c2 c3 c4 HOa HR hdz
   have hcb := box_cells HOa.out.box
   simp only [enCells] at hcb
   have hrne : ¬ wr.heap.size = c.blk := by have := heap_lt HO.out.box; omega
   clear hc hr t1 hb3 hxw
   go_wp2_with fail
   refine (has_texts _ (.slice an ns.length cn) ns dt wr.heap.size ((box_cells HR.out 4).trans rfl) HSZ.out (by omega) (texts_lies HOa.out.on)).mono ?_
   rintro e w3 ⟨rfl, m3, hw3⟩
   have hb4 : Below (wr.alloc (.cells #[.string nm, .int .u16 kd, .int .u16 kl, .int .u32 tt, .string dt] 69)).heap.size (wr.alloc (.cells #[.string nm, .int .u16 kd, .int .u16 kl, .int .u32 tt, .string dt] 69)) w3 := by rw [hw3]; exact below_drewN (Below.refl _ _) _
   have HO3 := hide (HOa.out.below hb4)
   have HR3 := hide ((hb4.block _ (heap_lt HR.out)).trans HR.out)
   clear hb4 hw3 HOa HR hcb c0 c1 c2 c3 c4
   by_cases hkn : ns.any (fun n => sameB n dt) = true
   ·rw [hkn]
    go_wp2_with fail
    refine ⟨⟨k + 1, ns, sv, an, cn, aS, cs, by go_num, by omega, by omega, Nat.le_trans hsl (Nat.mul_le_mul_right _ (Nat.le_succ k)), ?_, HSZ.out, HO3.out⟩, by simp [intOf]; omega⟩
    unfold Hid
    rw [HTK.out]
    unfold enterStep
    rw [if_pos hkn]
   ·have hkn2 : ns.any (fun n => sameB n dt) = false := by simpa using hkn
    have HST : Hid (enterStep ex (ns, sv) ⟨nm, kd, kl, tt, dt⟩ = (ns ++ [dt], sv ++ glueQ ex dt)) := by
     unfold Hid enterStep
     rw [if_neg hkn]
    rw [hkn2]
    clear hkn hkn2
    obtain ⟨i1, hi1, hy0, hy1, hy2⟩ := info_parts sI1
    obtain ⟨W0, hW0⟩ : ∃ x : World, x = w3.drew := ⟨_, rfl⟩
    obtain ⟨Wa, hWa⟩ : ∃ y : World, y = W0.alloc (.cells #[.string dt] 9) := ⟨_, rfl⟩
    have hb0 : Below w3.heap.size w3 W0 := by rw [hW0]; exact below_drewN (Below.refl _ _) 1
    have hba : Below w3.heap.size w3 Wa := by
     rw [hWa, hW0]
     exact (below_drewN (Below.refl _ _) 1).alloc (Nat.le_refl _) _
    have hE0 := HO3.out.below hb0
    have hEa := HO3.out.below hba
    obtain ⟨v6, Wb, hrun, g6⟩ := append_grew (P := Tryz.prog) Wa 39 39 9 i1 _ 1 16 uS1 hi1 hy0 hy1 hy2 rfl (by decide) _ ns.length _ hEa.on ⟨W0.heap.size, 0, none⟩ 1 1 [.string dt] rfl (by rw [hWa]; exact cells_new W0 #[.string dt] _) (by simp; rfl) (by unfold maxLen; omega) (by omega)
    obtain ⟨a6, c6, rfl⟩ := own_slice g6.own
    have hEc := hEa.pushN hbl2 g6 (d := dt) (by simp) (by simp [strV])
    have nb : (Value.slice an ns.length cn).ownBlock ≠ some c.blk := fun e => by have := HO3.out.nn _ e; omega
    have hboxb := (g6.keeps (heap_lt hEa.box) nb).1.trans hEa.box
    have nR : (Value.slice an ns.length cn).ownBlock ≠ some wr.heap.size := own_type_ne HO3.out.on HR3.out (by decide)
    have hx0 := (hb0.block _ (heap_lt HR3.out)).trans HR3.out
    have hxa := (hba.block _ (heap_lt HR3.out)).trans HR3.out
    have hxb := (g6.grown.block _ (heap_lt hxa) (fun e => nR e.symm)).trans hxa
    have HK0 : Hid (W0.cell? ⟨c.blk, 5, none⟩ = some (.slice an ns.length cn)) := (box_cells hE0.box 5).trans rfl
    have HKa : Hid (Wa.cell? ⟨c.blk, 5, none⟩ = some (.slice an ns.length cn)) := (box_cells hEa.box 5).trans rfl
    have HX0 : Hid (W0.cell? ⟨wr.heap.size, 4, none⟩ = some (.string dt)) := (box_cells hx0 4).trans rfl
    obtain ⟨Wc, hWc⟩ : ∃ y : World, y = Wb.setCell ⟨c.blk, 5, none⟩ (.slice a6 (ns.length + 1) c6) := ⟨_, rfl⟩
    have hXC : Wc.heap[wr.heap.size]? = some (.cells #[.string nm, .int .u16 kd, .int .u16 kl, .int .u32 tt, .string dt] 69) := by
     rw [hWc]
     exact (Below.heap_setCell Wb ⟨c.blk, 5, none⟩ _ _ hrne).trans hxb
    rw [← hWc] at hEc
    have HEC := hide hEc
    have HXC := hide hXC
    have HRN := hide hrun
    have HWA := hide hWa
    have HWC := hide hWc
    have HCB := hide (box_cells hboxb)
    have HFB := hide (frozen_of_block hboxb)
    clear hb0 hba hE0 hEa hrun g6 hEc hboxb hx0 hxa hxb hWa hWc hXC nb nR
    go_wp2_with fail
    refine Stg.wp_region_stage [7, 8, 11] (fun j w' => w' = Stg.pick4 W0 Wa Wb Wc j) (by kernel_rfl) (by kernel_rfl) hW0.symm ?_
    clear hW0
    iterate 3 refine lex_at (by kernel_rfl) (.pointer (some ⟨c.blk, 0, none⟩)) (fun _ w' _ => by go_simp) ?_
    refine lex_at (by kernel_rfl) (.pointer (some ⟨c.blk, 5, none⟩)) (fun _ w' _ => by go_simp) ?_
    refine lex_le 1 (by kernel_rfl) (.slice an ns.length cn) (fun j w' hj hw' => ?_) ?_
    ·have hk : w'.cell? ⟨c.blk, 5, none⟩ = some (.slice an ns.length cn) := by
      rcases (show j = 0 ∨ j = 1 by omega) with rfl | rfl
      ·rw [show w' = W0 from hw']; exact HK0.out
      ·rw [show w' = Wa from hw']; exact HKa.out
     clear hw'
     go_simp
    refine lex_at (by kernel_rfl) (.pointer (some ⟨wr.heap.size, 4, none⟩)) (fun _ w' _ => by go_simp) ?_
    refine lex_le 0 (by kernel_rfl) (.string dt) (fun j w' hj hw' => ?_) ?_
    ·have hj0 : j = 0 := by omega
     subst hj0
     rw [show w' = W0 from hw']
     have hk := HX0.out
     clear hw'
     go_simp
    refine Stg.lex_move 0 (by kernel_rfl) (.slice (some ⟨W0.heap.size, 0, none⟩) 1 1) ?_ ?_
    ·intro w' hw'
     rw [show w' = W0 from hw', show Stg.pick4 W0 Wa Wb Wc (0 + 1) = Wa from rfl]
     clear hw' w'
     go_simp
     exact HWA.out.symm
    simp only [Act.put, List.setIfInBounds_toArray, List.set_cons_zero, List.set_cons_succ]
    refine Stg.lex_move 1 (by kernel_rfl) (.slice a6 (ns.length + 1) c6) ?_ ?_
    ·intro w' hw'
     rw [show w' = Wa from hw', show Stg.pick4 W0 Wa Wb Wc (1 + 1) = Wb from rfl]
     clear hw' w'
     exact Stg.upon_append rfl rfl rfl HRN.out rfl
    refine lex_at (by kernel_rfl) (.pointer (some ⟨c.blk, 0, none⟩)) (fun _ w' _ => by go_simp) ?_
    refine lex_at (by kernel_rfl) (.pointer (some ⟨c.blk, 5, none⟩)) (fun _ w' _ => by go_simp) ?_
    refine Stg.lex_move 2 (by kernel_rfl) undef ?_ ?_
    ·intro w' hw'
     rw [show w' = Wb from hw', show Stg.pick4 W0 Wa Wb Wc (2 + 1) = Wc from rfl]
     clear hw' w'
     have hcb := HCB.out
     simp only [enCells] at hcb
     have hfb := HFB.out
     go_simp
     exact HWC.out.symm
    refine Stg.lex_nil ?_
    intro w' hw'
    rw [show w' = Wc from hw']
    clear hw' w' HK0 HKa HX0 HRN HWA HCB HFB HWC HO3 HR3
    dsimp only [Act.put]
    simp only [List.setIfInBounds_toArray, List.set_cons_zero, List.set_cons_succ]
    go_wp2_with fail
    obtain ⟨iw, hiw, hw0, hw1, hw2⟩ := info_parts wI0
    have hlr : wr.heap.size < Wc.heap.size := heap_lt HXC.out
    have HCS : Hid (∀ w', Below Wc.heap.size Wc w' → w'.cell? ⟨c.blk, 6, none⟩ = some (.slice aS sv.length cs) ∧ w'.cell? ⟨wr.heap.size, 4, none⟩ = some (.string dt)) := fun w' hb => ⟨(box_cells (HEC.out.below hb).box 6).trans rfl, (box_cells ((hb.block _ hlr).trans HXC.out) 4).trans rfl⟩
    have HOF : Hid (∀ Wx, Below Wc.heap.size Wc Wx → Calls Tryz.prog 119 #[.slice ax ex.length cx, .string dt, .int .u16 1] Wx fun e w7 => ∃ a7 c7, e = .returned (.slice a7 (ex.filter (kindB dt 1)).length c7) ∧ Hid (Below Wc.heap.size Wc w7) ∧ Hid (Lies w7 5 (.slice a7 (ex.filter (kindB dt 1)).length c7) ((ex.filter (kindB dt 1)).map Rc.cells)) ∧ (w7.cell? ⟨c.blk, 6, none⟩ = some (.slice aS sv.length cs) ∧ w7.cell? ⟨wr.heap.size, 4, none⟩ = some (.string dt))) := fun Wx hb => by
     refine (q_of Wx (.slice ax ex.length cx) ex dt 1 hxl (fun x hx => (HXW.out x hx).name) (((HEC.out.lies HEX.out HNX.out)).below hb)).mono ?_
     rintro e w7 ⟨a7, c7, rfl, H7⟩
     have hb7 := hb.trans (H7.out.below.mono hb.size)
     exact ⟨a7, c7, rfl, hb7, own_lies H7.out.own (rcells_len' _) (by simp), HCS.out w7 hb7⟩
    have HAD : Hid (∀ w7 a7 c7, Below Wc.heap.size Wc w7 → Lies w7 5 (.slice a7 (ex.filter (kindB dt 1)).length c7) ((ex.filter (kindB dt 1)).map Rc.cells) → Calls Tryz.prog 158 #[.slice a7 (ex.filter (kindB dt 1)).length c7] w7 fun e w8 => ∃ a8 c8, e = .returned (.slice a8 (glueQ ex dt).length c8) ∧ Hid (Below Wc.heap.size Wc w8) ∧ Hid (Lies w8 1 (.slice a8 (glueQ ex dt).length c8) (wordsV (glueQ ex dt))) ∧ (w8.cell? ⟨c.blk, 6, none⟩ = some (.slice aS sv.length cs) ∧ w8.cell? ⟨wr.heap.size, 4, none⟩ = some (.string dt))) := fun w7 a7 c7 hb hl7 => by
     refine (q_addresses w7 _ (ex.filter (kindB dt 1)) (Nat.le_trans (List.length_filter_le _ _) hxl) (fun x hx => (HXW.out x (List.mem_filter.1 hx).1).data) hl7).mono ?_
     rintro e w8 ⟨a8, c8, rfl, H8⟩
     have hb8 := hb.trans (H8.out.below.mono hb.size)
     exact ⟨a8, c8, rfl, hb8, H8.out.lies, HCS.out w8 hb8⟩
    have hgl := glue_len ex dt
    have HAP : Hid (∀ w8 a8 c8, Below Wc.heap.size Wc w8 → Lies w8 1 (.slice a8 (glueQ ex dt).length c8) (wordsV (glueQ ex dt)) → ∃ a9 c9 w9, (Builtin.append_ #[55, 55] 55 #[.slice aS sv.length cs, .slice a8 (glueQ ex dt).length c8]).run Tryz.prog w8 = .ok (.slice a9 (sv.length + (glueQ ex dt).length) c9) w9 ∧ Hid (EL W2 (w9.setCell ⟨c.blk, 6, none⟩ (.slice a9 (sv.length + (glueQ ex dt).length) c9)) c r zone (ns ++ [dt]) (sv ++ glueQ ex dt) (.slice a6 (ns.length + 1) c6) (.slice a9 (sv.length + (glueQ ex dt).length) c9)) ∧ (∀ o, w9.cell? ⟨c.blk, o, none⟩ = (enCells c r zone (.slice a6 (ns.length + 1) c6) (.slice aS sv.length cs))[o]?) ∧ ∀ o, w9.frozen? ⟨c.blk, o, none⟩ = false) := fun w8 a8 c8 hb hl8 => by
     have hE8 := HEC.out.below hb
     have hlw : (wordsV (glueQ ex dt)).length = (glueQ ex dt).length := by simp [wordsV]
     obtain ⟨v9, w9, hr9, g9⟩ := append_lies (P := Tryz.prog) w8 55 55 54 iw _ 1 4 uWs hiw hw0 hw1 hw2 rfl (by decide) _ sv.length _ hE8.os (.slice a8 (glueQ ex dt).length c8) (wordsV (glueQ ex dt)) hl8 (words_ok _) (by rw [hlw]; unfold maxLen; omega) (by rw [hlw]; omega)
     rw [hlw] at g9
     obtain ⟨a9, c9, rfl⟩ := own_slice g9.own
     have nb : (Value.slice aS sv.length cs).ownBlock ≠ some c.blk := fun e => by have := hE8.ns _ e; omega
     have hbx := (g9.keeps (heap_lt hE8.box) nb).1.trans hE8.box
     exact ⟨a9, c9, w9, hr9, hE8.pushS hbl2 g9 (by simp) (by rw [words_flatQ]; simp [wV]), box_cells hbx, frozen_of_block hbx⟩
    have HDR : Hid (Below Wc.heap.size Wc Wc.drew) := below_drewN (Below.refl _ _) 1
    obtain ⟨hs6, hd6⟩ := HCS.out Wc (Below.refl _ _)
    go_region_law (first
     | (go_simp; go_at_call 119; refine (HOF.out _ HDR.out).mono ?_; rintro e w7 ⟨a7, c7, rfl, HB7, HL7, hs7, hd7⟩; dsimp only)
     | (go_simp; go_at_call 158; refine (HAD.out w7 a7 c7 HB7.out HL7.out).mono ?_; rintro e w8 ⟨a8, c8, rfl, HB8, HL8, hs8, hd8⟩; dsimp only)
     | (obtain ⟨a9, c9, w9, hr9, HE9, hc9, hf9⟩ := HAP.out w8 a8 c8 HB8.out HL8.out; simp only [enCells] at hc9; refine step_append_run rfl _ _ 55 rfl (.slice aS sv.length cs) (.slice a8 (glueQ ex dt).length c8) _ rfl rfl hr9 ?_))
    all_goals
     clear hc9 hf9 hs6 hd6 hs7 hd7 hs8 hd8 hr9
     go_wp2_with fail
     have e1 : (ns ++ [dt]).length = ns.length + 1 := by simp
     have e2 : (sv ++ glueQ ex dt).length = sv.length + (glueQ ex dt).length := by simp
     refine ⟨⟨k + 1, ns ++ [dt], sv ++ glueQ ex dt, a6, c6, a9, c9, by go_num, by omega, by omega, ?_, ?_, ?_, ?_⟩, by simp [intOf]; omega⟩
     ·rw [e2, Nat.succ_mul]
      omega
     ·unfold Hid
      rw [HTK.out, HST.out]
     ·intro n hn
      rcases List.mem_append.1 hn with hn | hn
      ·exact HSZ.out n hn
      ·simp at hn
       subst hn
       exact hdz
     ·rw [e1, e2]
      exact HE9.out
  ·go_wp2_with fail
   go_end0
   have e : enterL ex l = (ns, sv) := by have := HX.out; rw [List.take_of_length_le (by omega)] at this; exact this
   refine ⟨rfl, .slice an ns.length cn, .slice aS sv.length cs, ?_⟩
   rw [← HL.out, e]
   exact HO.out.base HG2.out
end Go.Proofs.YtafoepfhepdcoaaGreat
namespace Go.Proofs.YtafoepfhepdcoaaGreat
open Go.RowKit Go.Trawl
structure Got (m : Msg) : Prop where
 wf : WfM m
 named : NamedM m
 an : m.an.length ≤ 65535
 au : m.au.length ≤ 65535
 ex : m.ex.length ≤ 65535
theorem enterL_names (ex : List Rc) : ∀ (l : List Rc) (acc : List ByteArray × List Int), (l.foldl (enterStep ex) acc).1.length ≤ acc.1.length + l.length ∧ (l.foldl (enterStep ex) acc).2.length ≤ acc.2.length + l.length * ex.length ∧ ∀ n ∈ (l.foldl (enterStep ex) acc).1, n ∈ acc.1 ∨ ∃ r ∈ l, n = r.data
 | [], acc => ⟨by simp, by simp, fun n hn => .inl hn⟩
 | r :: l, acc => by
  obtain ⟨h1, h2, h3⟩ := enterL_names ex l (enterStep ex acc r)
  have hg := glue_len ex r.data
  have ha : (enterStep ex acc r).1.length ≤ acc.1.length + 1 ∧ (enterStep ex acc r).2.length ≤ acc.2.length + ex.length ∧ ∀ n ∈ (enterStep ex acc r).1, n ∈ acc.1 ∨ n = r.data := by
   unfold enterStep
   split
   ·exact ⟨by omega, by omega, fun n hn => .inl hn⟩
   ·refine ⟨by simp, by simp; exact hg, fun n hn => ?_⟩
    rcases List.mem_append.1 hn with hn | hn
    ·exact .inl hn
    ·exact .inr (by simpa using hn)
  refine ⟨by simp only [List.foldl_cons, List.length_cons]; omega, ?_, fun n hn => ?_⟩
  ·simp only [List.foldl_cons, List.length_cons, Nat.succ_mul]
   omega
  ·rcases h3 n hn with h | ⟨x, hx, e⟩
   ·rcases ha.2.2 n h with h | h
    ·exact .inl h
    ·exact .inr ⟨r, by simp, h⟩
   ·exact .inr ⟨x, by simp [hx], e⟩
theorem wf_an {m : Msg} (h : Got m) {r : Rc} (hr : r ∈ m.an) : WfR r := h.wf.rs r (by simp [recs, hr])
theorem wf_au {m : Msg} (h : Got m) {r : Rc} (hr : r ∈ m.au) : WfR r := h.wf.rs r (by simp [recs, hr])
theorem wf_ex {m : Msg} (h : Got m) {r : Rc} (hr : r ∈ m.ex) : WfR r := h.wf.rs r (by simp [recs, hr])
theorem standsQ_ok {s : QSt} (h : QOk s) (hp : s.ph = .send) {q : Qn} (hq : s.reply.qs = [q]) {x : Rc} (hx : WfR x) (hn : nameB x.data = true) : QOk (standsQ s q x) := by
 have ha := h.an (by rw [hp]; simp)
 have hb := h.busy (by rw [hp]; simp)
 have hc1 := h.c1
 unfold standsQ
 split
 ·exact endQ_ok h (by rw [hp]; simp) 2 (by decide) [] (by simp) (by simp) ha
 ·split
  ·exact settleQ_ok h (by rw [hp]; simp) 2 (by decide) [] (by simp) (by simp) ha
  ·rename_i hne
   have hlen : ((s.reply.an ++ [x]).length : Int) ≤ s.c := by
    have : ¬ (s.reply.an.length : Int) = s.c := fun e => hne (.inl e)
    simp only [List.length_append, List.length_singleton]
    omega
   obtain ⟨q', hq', hnq⟩ := hb.2.2
   have : q' = q := by rw [hq] at hq'; injection hq' with e; exact e.symm
   subst this
   have hm := h.reply
   have h2 : QOk { s with reply := { s.reply with an := s.reply.an ++ [x] } } := by
    have hl2 : (s.reply.an ++ [x]).length ≤ 1000 := by omega
    refine { h with reply := { hm with na := by show (s.reply.an ++ [x]).length ≤ _; omega, rs := fun r hr => ?_ }, few := by show (s.reply.an ++ [x]).length ≤ _; omega, busy := fun _ => hb, an := fun _ => hlen, srv := h.srv }
    simp only [recs, List.mem_append, List.mem_singleton] at hr
    rcases hr with ((hr | rfl) | hr) | hr
    ·exact hm.rs r (by simp [recs, hr])
    ·exact hx
    ·exact hm.rs r (by simp [recs, hr])
    ·exact hm.rs r (by simp [recs, hr])
   exact startQ_ok h2 _ _ ⟨hb.2.1, q', hq, hnq⟩ hlen hn hnq.2.1 hnq.2.2.1 rfl rfl (by simp) (by have := h.d0; simpa using this)
theorem enterC_ok {t : Int} {c : Ch} (ht : 1 ≤ t) (h : QcOk t c) {m : Msg} (hm : Got m) {zone : ByteArray} (hz : nameB zone = true) : QcOk t (enterC c zone (m.au.filter (credB c.zone)) (m.ex.filter (credB c.zone))) := by
 obtain ⟨h1, h2, h3⟩ := enterL_names (m.ex.filter (credB c.zone)) ((m.au.filter (credB c.zone)).filter (kindB zone 2)) ([], [])
 have l1 : ((m.au.filter (credB c.zone)).filter (kindB zone 2)).length ≤ 65535 := Nat.le_trans (List.length_filter_le _ _) (Nat.le_trans (List.length_filter_le _ _) hm.au)
 have l2 : (m.ex.filter (credB c.zone)).length ≤ 65535 := Nat.le_trans (List.length_filter_le _ _) hm.ex
 have l3 := Nat.mul_le_mul l1 l2
 refine { h with zone := hz, servers := ?_, sent := by show ((0 : Nat) : Int) ≤ t; omega, names := ?_, texts := fun n hn => ?_ }
 ·show (List.foldl (enterStep (m.ex.filter (credB c.zone))) ([], []) ((m.au.filter (credB c.zone)).filter (kindB zone 2))).2.length ≤ _
  simp only [List.length_nil] at h2
  omega
 ·show (List.foldl (enterStep (m.ex.filter (credB c.zone))) ([], []) ((m.au.filter (credB c.zone)).filter (kindB zone 2))).1.length ≤ _
  simp only [List.length_nil] at h1
  omega
 ·rcases h3 n hn with h | ⟨x, hx, rfl⟩
  ·cases h
  ·obtain ⟨hx1, hx2⟩ := List.mem_filter.1 hx
   have hx3 := (List.mem_filter.1 hx1).1
   refine (hm.named.u x hx3).2 ?_
   have : x.kind = 2 := by
    unfold kindB at hx2
    simp only [Bool.and_eq_true, decide_eq_true_eq] at hx2
    exact hx2.1
   rw [this]
   rfl
theorem lookQ_ok {s : QSt} (h : QOk s) (hp : s.ph = .send) {q : Qn} (hq : s.reply.qs = [q]) {m : Msg} (hm : Got m) : QOk (lookQ s q m) := by
 have ha := h.an (by rw [hp]; simp)
 have hb := h.busy (by rw [hp]; simp)
 unfold lookQ
 split
 ·exact h
 rename_i c r ech
 have hC := h.chs c (by rw [ech]; simp)
 split
 ·exact h
 split
 ·refine endQ_ok h (by rw [hp]; simp) 0 (by decide) _ (Nat.le_trans (List.length_filter_le _ _) (Nat.le_trans (List.length_filter_le _ _) hm.an)) (fun x hx => wf_an hm (List.mem_filter.1 (List.mem_filter.1 hx).1).1) ha
 split
 ·rename_i x l ex
  have hx : x ∈ (m.an.filter (credB c.zone)).filter (kindB c.name 5) := by rw [ex]; simp
  obtain ⟨hx1, hx2⟩ := List.mem_filter.1 hx
  have hx3 := (List.mem_filter.1 hx1).1
  refine standsQ_ok h hp hq (wf_an hm hx3) ((hm.named.a x hx3).2 ?_)
  have : x.kind = 5 := by
   unfold kindB at hx2
   simp only [Bool.and_eq_true, decide_eq_true_eq] at hx2
   exact hx2.1
  rw [this]
  rfl
 split
 ·exact endQ_ok h (by rw [hp]; simp) 3 (by decide) [] (by simp) (by simp) ha
 split
 ·rename_i x hx
  have hx3 := (List.mem_filter.1 (List.mem_of_find?_eq_some hx)).1
  have hlen := h.len
  rw [ech] at hlen
  refine { h with chs := fun y hy => ?_, len := by simpa using hlen, busy := fun _ => ⟨by simp, hb.2⟩, an := fun _ => ha, srv := fun e => by cases e }
  simp only [List.mem_cons] at hy
  rcases hy with rfl | hy
  ·exact enterC_ok h.t0 hC hm (hm.named.u x hx3).1
  ·exact h.chs y (by rw [ech]; simp [hy])
 split
 ·exact endQ_ok h (by rw [hp]; simp) 0 (by decide) [] (by simp) (by simp) ha
 ·exact h
theorem lookQ_busy {s : QSt} (hp : s.ph = .send) (q : Qn) (m : Msg) : (lookQ s q m).ph ≠ .idle := by
 have he : ∀ code l, (endQ s code l).ph ≠ .idle := fun code l => by
  unfold endQ
  split <;> simp [settleQ]
 unfold lookQ
 split
 ·rw [hp]; simp
 split
 ·rw [hp]; simp
 split
 ·exact he _ _
 split
 ·unfold standsQ
  split
  ·exact he _ _
  ·split <;> simp [settleQ, startQ]
 split
 ·exact he _ _
 split
 ·simp
 split
 ·exact he _ _
 ·rw [hp]; simp
theorem settled_kept {s : QSt} {st : RSt} {l : List Ch} (h : Core s st l) (K : List Rc) : Runs (settleQ s 2 []) (failP { st with kept := K }) := by
 refine Runs.last (by show (2 : Int) ≠ 0; decide) ⟨?_, idle_sim h.b h.d h.c h.t h.roots h.id rfl⟩
 have e : replyL (doneM { st with kept := K } 2 []) = replyL (settleQ s 2 []).reply := by
  refine replyL_resp _ _ ?_
  unfold settleQ doneM asReply
  simp [h.reply, replyOf]
 show stepV 2 0 (str (replyL (doneM { st with kept := K } 2 []))) = stepV 2 0 (str (replyL (settleQ s 2 []).reply))
 rw [e]
theorem looks {s : QSt} {st : RSt} {c : Ch} {r : List Ch} (h : Core s st (c :: r)) (hp : s.ph = .send) (hok : QOk s) (hbz : st.busy = true) (hne : c.servers ≠ []) {q : Qn} (hq : st.asked.qs = [q]) (hsq : st.seen = q.name :: st.kept.map Rc.data) (hkp : (st.kept.length : Int) ≤ st.c) {m : Msg} (hm : Got m) : Runs (lookQ s q m) (followsP st r.reverse c m) := by
 have hsn : ∃ q, st.asked.qs = [q] ∧ st.seen = q.name :: st.kept.map Rc.data := ⟨q, hq, hsq⟩
 obtain ⟨pc, ps, ech, hpc, hps⟩ := h.chs.snoc
 have hrq : s.reply.qs = [q] := by rw [h.reply]; exact hq
 have hlok := lookQ_ok hok hp hrq hm
 have hnext : ∀ (code : Int), -9223372036854775808 ≤ code ∧ code ≤ 9223372036854775807 → r ≠ [] → Runs (endQ s code []) (nextP st r.reverse) := fun code hc hr => by
  unfold nextP
  rw [List.reverse_reverse]
  cases r with
  | nil => exact absurd rfl hr
  | cons p r' => exact nexts h hp hok hbz hsn hkp code hc [] (by simp) (by simp) rfl
 unfold lookQ at hlok ⊢
 rw [ech] at hlok ⊢
 unfold followsP
 simp only [filter_of, hpc.zone, hpc.name, hpc.kind] at hlok ⊢
 by_cases hcd : m.code ≠ 0 ∧ m.code ≠ 3
 ·rw [if_pos hcd, if_pos hcd]
  exact sends h hp hok hbz hne hsn hkp
 rw [if_neg hcd] at hlok ⊢
 rw [if_neg hcd]
 by_cases hf : m.an.filter (ofB c.zone c.name c.kind) ≠ []
 ·rw [if_pos hf, if_pos hf]
  cases r with
  | nil => exact ends h 0 _
  | cons p r' =>
   rw [List.reverse_reverse]
   dsimp only
   by_cases hadr : addrs (m.an.filter (ofB c.zone c.name c.kind)) = []
   ·rw [if_pos hadr]
    have := nexts h hp hok hbz hsn hkp 0 (by decide) _ (Nat.le_trans (List.length_filter_le _ _) hm.an) (fun x hx => wf_an hm (List.mem_filter.1 hx).1) hadr
    simpa [nextP] using this
   ·rw [if_neg hadr]
    obtain ⟨pa, ps', e2, hpa, hps'⟩ := hps.snoc
    subst e2
    have e3 : endQ s 0 (m.an.filter (ofB c.zone c.name c.kind)) = { s with ph := .seek, ch := { pa with servers := addrs (m.an.filter (ofB c.zone c.name c.kind)) } :: ps' } := by
     unfold endQ
     rw [ech]
    have hok2 := endQ_ok hok (by rw [hp]; simp) 0 (by decide) (m.an.filter (ofB c.zone c.name c.kind)) (Nat.le_trans (List.length_filter_le _ _) hm.an) (fun x hx => wf_an hm (List.mem_filter.1 hx).1) (hok.an (by rw [hp]; simp))
    rw [e3] at hok2 ⊢
    exact seek_sends (st := { st with l := r'.reverse ++ [{ p with servers := addrs (m.an.filter (ofB c.zone c.name c.kind)) }] }) (c := { p with servers := addrs (m.an.filter (ofB c.zone c.name c.kind)) }) (r := r') ⟨h.b, h.d, h.c, h.t, h.roots, h.id, h.sent, h.reply, ⟨⟨hpa.name, hpa.kind, hpa.zone, rfl, hpa.sent, fun e => absurd e hadr⟩, hps'⟩, fun x hx => h.wait x (by simp at hx; simp [hx])⟩ rfl hok2 hbz hadr hsn hkp
 rw [if_neg hf] at hlok ⊢
 rw [if_neg hf]
 cases ho : m.an.filter (ofB c.zone c.name 5) with
 | cons x l =>
  dsimp only
  cases r with
  | cons p r' =>
   rw [if_neg (by simp)]
   have e : standsQ s q x = endQ s 2 [] := by
    obtain ⟨pa, ps', e2, hpa, hps'⟩ := hps.snoc
    unfold standsQ
    rw [ech, e2]
   rw [e]
   exact hnext 2 (by decide) (by simp)
  | nil =>
   rw [if_pos (by simp)]
   have hps0 : ps = [] := by
    cases ps with
    | nil => rfl
    | cons a b => exact hps.elim
   subst hps0
   have hkl : s.reply.an = st.kept := by rw [h.reply]; rfl
   have hah : aheadB s q x.data = st.seen.any (fun n => sameB n x.data) := by
    unfold aheadB
    rw [hsq, List.any_cons, List.any_map, sameB_comm, hkl]
    congr 1
    exact List.any_congr rfl (fun y => sameB_comm _ _)
   unfold standsP
   rw [ho] at hlok
   have hcond : (st.c < (st.kept.length : Int) + 1 ∨ (st.seen.any fun n => sameB n x.data) = true) ↔ ((s.reply.an.length : Int) = s.c ∨ aheadB s q x.data = true) := by
    rw [hah, hkl, h.c]
    constructor
    ·rintro (e | e)
     ·exact .inl (by omega)
     ·exact .inr e
    ·rintro (e | e)
     ·exact .inl (by omega)
     ·exact .inr e
   have hkd : (st.asked.qs.map Qn.kind).headD 0 = q.kind := by rw [hq]; rfl
   rw [hkd]
   by_cases hc2 : st.c < (st.kept.length : Int) + 1 ∨ (st.seen.any fun n => sameB n x.data) = true
   ·rw [if_pos hc2]
    have e : standsQ s q x = settleQ s 2 [] := by
     unfold standsQ
     rw [ech]
     exact if_pos (hcond.1 hc2)
    rw [e]
    exact settled_kept h _
   ·rw [if_neg hc2]
    have e : standsQ s q x = startQ { s with reply := { s.reply with an := s.reply.an ++ [x] } } (newQ x.data q.kind) [] := by
     unfold standsQ
     rw [ech]
     exact if_neg (fun e => hc2 (hcond.2 e))
    dsimp only at hlok
    rw [e] at hlok ⊢
    have hok0 := hok.r0
    refine sends (st := { st with kept := st.kept ++ [x], seen := st.seen ++ [x.data], l := [freshCh st x.data q.kind] }) (c := freshCh st x.data q.kind) (r := []) ⟨h.b, h.d, h.c, h.t, h.roots, h.id, h.sent, ?_, ⟨⟨rfl, rfl, rfl, h.roots, rfl, fun _ => rfl⟩, trivial⟩, by simp⟩ rfl hlok hbz ?_ ⟨q, hq, by rw [hsq]; simp⟩ ?_
    ·show ({ s.reply with an := s.reply.an ++ [x] } : Msg) = replyOf _
     rw [h.reply]
     rfl
    ·intro e
     have : st.roots = [] := e
     rw [h.roots, this] at hok0
     simp at hok0
    ·have : ¬ st.c < (st.kept.length : Int) + 1 := fun e => hc2 (.inl e)
     show (((st.kept ++ [x]).length : Nat) : Int) ≤ st.c
     simp only [List.length_append, List.length_singleton]
     omega
 | nil =>
  rw [ho] at hlok
  dsimp only at hlok ⊢
  by_cases h3 : m.code = 3
  ·rw [if_pos h3, if_pos h3]
   cases r with
   | nil => rw [if_pos (by simp)]; exact ends h 3 []
   | cons p r' => rw [if_neg (by simp)]; exact hnext 3 (by decide) (by simp)
  rw [if_neg h3] at hlok ⊢
  rw [if_neg h3]
  have hld : (m.au.filter (credB c.zone)).find? (belowB pc) = m.au.find? (leads c) := by
   rw [← hpc.zone, find_leads]
   exact congrArg (fun P => m.au.find? P) (funext fun x => Chs.leads hpc x)
  rw [hld] at hlok ⊢
  cases hfd : m.au.find? (leads c) with
  | some x =>
   rw [hfd] at hlok
   dsimp only at hlok ⊢
   have hch : ChRel (enterC pc x.name (m.au.filter (credB c.zone)) (m.ex.filter (credB c.zone))) (downC m c x.name) := by
    unfold enterC downC
    rw [filter_of, enter_down]
    exact ⟨hpc.name, hpc.kind, rfl, rfl, rfl, fun _ => rfl⟩
   have hcore : Core { s with ph := .seek, ch := enterC pc x.name (m.au.filter (credB c.zone)) (m.ex.filter (credB c.zone)) :: ps } { st with l := r.reverse ++ [downC m c x.name] } (downC m c x.name :: r) := ⟨h.b, h.d, h.c, h.t, h.roots, h.id, h.sent, h.reply, ⟨hch, hps⟩, h.wait⟩
   unfold downP
   by_cases hs0 : (downC m c x.name).servers = []
   ·rw [if_pos hs0, List.reverse_reverse]
    exact seeks { st with l := r.reverse ++ [downC m c x.name] } hbz hsn hkp _ _ hcore rfl hlok (fun y hy => by
     rcases List.mem_cons.1 hy with rfl | hy
     ·exact hs0
     ·exact h.wait y (by simpa using hy))
   ·rw [if_neg hs0]
    exact seek_sends hcore rfl hlok hbz hs0 hsn hkp
  | none =>
   rw [hfd] at hlok
   dsimp only at hlok ⊢
   by_cases hw : m.own = true
   ·rw [if_pos hw, if_pos hw]
    cases r with
    | nil => rw [if_pos (by simp)]; exact ends h 0 []
    | cons p r' => rw [if_neg (by simp)]; exact hnext 0 (by decide) (by simp)
   ·rw [if_neg hw, if_neg hw]
    exact sends h hp hok hbz hne hsn hkp
end Go.Proofs.YtafoepfhepdcoaaGreat
