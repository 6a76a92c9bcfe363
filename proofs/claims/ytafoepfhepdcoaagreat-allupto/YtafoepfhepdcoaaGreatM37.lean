import Derived.Test.YtafoepfhepdcoaaGreatM28
import Derived.Test.YtafoepfhepdcoaaGreatM29
set_option maxRecDepth 100000
set_option maxHeartbeats 8000000
namespace Go.Proofs.YtafoepfhepdcoaaGreat
open Go.RowKit Go.Trawl
attribute [local go_sem] Stg.upon
def standsP (st : RSt) (x : Rc) (k : Int) : RSt × Value :=
 if st.c < (st.kept.length : Int) + 1 ∨ (st.seen.any fun s => sameB s x.data) = true then failP { st with kept := st.kept ++ [x] }
 else sendP { st with kept := st.kept ++ [x], seen := st.seen ++ [x.data], l := [freshCh st x.data k] } [] (freshCh st x.data k)
theorem seen_at {w : World} {a : Option Addr} {n c : Nat} {l : List ByteArray} (h : w.ownsRow 0 9 1 (.slice a n c) l.length (strV l)) {i : Nat} {x : ByteArray} (hi : l[i]? = some x) : ∃ g, a = some ⟨g, 0, none⟩ ∧ w.cell? ⟨g, i, none⟩ = some (.string x) := by
 rcases h.2 with ⟨_, h0⟩ | ⟨g, cap, cur, e, _⟩
 ·have : l = [] := List.eq_nil_of_length_eq_zero h0
  subst this
  simp at hi
 ·cases e
  have := h.cells (g := g) rfl i (.string x) (by unfold strV; rw [List.getElem?_map, hi]; rfl)
  refine ⟨g, rfl, ?_⟩
  have e : (⟨g, 0, none⟩ : Addr).add i = ⟨g, i, none⟩ := by
   unfold Addr.add
   by_cases h : i = 0
   ·rw [h]; rfl
   ·rw [if_neg h]; simp
  rw [e] at this
  exact this
theorem one_rc (x : Rc) : ∀ u ∈ x.cells, u.oneCell' = true := by
 intro u hu
 simp only [Rc.cells, List.mem_cons, List.not_mem_nil, or_false] at hu
 rcases hu with rfl | rfl | rfl | rfl | rfl <;> rfl
theorem sI1 : (Tryz.prog.info? 9).map (fun i => (i.zero, i.size, i.bytes)) = some (some (.string ⟨#[]⟩), 1, 16) := by kernel_rfl
theorem uS1 : Tryz.prog.underlying 39 = some (.slice 9) := by kernel_rfl
theorem RefAt.dropL {w : World} {rb : Nat} {st : RSt} {V : RV} {cs : List ChV} (h : RefAt w rb st V cs) : RefAt (w.setCell ⟨rb, 21, none⟩ (.slice none 0 0)) rb { st with l := [] } (withL V (.slice none 0 0)) [] ∧ Fr w (w.setCell ⟨rb, 21, none⟩ (.slice none 0 0)) (V.owns cs rb) ((withL V (.slice none 0 0)).owns [] rb) := by
 have hw := gs_ w rb 21 (.slice none 0 0)
 have hz : (w.setCell ⟨rb, 21, none⟩ (.slice none 0 0)).heap.size = w.heap.size := by simp [World.setCell]
 have hsub : ∀ v, v ∈ (withL V (.slice none 0 0)).reads [] → v ∈ V.reads cs := fun v hv => by
  simp only [RV.reads, withL, List.flatMap_nil, List.mem_cons, List.not_mem_nil, or_false] at hv
  simp only [RV.reads, List.mem_cons]
  rcases hv with e | e | e | e | e <;> simp [e]
 have hwr : ∀ k, (withL V (.slice none 0 0)).writes rb k → V.writes rb k := by
  rintro k (e | e | e | e)
  ·exact .inl e
  ·exact .inr (.inl e)
  ·exact .inr (.inr (.inl e))
  ·cases e
 have how : ∀ k, (withL V (.slice none 0 0)).owns [] rb k → V.owns cs rb k := by
  rintro k (e | ⟨v, hv, e⟩)
  ·exact .inl (hwr k e)
  ·exact .inr ⟨v, hsub v hv, e⟩
 obtain ⟨h1, h2, _⟩ := h.reads_keep (w' := w.setCell ⟨rb, 21, none⟩ (.slice none 0 0)) hw.size (fun k hk hn => hw.block k hk (fun e => hn (.inl (Option.some.inj e))))
 have nK : V.vK.ownBlock ≠ some rb := ot_ h.kept h.box (by decide)
 have nS : V.vS.ownBlock ≠ some rb := ot_ h.seen h.box (by decide)
 refine ⟨⟨by rw [hs_ h.box]; rfl, rfl, h1, h2, h.kept.kept hw (.inr nK), h.seen.kept hw (.inr nS), World.ownsRow_nil _ _ _ _, (fun c hc => by cases hc), fun v hv k hk hwk => h.free v (hsub v hv) k hk (hwr k hwk), fun k hk => by rw [hz]; exact h.lt k (how k hk), (fun c hc => by cases hc)⟩, ⟨hw.os, hw.tape, hw.output, hw.size, fun k hk hn => hw.block k hk (fun e => hn (.inl (.inl (Option.some.inj e)))), fun k hk => .inl (how k hk)⟩⟩
theorem stands_any (w : World) (rb : Nat) (st : RSt) (V : RV) (cs : List ChV) (x : Rc) (q : Qn) (h : RefAt w rb st V cs) (hok : StOk st) (hx : WfR x) (hq : st.asked.qs = [q]) (hqk : 0 ≤ q.kind ∧ q.kind ≤ 65535) (hsn : st.seen.length ≤ 999) :
  Calls Tryz.prog 137 #[.pointer (some ⟨rb, 0, none⟩), .agg #[.string x.name, .int .u16 x.kind, .int .u16 x.cls, .int .u32 x.ttl, .string x.data]] w (Says w rb V cs (standsP st x q.kind)) := by
 obtain ⟨i1, hi1, hy0, hy1, hy2⟩ := info_parts rI0
 have HLT := hide h.lt
 have hrl : rb < w.heap.size := hl_ h.box
 have hba := (Below.refl w.heap.size w).alloc (Nat.le_refl _) (.cells #[.string x.name, .int .u16 x.kind, .int .u16 x.cls, .int .u32 x.ttl, .string x.data] 69)
 have hx0 := hn_ w (.cells #[.string x.name, .int .u16 x.kind, .int .u16 x.cls, .int .u32 x.ttl, .string x.data] 69)
 have hz0 := as_ w (.cells #[.string x.name, .int .u16 x.kind, .int .u16 x.cls, .int .u32 x.ttl, .string x.data] 69)
 have hra := h.keep hba
 generalize hWa : w.alloc (.cells #[.string x.name, .int .u16 x.kind, .int .u16 x.cls, .int .u32 x.ttl, .string x.data] 69) = Wa at hba hx0 hz0 hra
 have hbb := (Below.refl Wa.heap.size Wa).alloc (Nat.le_refl _) (.cells #[.int .i64 0, .int .u32 0, .string ⟨#[]⟩] 111)
 have hxb := heap_old hx0 (.cells #[.int .i64 0, .int .u32 0, .string ⟨#[]⟩] 111)
 have hzb := hn_ Wa (.cells #[.int .i64 0, .int .u32 0, .string ⟨#[]⟩] 111)
 rw [hz0] at hzb
 have hrb := hra.keep hbb
 have hfb := Fr.of_below (hba.trans (hbb.mono hba.size)) (V.owns cs rb)
 generalize hWb : Wa.alloc (.cells #[.int .i64 0, .int .u32 0, .string ⟨#[]⟩] 111) = Wb at hbb hxb hzb hrb hfb
 have HFB := hide hfb
 clear hba hbb hx0 hra hfb h hz0
 obtain ⟨vR, vq, va, vu, vx, vK, vS, vL⟩ := V
 obtain ⟨aS, cS, rfl⟩ := os_ (show Wb.ownsRow 0 9 1 vS st.seen.length (strV st.seen) from hrb.seen)
 obtain ⟨aK, cK, rfl⟩ := os_ (show Wb.ownsRow 0 69 5 vK st.kept.length ((st.kept.map Rc.cells).flatten) from hrb.kept)
 obtain ⟨W0, hW0⟩ : ∃ x : World, x = Wb.drew := ⟨_, rfl⟩
 obtain ⟨W1, hW1⟩ : ∃ y : World, y = W0.alloc (.cells x.cells.toArray 69) := ⟨_, rfl⟩
 have hb0 : Below Wb.heap.size Wb W0 := by rw [hW0]; exact below_drewN (Below.refl _ _) 1
 have hb1 : Below Wb.heap.size Wb W1 := by
  rw [hW1, hW0]
  exact (below_drewN (Below.refl _ _) 1).alloc (Nat.le_refl _) _
 have h1 := hrb.keep hb1
 have hkl := hok.kept
 obtain ⟨v5, W2, hrun, g5⟩ := append_grew (P := Tryz.prog) W1 28 28 69 i1 _ 5 40 uRs hi1 hy0 hy1 hy2 rfl (by decide) _ st.kept.length _ h1.kept ⟨W0.heap.size, 0, none⟩ 1 1 x.cells rfl (by rw [hW1]; exact cells_new W0 x.cells.toArray _) (one_rc x) (by unfold maxLen; omega) (by omega)
 obtain ⟨a5, c5, rfl⟩ := os_ g5.own
 have HP := hide (h1.pushK g5 x (by simp) (by simp))
 have HNO : Hid (∀ k, w.heap.size ≤ k → k ≤ w.heap.size + 1 → ¬ RV.owns ⟨vR, vq, va, vu, vx, .slice a5 (st.kept.length + 1) c5, .slice aS st.seen.length cS, vL⟩ cs rb k) := fun k k1 k2 e => by
  rcases HP.out.2.new k e with e | e
  ·have := HLT.out k e; omega
  ·have := hl_ hzb; have := hb1.size; omega
 have nK : (Value.slice aK st.kept.length cK).ownBlock ≠ some w.heap.size := fun e => by have := HLT.out _ (.inl (.inr (.inl e))); omega
 have nK1 : (Value.slice aK st.kept.length cK).ownBlock ≠ some (w.heap.size + 1) := fun e => by have := HLT.out _ (.inl (.inr (.inl e))); omega
 have hbox0 := (hb0.block rb (hl_ hrb.box)).trans hrb.box
 have hbox1 := h1.box
 have hbox2 := (g5.keeps (hl_ h1.box) (ot_ h1.kept h1.box (by decide))).1.trans h1.box
 have hx0 := (hb0.block _ (hl_ hxb)).trans hxb
 have hx1 := (hb1.block _ (hl_ hxb)).trans hxb
 have hx2 := (g5.grown.block _ (hl_ hx1) (fun e => nK e.symm)).trans hx1
 have hz1 := (hb1.block _ (hl_ hzb)).trans hzb
 have hz2 := (g5.grown.block _ (hl_ hz1) (fun e => nK1 e.symm)).trans hz1
 obtain ⟨f, hf0, hf1, hf2, hfp⟩ := Stg.coverE W0 W1 W2
 have hcf := hfp (fun y => ∀ o, y.cell? ⟨rb, o, none⟩ = (refCells st ⟨vR, vq, va, vu, vx, .slice aK st.kept.length cK, .slice aS st.seen.length cS, vL⟩)[o]?) (bc_ hbox0) (bc_ hbox1) (bc_ hbox2)
 have hcx := hfp (fun y => ∀ o, y.cell? ⟨w.heap.size, o, none⟩ = #[Value.string x.name, .int .u16 x.kind, .int .u16 x.cls, .int .u32 x.ttl, .string x.data][o]?) (bc_ hx0) (bc_ hx1) (bc_ hx2)
 simp only [refCells] at hcf
 have hfz := fz_ hbox2
 obtain ⟨W3, hW3⟩ : ∃ x : World, x = W2.setCell ⟨rb, 19, none⟩ (.slice a5 (st.kept.length + 1) c5) := ⟨_, rfl⟩
 have HU := hide (Stg.pick4_cover (E := W3) hf0 hf1 hf2)
 obtain ⟨f4, hq0, hq1, hq2, hq3, _⟩ := Stg.coverE4 W0 W1 W2 W3
 have HU4 := hide (Stg.pick4_cover4 hq0 hq1 hq2 hq3)
 clear hq0 hq1 hq2 hq3
 have hc2 := bc_ hbox2
 simp only [refCells] at hc2
 have HR := hide hrun
 have HW1 := hide hW1
 have HW3 := hide hW3
 have HB1 := hide hb1
 have HX3 : Hid (W3.heap[w.heap.size]? = some (.cells #[.string x.name, .int .u16 x.kind, .int .u16 x.cls, .int .u32 x.ttl, .string x.data] 69)) := by
  rw [hW3]
  exact (Below.heap_setCell W2 ⟨rb, 19, none⟩ _ _ (show w.heap.size ≠ rb by omega)).trans hx2
 have HZ3 : Hid (W3.heap[w.heap.size + 1]? = some (.cells #[.int .i64 0, .int .u32 0, .string ⟨#[]⟩] 111)) := by
  rw [hW3]
  exact (Below.heap_setCell W2 ⟨rb, 19, none⟩ _ _ (show w.heap.size + 1 ≠ rb by omega)).trans hz2
 have HWA := hide hWa
 have HWB := hide hWb
 have HOK := hide hok
 have HX := hide hx
 have HQ := hide hq
 clear hf0 hf1 hf2 hfp hrun hW1 hW3 hb0 hb1 h1 hbox0 hbox1 hbox2 g5 hrb hWa hWb hok hx hq hx0 hx1 hx2 hz1 hz2 hxb hzb nK nK1
 unfold Says
 go_enter Tryz.func137, Tryz.ntmps137
 go_wp2_with fail
 rw [HWA.out, HWB.out]
 refine Stg.wp_region_stage [6, 7, 10] (fun j w' => w' = Stg.pick4 W0 W1 W2 W3 j) (by kernel_rfl) (by kernel_rfl) hW0.symm ?_
 clear hW0
 refine Stg.lex_upto 6 3 (by decide) (by kernel_rfl) HU.out ?_
 simp only [List.take_succ_cons, List.take_zero, List.drop_succ_cons, List.drop_zero]
 repeat (first | go_big_quiet_step (fail) | quiet_step (fail))
 refine wpQuiet_nil ?_
 refine Stg.lex_move 0 (by kernel_rfl) (.slice (some ⟨W0.heap.size, 0, none⟩) 1 1) ?_ ?_
 ·intro w' hw'
  rw [show w' = W0 from hw', show Stg.pick4 W0 W1 W2 W3 (0 + 1) = W1 from rfl]
  clear hw' w'
  go_simp
  exact HW1.out.symm
 refine Stg.lex_move 1 (by kernel_rfl) (.slice a5 (st.kept.length + 1) c5) ?_ ?_
 ·intro w' hw'
  rw [show w' = W1 from hw', show Stg.pick4 W0 W1 W2 W3 (1 + 1) = W2 from rfl]
  clear hw' w'
  exact Stg.upon_append rfl rfl rfl HR.out rfl
 refine Stg.lex_upto 2 4 (by decide) (by kernel_rfl) HU4.out ?_
 simp only [List.take_succ_cons, List.take_zero, List.drop_succ_cons, List.drop_zero]
 repeat (first | go_big_quiet_step (fail) | quiet_step (fail))
 refine wpQuiet_nil ?_
 refine Stg.lex_move 2 (by kernel_rfl) undef ?_ ?_
 ·intro w' hw'
  rw [show w' = W2 from hw', show Stg.pick4 W0 W1 W2 W3 (2 + 1) = W3 from rfl]
  clear hw' w'
  go_simp
  exact HW3.out.symm
 refine Stg.lex_nil ?_
 intro w' hw'
 rw [show w' = W3 from hw']
 clear hw' w'
 clear HU HR HW1 hcf hcx hfz HU4 hc2 HWA HWB
 have H3 : Hid (RefAt W3 rb { st with kept := st.kept ++ [x] } ⟨vR, vq, va, vu, vx, .slice a5 (st.kept.length + 1) c5, .slice aS st.seen.length cS, vL⟩ cs) := by show RefAt _ _ _ _ _; rw [HW3.out]; exact HP.out.1
 have HF3 : Hid (Fr w W3 (RV.owns ⟨vR, vq, va, vu, vx, .slice aK st.kept.length cK, .slice aS st.seen.length cS, vL⟩ cs rb) (RV.owns ⟨vR, vq, va, vu, vx, .slice a5 (st.kept.length + 1) c5, .slice aS st.seen.length cS, vL⟩ cs rb)) := by
  show Fr _ _ _ _
  rw [HW3.out]
  exact (HFB.out.trans (Fr.of_below HB1.out _)).trans HP.out.2
 clear HP HW3 HB1 HFB
 have hc3 := bc_ H3.out.box
 simp only [refCells] at hc3
 have hsl := HOK.out.seen
 have hch0 := HOK.out.c0
 have hch1 := HOK.out.c1
 go_wp2_with fail
 go_quiet (fail)
 go_wp2_with fail
 obtain ⟨b0, hb0⟩ : ∃ b0, b0 = decide (st.c < (st.kept.length : Int) + 1) := ⟨_, rfl⟩
 rw [← hb0]
 have HB0 := hide hb0
 have HW0 : Hid (∃ n, W3.drewN nq = W3.drewN n) := ⟨nq, rfl⟩
 clear hb0 hc3
 go_loopw [5, 6] (fun ag i wr => ∃ (k : Nat) (ab : Bool), ag = .bool ab ∧ i = .int .i64 k ∧ k ≤ st.seen.length ∧ Hid (ab = (b0 || (st.seen.take k).any fun s => sameB s x.data)) ∧ Hid (∃ n, wr = W3.drewN n)) (fun _ i _ => st.seen.length - (intOf i).toNat)
 case atStart => exact ⟨0, b0, rfl, rfl, Nat.zero_le _, by unfold Hid; simp, HW0.out⟩
 case round =>
  obtain ⟨k, ab, rfl, rfl, hk, HA, HW⟩ := hrel
  have hcw : ∀ p, wr.cell? p = W3.cell? p := by obtain ⟨n, rfl⟩ := HW.out; intro p; rfl
  have hcr : wr.cell? ⟨rb, 20, none⟩ = some (.slice aS st.seen.length cS) := (hcw _).trans ((bc_ H3.out.box 20).trans rfl)
  by_cases hlt : k < st.seen.length
  ·obtain ⟨s0, hs0⟩ : ∃ s0, st.seen[k]? = some s0 := ⟨_, List.getElem?_eq_getElem hlt⟩
   obtain ⟨gS, rfl, hcs⟩ := seen_at H3.out.seen hs0
   have hcx : wr.cell? ⟨w.heap.size, 4, none⟩ = some (.string x.data) := (hcw _).trans ((bc_ HX3.out 4).trans rfl)
   rw [← hcw] at hcs
   have hss := HOK.out.texts s0 (List.mem_of_getElem? hs0)
   have HTK : Hid ((st.seen.take (k + 1)).any (fun s => sameB s x.data) = ((st.seen.take k).any (fun s => sameB s x.data) || sameB s0 x.data)) := by
    unfold Hid
    rw [take_snoc st.seen k s0 hs0]
    simp
   clear hs0
   have HCW : Hid (∀ p, wr.cell? p = W3.cell? p) := hcw
   clear hcw
   go_wp2_with fail
   go_region_held3 (fun w' => w'.cell? ⟨rb, 20, none⟩ = some (.slice (some ⟨gS, 0, none⟩) st.seen.length cS) ∧ w'.cell? ⟨gS, k, none⟩ = some (.string s0) ∧ w'.cell? ⟨w.heap.size, 4, none⟩ = some (.string x.data)) (first | (go_keep; done) | (rw [hw7]; exact ⟨hcr, hcs, hcx⟩)) (first | (go_at_call 90; refine (refSame_any s0 x.data hss wr.drew).mono ?_; rintro e w7 ⟨rfl, n7, hw7⟩))
   have HWN : Hid (∃ n, wr.drewN (1 + n7) = W3.drewN n) := by obtain ⟨n, hn⟩ := HW.out; exact ⟨n + (1 + n7), by rw [hn, World.drewN_drewN]⟩
   clear hcr hcs hcx HCW hw7
   generalize sameB s0 x.data = sv at HTK ⊢
   generalize wr.drewN (1 + n7) = wn at HWN ⊢
   cases ab
   ·go_wp2_with fail
    exact ⟨⟨k + 1, sv, rfl, by go_num, by omega, by unfold Hid; rw [HTK.out, ← Bool.or_assoc, ← HA.out, Bool.false_or], HWN.out⟩, by simp [intOf]; omega⟩
   ·go_wp2_with fail
    exact ⟨⟨k + 1, true, rfl, by go_num, by omega, by unfold Hid; rw [HTK.out, ← Bool.or_assoc, ← HA.out, Bool.true_or], HWN.out⟩, by simp [intOf]; omega⟩
  ·have hka : k = st.seen.length := by omega
   have HAB : Hid (ab = (b0 || st.seen.any fun s => sameB s x.data)) := by
    unfold Hid
    rw [HA.out, hka, List.take_length]
   have hbw : Below W3.heap.size W3 wr := by
    obtain ⟨n, hn⟩ := HW.out
    rw [hn]
    exact below_drewN (Below.refl _ _) n
   have H4 := hide (H3.out.keep hbw)
   have HF4 := hide (HF3.out.trans (Fr.of_below hbw _))
   have HX4 := hide ((hbw.block _ (hl_ HX3.out)).trans HX3.out)
   have HZ4 := hide ((hbw.block _ (hl_ HZ3.out)).trans HZ3.out)
   clear hcw hbw H3 HF3 HX3 HZ3 HW HA hka
   have HFO : Hid (WfM (doneM { st with kept := st.kept ++ [x] } 2 [])) := { wf_fail HOK.out with }
   cases ab
   ·have HSP : Hid (standsP st x q.kind = sendP { st with kept := st.kept ++ [x], seen := st.seen ++ [x.data], l := [freshCh st x.data q.kind] } [] (freshCh st x.data q.kind)) := by
     unfold standsP Hid
     rw [if_neg]
     have := HAB.out
     rw [HB0.out] at this
     simp only [Bool.false_eq, Bool.or_eq_false_iff, decide_eq_false_iff_not] at this
     rintro (e | e)
     ·exact this.1 e
     ·rw [this.2] at e; cases e
    obtain ⟨j1, hj1, hj0, hj2, hj3⟩ := info_parts sI1
    obtain ⟨Z0, hZ0⟩ : ∃ x : World, x = wr.drew := ⟨_, rfl⟩
    obtain ⟨Z1, hZ1⟩ : ∃ y : World, y = Z0.alloc (.cells #[.string x.data] 9) := ⟨_, rfl⟩
    have hb0 : Below wr.heap.size wr Z0 := by rw [hZ0]; exact below_drewN (Below.refl _ _) 1
    have hb1 : Below wr.heap.size wr Z1 := by
     rw [hZ1, hZ0]
     exact (below_drewN (Below.refl _ _) 1).alloc (Nat.le_refl _) _
    have h1 := H4.out.keep hb1
    have hseen1 : Z1.ownsRow 0 9 1 (.slice aS st.seen.length cS) st.seen.length (strV st.seen) := h1.seen
    obtain ⟨v6, Z2, hrun, g6⟩ := append_grew (P := Tryz.prog) Z1 39 39 9 j1 _ 1 16 uS1 hj1 hj0 hj2 hj3 rfl (by decide) _ st.seen.length _ hseen1 ⟨Z0.heap.size, 0, none⟩ 1 1 [Value.string x.data] rfl (by rw [hZ1]; exact cells_new Z0 #[Value.string x.data] _) (fun u hu => by simp at hu; subst hu; rfl) (by unfold maxLen; omega) (by omega)
    obtain ⟨a6, c6, rfl⟩ := os_ g6.own
    have HP6 := hide (h1.pushS g6 x.data (by simp) (by simp [strV]))
    have nS : (Value.slice aS st.seen.length cS).ownBlock ≠ some w.heap.size := fun e => HNO.out _ (Nat.le_refl _) (by omega) (.inl (.inr (.inr (.inl e))))
    have nS1 : (Value.slice aS st.seen.length cS).ownBlock ≠ some (w.heap.size + 1) := fun e => HNO.out _ (by omega) (Nat.le_refl _) (.inl (.inr (.inr (.inl e))))
    have hbox0 := (hb0.block rb (hl_ H4.out.box)).trans H4.out.box
    have hbox1 := h1.box
    have hbox2 := (g6.keeps (hl_ h1.box) (ot_ h1.seen h1.box (by decide))).1.trans h1.box
    have hx0 := (hb0.block _ (hl_ HX4.out)).trans HX4.out
    have hx1 := (hb1.block _ (hl_ HX4.out)).trans HX4.out
    have hx2 := (g6.grown.block _ (hl_ hx1) (fun e => nS e.symm)).trans hx1
    have hz1 := (hb1.block _ (hl_ HZ4.out)).trans HZ4.out
    have hz2 := (g6.grown.block _ (hl_ hz1) (fun e => nS1 e.symm)).trans hz1
    obtain ⟨f, hf0, hf1, hf2, hfp⟩ := Stg.coverE Z0 Z1 Z2
    have hcf := hfp (fun y => ∀ o, y.cell? ⟨rb, o, none⟩ = (refCells { st with kept := st.kept ++ [x] } ⟨vR, vq, va, vu, vx, .slice a5 (st.kept.length + 1) c5, .slice aS st.seen.length cS, vL⟩)[o]?) (bc_ hbox0) (bc_ hbox1) (bc_ hbox2)
    have hcx := hfp (fun y => ∀ o, y.cell? ⟨w.heap.size, o, none⟩ = #[Value.string x.name, .int .u16 x.kind, .int .u16 x.cls, .int .u32 x.ttl, .string x.data][o]?) (bc_ hx0) (bc_ hx1) (bc_ hx2)
    simp only [refCells] at hcf
    have hfz := fz_ hbox2
    obtain ⟨Z3, hZ3⟩ : ∃ x : World, x = Z2.setCell ⟨rb, 20, none⟩ (.slice a6 (st.seen.length + 1) c6) := ⟨_, rfl⟩
    have HU := hide (Stg.pick4_cover (E := Z3) hf0 hf1 hf2)
    obtain ⟨f4, hq0, hq1, hq2, hq3, _⟩ := Stg.coverE4 Z0 Z1 Z2 Z3
    have HU4 := hide (Stg.pick4_cover4 hq0 hq1 hq2 hq3)
    clear hq0 hq1 hq2 hq3
    have hc2 := bc_ hbox2
    simp only [refCells] at hc2
    have HR := hide hrun
    have HZ1' := hide hZ1
    have HZ3' := hide hZ3
    have HB1 := hide hb1
    have HX3 : Hid (Z3.heap[w.heap.size]? = some (.cells #[.string x.name, .int .u16 x.kind, .int .u16 x.cls, .int .u32 x.ttl, .string x.data] 69)) := by
     rw [hZ3]
     exact (Below.heap_setCell Z2 ⟨rb, 20, none⟩ _ _ (show w.heap.size ≠ rb by omega)).trans hx2
    have HZR : Hid (Z3.heap[w.heap.size + 1]? = some (.cells #[.int .i64 0, .int .u32 0, .string ⟨#[]⟩] 111)) := by
     rw [hZ3]
     exact (Below.heap_setCell Z2 ⟨rb, 20, none⟩ _ _ (show w.heap.size + 1 ≠ rb by omega)).trans hz2
    clear hf0 hf1 hf2 hfp hrun hZ1 hZ3 hb0 hb1 h1 hbox0 hbox1 hbox2 g6 hx0 hx1 hx2 hz1 hz2 nS nS1 hseen1
    go_wp2_with fail
    refine Stg.wp_region_stage [7, 8, 11] (fun j w' => w' = Stg.pick4 Z0 Z1 Z2 Z3 j) (by kernel_rfl) (by kernel_rfl) hZ0.symm ?_
    clear hZ0
    refine Stg.lex_upto 7 3 (by decide) (by kernel_rfl) HU.out ?_
    simp only [List.take_succ_cons, List.take_zero, List.drop_succ_cons, List.drop_zero]
    repeat (first | go_big_quiet_step (fail) | quiet_step (fail))
    refine wpQuiet_nil ?_
    refine Stg.lex_move 0 (by kernel_rfl) (.slice (some ⟨Z0.heap.size, 0, none⟩) 1 1) ?_ ?_
    ·intro w' hw'
     rw [show w' = Z0 from hw', show Stg.pick4 Z0 Z1 Z2 Z3 (0 + 1) = Z1 from rfl]
     clear hw' w'
     go_simp
     exact HZ1'.out.symm
    refine Stg.lex_move 1 (by kernel_rfl) (.slice a6 (st.seen.length + 1) c6) ?_ ?_
    ·intro w' hw'
     rw [show w' = Z1 from hw', show Stg.pick4 Z0 Z1 Z2 Z3 (1 + 1) = Z2 from rfl]
     clear hw' w'
     exact Stg.upon_append rfl rfl rfl HR.out rfl
    refine Stg.lex_upto 2 4 (by decide) (by kernel_rfl) HU4.out ?_
    simp only [List.take_succ_cons, List.take_zero, List.drop_succ_cons, List.drop_zero]
    repeat (first | go_big_quiet_step (fail) | quiet_step (fail))
    refine wpQuiet_nil ?_
    refine Stg.lex_move 2 (by kernel_rfl) undef ?_ ?_
    ·intro w' hw'
     rw [show w' = Z2 from hw', show Stg.pick4 Z0 Z1 Z2 Z3 (2 + 1) = Z3 from rfl]
     clear hw' w'
     go_simp
     exact HZ3'.out.symm
    refine Stg.lex_nil ?_
    intro w' hw'
    rw [show w' = Z3 from hw']
    clear hw' w'
    clear HU HR HZ1' hcf hcx hfz HU4 hc2
    have H5 : Hid (RefAt Z3 rb { st with kept := st.kept ++ [x], seen := st.seen ++ [x.data] } ⟨vR, vq, va, vu, vx, .slice a5 (st.kept.length + 1) c5, .slice a6 (st.seen.length + 1) c6, vL⟩ cs) := by show RefAt _ _ _ _ _; rw [HZ3'.out]; exact HP6.out.1
    have HF5 : Hid (Fr w Z3 (RV.owns ⟨vR, vq, va, vu, vx, .slice aK st.kept.length cK, .slice aS st.seen.length cS, vL⟩ cs rb) (RV.owns ⟨vR, vq, va, vu, vx, .slice a5 (st.kept.length + 1) c5, .slice a6 (st.seen.length + 1) c6, vL⟩ cs rb)) := by
     show Fr _ _ _ _
     rw [HZ3'.out]
     exact (HF4.out.trans (Fr.of_below HB1.out _)).trans HP6.out.2
    have HNO5 : Hid (∀ k, w.heap.size ≤ k → k ≤ w.heap.size + 1 → ¬ RV.owns ⟨vR, vq, va, vu, vx, .slice a5 (st.kept.length + 1) c5, .slice a6 (st.seen.length + 1) c6, vL⟩ cs rb k) := fun k k1 k2 e => by
     rcases HP6.out.2.new k e with e | e
     ·exact HNO.out k k1 k2 e
     ·have := hl_ HZ4.out; have := HB1.out.size; omega
    clear HP6 HZ3' HB1 H4 HF4 HX4 HZ4 HNO
    have hc5 := bc_ H5.out.box
    simp only [refCells] at hc5
    have hf5 := fz_ H5.out.box
    go_wp2_with fail
    clear hc5 hf5
    have hD := H5.out.dropL
    have H6 := hide hD.1
    have HF6 := hide (HF5.out.trans hD.2)
    have HNO6 : Hid (∀ k, w.heap.size ≤ k → k ≤ w.heap.size + 1 → ¬ (withL ⟨vR, vq, va, vu, vx, .slice a5 (st.kept.length + 1) c5, .slice a6 (st.seen.length + 1) c6, vL⟩ (.slice none 0 0)).owns [] rb k) := fun k k1 k2 e => by
     rcases hD.2.new k e with e | e
     ·exact HNO5.out k k1 k2 e
     ·have := hl_ HZR.out; omega
    have HX6 := hide ((Below.heap_setCell Z3 ⟨rb, 21, none⟩ (.slice none 0 0) _ (show w.heap.size ≠ rb by omega)).trans HX3.out)
    have HZ6 := hide ((Below.heap_setCell Z3 ⟨rb, 21, none⟩ (.slice none 0 0) _ (show w.heap.size + 1 ≠ rb by omega)).trans HZR.out)
    clear hD H5 HF5 HNO5 HX3 HZR
    generalize hVF : withL ⟨vR, vq, va, vu, vx, .slice a5 (st.kept.length + 1) c5, .slice a6 (st.seen.length + 1) c6, vL⟩ (.slice none 0 0) = VF at H6 HF6 HNO6
    generalize Z3.setCell ⟨rb, 21, none⟩ (.slice none 0 0) = Z4 at H6 HF6 HX6 HZ6 ⊢
    have hvq : VF.vq = vq := by rw [← hVF]; rfl
    have HVR : Hid (VF.vR = vR) := by show _ = _; rw [← hVF]; rfl
    clear hVF
    have hqa := H6.out.asked.q
    rw [show ({ st with kept := st.kept ++ [x], seen := st.seen ++ [x.data], l := [] } : RSt).asked.qs = [q] from HQ.out] at hqa
    have hqa0 := hqa
    obtain ⟨aq, cq, hvq2, _⟩ := hqa0
    rw [hvq2] at hqa
    obtain ⟨b, off, rfl, _, d1, _⟩ := q_one hqa
    have HVQ := hide hvq2
    have hc6 := bc_ H6.out.box
    simp only [refCells, hvq2] at hc6
    have hcx := bc_ HX6.out
    have hbd : Below Z4.heap.size Z4 Z4.drew := below_drewN (Below.refl Z4.heap.size Z4) 1
    have HR7 := hide (H6.out.keep hbd)
    have HF7 := hide (HF6.out.trans (Fr.of_below hbd _))
    have HX7 := hide ((hbd.block _ (hl_ HX6.out)).trans HX6.out)
    have HZ7 := hide ((hbd.block _ (hl_ HZ6.out)).trans HZ6.out)
    have HS8 : Hid (∀ (w8 : World) (v' : Value) (cs' : List ChV) (st' : RSt), RefAt w8 rb st' (withL VF v') cs' → st'.asked = st.asked → Fr Z4.drew w8 (VF.owns [] rb) ((withL VF v').owns cs' rb) → w8.cell? ⟨w.heap.size, 4, none⟩ = some (.string x.data) ∧ w8.cell? ⟨rb, 15, none⟩ = some (.slice (some ⟨b, off, none⟩) ([q].map Qn.cells).length cq) ∧ w8.cell? ⟨b, off + 1, none⟩ = some (.int .u16 q.kind)) := by
     intro w8 v' cs' st' h8 ha f8
     have hq := h8.asked.q
     rw [ha, HQ.out, show (withL VF v').vq = VF.vq from rfl, HVQ.out] at hq
     obtain ⟨b2, off2, he, _, e1, _⟩ := q_one hq
     cases he
     refine ⟨(bc_ ((f8.block _ (hl_ HX7.out) (HNO6.out _ (Nat.le_refl _) (by omega))).trans HX7.out) 4).trans rfl, (bc_ h8.box 15).trans ?_, e1⟩
     show some VF.vq = _
     rw [HVQ.out]
    clear hbd hvq hqa hvq2
    go_region_held3 (fun w' => w'.cell? ⟨w.heap.size, 4, none⟩ = some (.string x.data) ∧ w'.cell? ⟨rb, 15, none⟩ = some (.slice (some ⟨b, off, none⟩) ([q].map Qn.cells).length cq) ∧ w'.cell? ⟨b, off + 1, none⟩ = some (.int .u16 q.kind)) (first | (go_keep; done) | (exact hs8)) (first | (go_at_call 88; refine (chase_any Z4.drew rb { st with kept := st.kept ++ [x], seen := st.seen ++ [x.data], l := [] } VF [] x.data q.kind HR7.out (by simp)).mono ?_; rintro e w8 ⟨rfl, H8⟩; obtain ⟨v', h8, f8⟩ := H8.out; have hs8 := HS8.out w8 v' _ _ h8 rfl f8))
    clear hc6 hcx d1 hs8
    have H9 : Hid (RefAt w8 rb { st with kept := st.kept ++ [x], seen := st.seen ++ [x.data], l := [freshCh st x.data q.kind] } (withL VF v') ([] ++ [⟨freshCh st x.data q.kind, VF.vR, .slice none 0 0⟩])) := h8
    have HF9 := hide (HF7.out.trans f8)
    have HZ9 := hide ((f8.block _ (hl_ HZ7.out) (HNO6.out _ (by omega) (Nat.le_refl _))).trans HZ7.out)
    have HNO9 : Hid (¬ (withL VF v').owns ([] ++ [⟨freshCh { st with kept := st.kept ++ [x], seen := st.seen ++ [x.data], l := [] } x.data q.kind, VF.vR, .slice none 0 0⟩]) rb (w.heap.size + 1)) := fun e => by
     rcases f8.new _ e with e | e
     ·exact HNO6.out _ (by omega) (Nat.le_refl _) e
     ·have := hl_ HZ7.out; omega
    clear h8 f8 H8 HR7 HF7 HX7 HZ7 H6 HF6 HX6 HZ6 HS8
    have HOK9 : Hid (StOk { st with kept := st.kept ++ [x], seen := st.seen ++ [x.data], l := [freshCh st x.data q.kind] }) := by
     have h := HOK.out
     have hkc : st.kept.length + 1 ≤ 10 := by
      have := HAB.out
      rw [HB0.out] at this
      simp only [Bool.false_eq, Bool.or_eq_false_iff, decide_eq_false_iff_not] at this
      have h1 := this.1
      have h2 := h.c1
      omega
     have hf := fresh_ok h x.data HX.out.data q.kind hqk.1 hqk.2
     exact ⟨h.b0, h.b1, h.d0, h.d1, h.c0, h.c1, h.t0, h.t1, h.r0, h.r1, h.id0, h.id1, h.asked, by simp; omega, (fun r hr => by
      rcases List.mem_append.1 hr with hr | hr
      ·exact h.recs r hr
      ·simp at hr; subst hr; exact HX.out), by simp; omega, (fun y hy => by
      rcases List.mem_append.1 hy with hy | hy
      ·exact h.texts y hy
      ·simp at hy; subst hy; exact HX.out.data), by simp, (fun c hc => by simp at hc; subst hc; exact hf), h.spent⟩
    have HNE : Hid (st.roots ≠ []) := fun e => by have := HOK.out.r0; rw [e] at this; simp at this
    obtain ⟨p, hp⟩ : ∃ p, p = sendP { st with kept := st.kept ++ [x], seen := st.seen ++ [x.data], l := [freshCh st x.data q.kind] } [] (freshCh st x.data q.kind) := ⟨_, rfl⟩
    have HPP := hide hp
    clear hp
    go_wp2_with fail
    refine (send_any w8 rb { st with kept := st.kept ++ [x], seen := st.seen ++ [x.data], l := [freshCh st x.data q.kind] } (withL VF v') [] ⟨freshCh st x.data q.kind, VF.vR, .slice none 0 0⟩ H9.out HOK9.out HNE.out).mono ?_
    rintro e w10 ⟨he, H10⟩
    have he2 : e = .returned p.2 := by rw [he, HPP.out]; rfl
    subst he2
    clear he
    obtain ⟨k', t', s', hst⟩ : ∃ k t s, p.2 = stepV k t s := by rw [HPP.out]; exact sendP_step _ _ _
    rw [hst]
    obtain ⟨V', cs', h10, f10⟩ := H10.out
    have H11 : Hid (RefAt w10 rb p.1 V' cs') := by show RefAt _ _ _ _ _; rw [HPP.out]; exact h10
    have HF11 := hide (HF9.out.trans f10)
    have HZ11 := hide ((f10.block _ (hl_ HZ9.out) HNO9.out).trans HZ9.out)
    have HNO11 : Hid (¬ V'.owns cs' rb (w.heap.size + 1)) := fun e => by
     rcases f10.new _ e with e | e
     ·exact HNO9.out e
     ·have := hl_ HZ9.out; omega
    clear h10 f10 H10
    have HST := hide hst
    clear hst
    unfold stepV
    have hcz := bc_ HZ11.out
    have hfz := fz_ HZ11.out
    go_wp2_with fail
    clear hcz hfz
    refine bodyPost_ret (results_cell_row rfl _ _ (w.heap.size + 1) _ _ _ _ rfl (pb_ (.int .i64 k') (.int .u32 t') (.string s') HZ11.out) undSt rfl (by kernel_rfl)) rfl ?_
    have hG := pg_ w10 (w.heap.size + 1) (.int .i64 k') (.int .u32 t') (.string s')
    rw [HSP.out, ← HPP.out]
    exact ⟨by rw [HST.out]; rfl, V', cs', H11.out.aside hG HNO11.out, HF11.out.write hG (by omega)⟩
   ·have HSP : Hid (standsP st x q.kind = failP { st with kept := st.kept ++ [x] }) := by
     unfold standsP Hid
     rw [if_pos]
     have := HAB.out
     rw [HB0.out] at this
     simp only [Bool.true_eq, Bool.or_eq_true, decide_eq_true_eq] at this
     exact this
    go_wp2_with fail
    refine (done_any wr rb { st with kept := st.kept ++ [x] } _ cs 2 (.slice none 0 0) [] H4.out ⟨none, 0, rfl, fun _ => rfl, .inl rfl⟩ (fun k hk => by cases hk) HFO.out (by have := HOK.out.kept; simp; omega)).mono ?_
    rintro e w5 ⟨rfl, h5⟩
    have H5 := hide h5.out.1
    have HF5 := hide (HF4.out.trans h5.out.2)
    have HZ5 := hide ((h5.out.2.block _ (hl_ HZ4.out) (HNO.out _ (by omega) (Nat.le_refl _))).trans HZ4.out)
    clear h5 H4 HF4 HZ4
    unfold stepV
    generalize hbs : str (replyL (doneM { st with kept := st.kept ++ [x] } 2 [])) = bs
    have hcz := bc_ HZ5.out
    have hfz := fz_ HZ5.out
    go_wp2_with fail
    clear hcz hfz
    refine bodyPost_ret (results_cell_row rfl _ _ (w.heap.size + 1) _ _ _ _ rfl (pb_ (.int .i64 2) (.int .u32 0) (.string bs) HZ5.out) undSt rfl (by kernel_rfl)) rfl ?_
    have hG := pg_ w5 (w.heap.size + 1) (.int .i64 2) (.int .u32 0) (.string bs)
    rw [HSP.out]
    refine ⟨by unfold failP; rw [hbs]; rfl, _, _, H5.out.aside hG (HNO.out _ (by omega) (Nat.le_refl _)), HF5.out.write hG (by omega)⟩
end Go.Proofs.YtafoepfhepdcoaaGreat
namespace Go.Proofs.YtafoepfhepdcoaaGreat
open Go.RowKit Go.Trawl
def glueL (m : Msg) (zone name : ByteArray) : List Int := addrs (m.ex.filter (ofB zone name 1))
def downStep (m : Msg) (zone : ByteArray) (acc : List ByteArray × List Int) (r : Rc) : List ByteArray × List Int := if acc.1.any (fun n => sameB n r.data) then acc else (acc.1 ++ [r.data], acc.2 ++ glueL m zone r.data)
def downL (m : Msg) (zone : ByteArray) (l : List Rc) : List ByteArray × List Int := l.foldl (downStep m zone) ([], [])
def downC (m : Msg) (c : Ch) (zone : ByteArray) : Ch := { c with zone := zone, sent := 0, servers := (downL m c.zone (m.au.filter (ofB c.zone zone 2))).2, names := (downL m c.zone (m.au.filter (ofB c.zone zone 2))).1 }
def downP (st : RSt) (r : List Ch) (c : Ch) (zone : ByteArray) (m : Msg) : RSt × Value :=
 if (downC m c zone).servers = [] then lookP { st with l := r ++ [downC m c zone] } (downC m c zone :: r.reverse) else sendP { st with l := r ++ [downC m c zone] } r (downC m c zone)
def leads (c : Ch) (r : Rc) : Bool := liesB r.name c.zone && !sameB r.name c.zone && liesB c.name r.name && decide (r.kind = 2) && decide (r.cls = 1)
def nextP (st : RSt) (r : List Ch) : RSt × Value := lookP st r.reverse
def foundP (st : RSt) (l : List Rc) (code : Int) : RSt × Value := ({ st with busy := false }, stepV 2 0 (str (replyL (doneM st code l))))
def followsP (st : RSt) (r : List Ch) (c : Ch) (m : Msg) : RSt × Value :=
 if m.code ≠ 0 ∧ m.code ≠ 3 then sendP st r c
 else
  let l := m.an.filter (ofB c.zone c.name c.kind)
  if l ≠ [] then
   match r.reverse with
   | [] => foundP st l 0
   | p :: ps => if addrs l = [] then nextP st r else sendP { st with l := ps.reverse ++ [{ p with servers := addrs l }] } ps.reverse { p with servers := addrs l }
  else
   match m.an.filter (ofB c.zone c.name 5) with
   | x :: _ => if r = [] then standsP st x ((st.asked.qs.map Qn.kind).headD 0) else nextP st r
   | [] =>
    if m.code = 3 then (if r = [] then foundP st [] 3 else nextP st r)
    else match m.au.find? (leads c) with
     | some x => downP st r c x.name m
     | none => if m.own then (if r = [] then foundP st [] 0 else nextP st r) else sendP st r c
end Go.Proofs.YtafoepfhepdcoaaGreat
