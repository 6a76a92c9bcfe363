import Derived.Test.YtafoepfhepdcoaaGreatM54
/- A step of a script: Ask. -/
namespace Go.Proofs.YtafoepfhepdcoaaGreat
open Go.RowKit Go.Trawl
attribute [local go_sem] buildH0

set_option maxRecDepth 10000 in
set_option maxHeartbeats 4000000 in
theorem step4_none (w : World) (B ws : Nat) (U : Nat → Prop) (vps : Value) (hs : List Nat) (vh : Value) (o : OpV) (hk : o.kind = 4) (hg : Game B U w ws vps hs vh []) :
    Calls Tryz.prog 28 #[ptrV ws, .agg o.arr] w fun e w' => e = .returned (.bool true) ∧ Hid (Below w.heap.size w w') := by
  have HB := hide ((Below.refl w.heap.size w).alloc (Nat.le_refl _) (.cells o.arr 79))
  have hcw := box_cells (hg.below HB.out).st.world.boxw
  obtain ⟨a, c, rfl⟩ := own_slice hg.row
  obtain ⟨kind, n, m, vq, va, vu, vx, s, frm, b, d, c', t, vr, rs⟩ := o
  dsimp only at hk
  subst hk
  clear hg
  unfold ptrV
  simp only [OpV.arr] at hcw HB ⊢
  go_enter Tryz.func28, Tryz.ntmps28
  go_wp2_with fail
  go_ret
  exact ⟨rfl, HB.out⟩

set_option maxRecDepth 10000 in
set_option maxHeartbeats 4000000 in
theorem step4 (w : World) (B ws : Nat) (U : Nat → Prop) (vps : Value) (hs : List Nat) (vh : Value) (ps : List Pl) (o : OpV) (hk : o.kind = 4) (hl : hs.length ≤ 99999900) (hg : Game B U w ws vps hs vh ps) (he : Even ps) (ho : OpAt w o) (h1 : 1 ≤ ps.length) (h4 : ps.length ≤ 4) :
    Calls Tryz.prog 28 #[ptrV ws, .agg o.arr] w fun e w' => e = .returned (.bool true) ∧ Hid (Below B w w' ∧ ∃ U' hs' vh' ps', Game B U' w' ws vps hs' vh' ps' ∧ Even ps' ∧ ps'.length = ps.length ∧ hs'.length ≤ hs.length + 20) := by
  have hb1 := (Below.refl w.heap.size w).alloc (Nat.le_refl _) (.cells o.arr 79)
  have HB1 := hide hb1
  have HG1 := hide (hg.below hb1)
  have HOB1 : Hid (OpB (w.alloc (.cells o.arr 79)) w.heap.size o.s 4 o.frm) := ⟨_, _, heap_new _ _, rfl, by rw [← hk]; rfl, rfl⟩
  have HLT := hide hg.lt
  have HBW := hide hg.st.sz
  have hn0 := ho.n0
  have hn1 := ho.n1
  have hos := ho.s
  have HE := hide he
  have hcw := box_cells HG1.out.st.world.boxw
  obtain ⟨a, c, rfl⟩ := own_slice hg.row
  have hpl := pickN_lt (c := o.n) h1
  obtain ⟨p, hp⟩ : ∃ p, ps[pickN o.n ps.length]? = some p := ⟨_, List.getElem?_eq_getElem hpl⟩
  have HPK := hide (fun W => pick_any o.n ps.length h1 h4 hn0 hn1 W)
  clear hg he ho hb1
  obtain ⟨kind, n, m, vq, va, vu, vx, s, frm, b, d, c', t, vr, rs⟩ := o
  dsimp only at hk hn0 hn1 hos HOB1 hpl hp HPK
  subst hk
  unfold ptrV
  simp only [OpV.arr] at hcw HB1 HG1 HOB1 ⊢
  have hco := box_cells (heap_new w (.cells #[.int .i64 4, .int .i64 n, .int .u16 m.id, .bool m.resp, .int .i64 m.op, .bool m.own, .bool m.cut, .bool m.wanted, .bool m.able, .int .i64 m.code, vq, va, vu, vx, .string s, .int .u32 frm, .int .i64 b, .int .i64 d, .int .i64 c', .int .i64 t, vr] 79))
  obtain ⟨g, hga, hcell⟩ := row_ptr HG1.out.row hp
  cases hga
  go_enter Tryz.func28, Tryz.ntmps28
  go_wp2_with fail
  generalize w.alloc _ = W1 at HB1 HG1 HOB1 hcw hco hcell ⊢
  go_quiet ((go_at_call 51; exact Calls.quiet_of_same (HPK.out _)))
  clear hcw hco hcell
  have hdr := below_drewN (Below.refl W1.heap.size W1) nq
  have HB2 := hide (HB1.out.trans (hdr.mono HB1.out.size))
  have HG2 := hide (HG1.out.below hdr)
  have HOB2 := hide (HOB1.out.below hdr)
  clear hdr HB1 HG1 HOB1 HPK
  generalize W1.drewN nq = W2 at HB2 HG2 HOB2 ⊢
  have hN2 : w.heap.size < W2.heap.size := HOB2.out.lt
  have hcs := HOB2.out.cells.1
  go_wp2_with fail
  refine (lent_any W2 s hos).mono ?_
  rintro e W3 ⟨rfl, H3⟩
  have HL3 := hide H3.out.1
  have HB3 := hide (HB2.out.trans (H3.out.2.mono HB2.out.size))
  have HG3 := hide (HG2.out.below H3.out.2)
  have HOB3 := hide (HOB2.out.below H3.out.2)
  have hz3 : W2.heap.size < W3.heap.size := heap_lt H3.out.1
  clear H3 hcs HB2 HG2 HOB2
  generalize W2.heap.size = gb at HL3 hz3 hN2 ⊢
  have hmp := List.mem_of_getElem? hp
  obtain ⟨hcs, hkd, -⟩ := HOB3.out.cells
  simp only [newV]
  go_wp2_with fail
  clear hkd
  have hq1 : (0 : Int) ≤ (s.size : Int) := by omega
  have hq2 : ((s.size : Nat) : Int) ≤ ((s.size + 8 : Nat) : Int) := by omega
  have hq3 : (s.size : Int) ≤ (s.size : Int) + 8 := by omega
  have hq4 : s.size ≤ s.size + 8 := by omega
  obtain ⟨hsx, hsk⟩ := HE.out p hmp
  have hbx := box_cells (HG3.out.box p hmp)
  simp only [ptrV] at hbx
  have hNo : ∀ k, w.heap.size ≤ k → ¬ p.po k := fun k hk hpo => by have := HLT.out (.prog _) k ⟨p, hp, hpo⟩; omega
  have HNO := hide hNo
  have HPA : Hid (PAt W3 p.xb p.sb p.vr p.sr) := by rw [← hsx]; exact HG3.out.prog p hmp
  have HC : Hid (∀ W4, Below W3.heap.size W3 W4 → Calls Tryz.prog 20 #[.pointer (some ⟨p.xb, 0, none⟩), .slice (some ⟨gb, 0, none⟩) s.size (s.size + 8)] W4 fun e w5 => ∃ (k5 t5 : Int) (a5 : Option Addr) (l5 : List UInt8) (c5 : Nat) (vr5 : PV), e = .returned (.tuple #[.agg #[.int .i64 k5, .int .u32 t5, .slice a5 l5.length c5], .int .i64 (askS p.sr s).2.2]) ∧
      Hid ((askS p.sr s).2.1 = stepV k5 t5 (str l5) ∧ Spoke W4 w5 p.xb p.sb p.vr vr5 (askS p.sr s).1 (.slice a5 l5.length c5) l5 ∧ Game B U w5 ws (.slice (some ⟨g, 0, none⟩) ps.length c) hs vh (ps.set (pickN n ps.length) { p with vr := vr5, sx := (askS p.sr s).1 }) ∧ (∀ k, w.heap.size ≤ k → k < W4.heap.size → w5.heap[k]? = W4.heap[k]?) ∧ W4.heap.size ≤ w5.heap.size) ∧
      (w5.cell? ⟨p.pb, 0, none⟩ = some (.pointer (some ⟨p.xb, 0, none⟩)) ∧ w5.cell? ⟨w.heap.size, 14, none⟩ = some (.string s))) := by
    intro W4 hb4
    have hz4 : gb < W4.heap.size := Nat.lt_of_lt_of_le hz3 hb4.size
    have hL4 := (hb4.block _ hz3).trans HL3.out
    refine (pAsk_any W4 p.xb p.sb gb (s.size + 8) p.vr p.sr s (HPA.out.keep hb4.size (fun k hk => hb4.block k (HPA.out.lt k hk))) hsk hos (by omega) hz4 (lent_bytes hL4) (fun e => HNO.out gb (by omega) (.inl e))).mono ?_
    rintro e w5 ⟨k5, t5, a5, l5, c5, rfl, H5⟩
    obtain ⟨vr5, sp5⟩ := H5.out.2
    have hf := sp5.fr
    have g5 := (HG3.out.below hb4).turnX hp sp5.at_ hf
    have hkp : ∀ k, w.heap.size ≤ k → k < W4.heap.size → w5.heap[k]? = W4.heap[k]? := fun k h1 h2 => hf.block k h2 (HNO.out k h1)
    have e1 := box_cells (g5.box _ (List.mem_of_getElem? (List.getElem?_set_self hpl)))
    have hob := HOB3.out.below hb4
    have e2 := (hob.at (hkp _ (Nat.le_refl _) hob.lt)).cells.1
    exact ⟨k5, t5, a5, l5, c5, vr5, rfl, ⟨H5.out.1, sp5, g5, hkp, hf.size⟩, (e1 0).trans rfl, e2⟩
  have hpbl : p.pb < w.heap.size := HLT.out .law p.pb (.inr (.inr (.inr (.inl ⟨p, hmp, rfl⟩))))
  have m1 : ¬ W3.heap.size = p.pb := by omega
  have m2 : ¬ p.pb = W3.heap.size := by omega
  have m3 : ¬ W3.heap.size = w.heap.size := by omega
  have m4 : ¬ w.heap.size = W3.heap.size := by omega
  clear hNo hsx HPA
  have HSK := hide hsk
  clear hsk
  go_region_held3 (fun w' => w'.cell? ⟨p.pb, 0, none⟩ = some (.pointer (some ⟨p.xb, 0, none⟩)) ∧ w'.cell? ⟨w.heap.size, 14, none⟩ = some (.string s)) (first | (go_keep; done) | exact hs5) (first | (go_at_call 20; refine (HC.out _ (by first | exact below_drewN (Below.refl _ _) 1 | exact below_drewN ((Below.refl _ _).alloc (Nat.le_refl _) _) 1)).mono ?_; rintro e w5 ⟨k5, t5, a5, l5, c5, vr5, rfl, H5, hs5⟩; (first | (have hx5 := (H5.out.2.2.2.1 W3.heap.size (by omega) (by simp)).trans (heap_new W3 (.cells #[Value.int IntKind.i64 0, Value.int IntKind.u32 0, Value.slice none 0 0] 59)); have hcz := box_cells hx5; have hfz := frozen_of_block hx5) | skip)))
  all_goals
    first
    | (have HM := hide (mid2 (k := k5) (t := t5) ⟨_, _, _, rfl⟩ HB3.out HG3.out HOB3.out HL3.out hN2 HLT.out hp (below_drewN ((Below.refl _ _).alloc (Nat.le_refl _) _) 1) (by simp) H5.out.2.1 H5.out.2.2.1 HBW.out hx5)
       unfold put3 at HM
       generalize ((w5.setCell ⟨W3.heap.size, 0, none⟩ (.int .i64 k5)).setCell ⟨W3.heap.size, 1, none⟩ (.int .u32 t5)).setCell ⟨W3.heap.size, 2, none⟩ (.slice a5 l5.length c5) = W6 at HM ⊢
       generalize W3.heap.size = X at HM ⊢)
    | (have HM := hide (mid1 (k := k5) (t := t5) HB3.out HG3.out HOB3.out HL3.out hN2 HLT.out hp (below_drewN (Below.refl _ W3) 1) H5.out.2.1 H5.out.2.2.1 HBW.out)
       generalize w5.alloc (.cells #[.int .i64 k5, .int .u32 t5, .slice a5 l5.length c5] 59) = W6 at HM ⊢
       generalize w5.heap.size = X at HM ⊢)
    have HEQ := hide H5.out.1
    clear H5 hs5
  all_goals
    have hp1 : (ps.set (pickN n ps.length) { p with vr := vr5, sx := (askS p.sr s).1 })[pickN n ps.length]? = some { p with vr := vr5, sx := (askS p.sr s).1 } := List.getElem?_set_self hpl
    clear hbx hcs
    have hbx := box_cells (HM.out.game.box _ (List.mem_of_getElem? hp1))
    simp only [ptrV] at hbx
    obtain ⟨hcs, -, -⟩ := HM.out.op.cells
    have HC2 : Hid (∀ W7, Below W6.heap.size W6 W7 → Calls Tryz.prog 53 #[.pointer (some ⟨p.rb, 0, none⟩), .string s] W7 fun e w8 => e = .returned (.tuple #[.agg #[.int .i64 k5, .int .u32 t5, .string (str l5)], .int .i64 (askS p.sr s).2.2]) ∧
        Hid (∃ V' cs', RefAt w8 p.rb (askS p.sr s).1 V' cs' ∧ Fr W7 w8 p.ro (V'.owns cs' p.rb)) ∧ (w8.cell? ⟨p.pb, 1, none⟩ = some (.pointer (some ⟨p.rb, 0, none⟩)) ∧ w8.cell? ⟨w.heap.size, 14, none⟩ = some (.string s))) := by
      intro W7 hb7
      refine (rAsk_any W7 p.rb p.sr p.V p.cs s ((HM.out.next hb7).game.ref { p with vr := vr5, sx := (askS p.sr s).1 } (List.mem_of_getElem? hp1)) HSK.out hos).mono ?_
      rintro e w8 ⟨rfl, H8⟩
      obtain ⟨V', cs', h8, f8⟩ := H8.out
      have m8 := (mid3 (p := { p with vr := vr5, sx := (askS p.sr s).1 }) HM.out hp1 hb7 h8 f8).1
      have e1 := box_cells (m8.game.box _ (List.mem_of_getElem? (List.getElem?_set_self (by rw [List.length_set]; exact hpl))))
      exact ⟨by rw [HEQ.out]; rfl, ⟨V', cs', h8, f8⟩, (e1 1).trans rfl, m8.op.cells.1⟩
    have HKP : Hid (∀ (W7 w8 : World), Below W6.heap.size W6 W7 → (∃ V' cs', RefAt w8 p.rb (askS p.sr s).1 V' cs' ∧ Fr W7 w8 p.ro (V'.owns cs' p.rb)) → ∀ j, W6.heap.size ≤ j → j < W7.heap.size → ∀ o, W7.heap[j]? = some o → w8.heap[j]? = some o) := by
      intro W7 w8 hb7 h8 j h1 h2 o ho
      obtain ⟨V', cs', h8, f8⟩ := h8
      rw [f8.block j h2 (fun e => by have := HM.out.game.lt (.ref _) j ⟨_, hp1, e⟩; omega)]
      exact ho
    clear m1 m2 m3 m4
    have q1 := heap_lt HM.out.box
    have q2 := HM.out.xlo
    have m1 : ¬ W6.heap.size = p.pb := by omega
    have m2 : ¬ p.pb = W6.heap.size := by omega
    have m3 : ¬ W6.heap.size = w.heap.size := by omega
    have m4 : ¬ w.heap.size = W6.heap.size := by omega
    go_wp2_with fail
    generalize hsl : str l5 = sl at HC2
    go_region_held3 (fun w' => w'.cell? ⟨p.pb, 1, none⟩ = some (.pointer (some ⟨p.rb, 0, none⟩)) ∧ w'.cell? ⟨w.heap.size, 14, none⟩ = some (.string s)) (first | (go_keep; done) | exact hs8) (first | (go_at_call 53; refine (HC2.out _ (by first | exact below_drewN (Below.refl _ _) 1 | exact below_drewN ((Below.refl _ _).alloc (Nat.le_refl _) _) 1)).mono ?_; rintro e w8 ⟨rfl, H8, hs8⟩; (first | (have hx8 := HKP.out _ w8 (below_drewN ((Below.refl _ _).alloc (Nat.le_refl _) _) 1) H8.out W6.heap.size (by simp) (by simp) _ (heap_new W6 (.cells #[Value.int IntKind.i64 0, Value.int IntKind.u32 0, Value.string { data := #[] }] 111)); have hcz := box_cells hx8; have hfz := frozen_of_block hx8) | skip)))
  all_goals
    obtain ⟨V8, cs8, h8, f8⟩ := H8.out
    clear hbx hcs hs8 m1 m2 m3 m4
    first
    | (have hm9 := mid3 (p := { p with vr := vr5, sx := (askS p.sr s).1 }) HM.out hp1 (below_drewN ((Below.refl _ _).alloc (Nat.le_refl _) (.cells #[Value.int IntKind.i64 0, Value.int IntKind.u32 0, Value.string { data := #[] }] 111)) 1) h8 f8
       have HM9 := hide (hm9.1.put (r := W6.heap.size) ⟨by omega, by have := heap_lt HM.out.lent; omega, (fun e => by have := (HM.out.own.lt _ e).2; omega), by omega⟩ (fun a e => by
         rcases hm9.2 a _ e with e | e
         · omega
         · rw [show (World.drewN (W6.alloc (.cells #[Value.int IntKind.i64 0, Value.int IntKind.u32 0, Value.string { data := #[] }] 111)) 1).heap.size = W6.heap.size + 1 from alloc_size _ _] at e
           omega) (put3_grown w8 W6.heap.size (.int .i64 k5) (.int .u32 t5) (.string sl)))
       have HY9 := hide (put3_box (.int .i64 k5) (.int .u32 t5) (.string sl) hx8)
       clear hcz hfz hx8 hm9
       unfold put3 at HM9 HY9
       generalize ((w8.setCell ⟨W6.heap.size, 0, none⟩ (.int .i64 k5)).setCell ⟨W6.heap.size, 1, none⟩ (.int .u32 t5)).setCell ⟨W6.heap.size, 2, none⟩ (.string sl) = W9 at HM9 HY9 ⊢
       generalize W6.heap.size = Y at HY9 ⊢)
    | (have hm9 := mid3 (p := { p with vr := vr5, sx := (askS p.sr s).1 }) HM.out hp1 (below_drewN (Below.refl _ W6) 1) h8 f8
       have HM9 := hide (hm9.1.next ((Below.refl _ _).alloc (Nat.le_refl _) (.cells #[.int .i64 k5, .int .u32 t5, .string sl] 111)))
       have HY9 := hide (heap_new w8 (.cells #[.int .i64 k5, .int .u32 t5, .string sl] 111))
       clear hm9
       generalize w8.alloc (.cells #[.int .i64 k5, .int .u32 t5, .string sl] 111) = W9 at HM9 HY9 ⊢
       generalize w8.heap.size = Y at HY9 ⊢)
    clear H8 h8 f8 HKP HC2 HM
    have hcx := box_cells HM9.out.box
    have hcy := box_cells HY9.out
    subst hsl
    go_wp2_with fail
  all_goals
    have hll := askS_len HEQ.out
    clear hcx hcy
    have q3 := heap_lt HM9.out.lent
    have q4 := HM9.out.glo
    refine (answered_any W9 B ws U _ hs vh k5 t5 _ l5 a5 c5 (by omega) HM9.out.game.st HM9.out.own (fun i hi => ⟨by have := HM9.out.vlo i hi; have := HM9.out.bw; omega, fun hu => (HM9.out.free .law i (.inr (.inr (.inr (.inr hu))))).2.2.1 hi⟩) (by omega)).mono ?_
    rintro e y1 ⟨rfl, HY1⟩
    obtain ⟨w0, U1, hs1, vh1, hb0, K1⟩ := HY1.out
    have M0 := HM9.out.next hb0
    have hws : ∀ i, i = gb ∨ i = w.heap.size → i ≠ ws ∧ vh.ownBlock ≠ some i := fun i hi => by
      refine ⟨fun e => ?_, fun e => ?_⟩
      · have := M0.free .law i (.inl e)
        rcases hi with h | h
        · exact this.2.1 h
        · exact this.2.2.2 h
      · have := M0.free .law i (.inr (.inl e))
        rcases hi with h | h
        · exact this.2.1 h
        · exact this.2.2.2 h
    have G1 := hide (M0.game.keep K1 (fun i hi => by
      rcases hi with hi | hi | hi | hi
      · have hv := M0.vlo i hi
        have hlt := (M0.own.lt i hi).2
        have := M0.bw
        exact ⟨by omega, hlt, fun a e => (M0.free a i e).2.2.1 hi⟩
      · cases hi
      · cases hi
      · cases hi))
    have kp1 : ∀ i, i = gb ∨ i = w.heap.size → i < w0.heap.size → (Value.slice a5 l5.length c5).ownBlock ≠ some i → y1.heap[i]? = w0.heap[i]? := fun i h1 h2 h3 => K1.block i h2 (hws i h1).1 (hws i h1).2 h3 (by simp [Value.ownBlock]) (by simp [Value.ownBlock]) (by simp [Value.ownBlock])
    have HL1 := hide ((kp1 gb (.inl rfl) (heap_lt M0.lent) (fun e => by have := M0.vlo gb e; omega)).trans M0.lent)
    have HO1 := hide (M0.op.at (kp1 w.heap.size (.inr rfl) M0.op.lt (fun e => by have := M0.vlo _ e; omega)))
    have HB1 := hide (M0.below.trans K1.below)
    have hlen1 := K1.len
    have HN1 : Hid (∀ a, ¬ Own ws _ vh1 U1 _ a gb) := fun a e => by
      rcases keep_own K1 e with e | e | e
      · exact (M0.free a gb e).2.1 rfl
      · have := M0.vlo gb e; omega
      · have := heap_lt M0.lent; omega
    have HBW2 := hide M0.bw
    clear K1 hb0 HY1 M0 hws kp1 HM9 HY9
    obtain ⟨hcs, -, -⟩ := HO1.out.cells
    go_wp2_with fail
    refine (still_any y1 gb s hos HL1.out).mono ?_
    rintro e y2 ⟨rfl, n2, rfl⟩
    have hbd := below_drewN (Below.refl y1.heap.size y1) n2
    have G2 := hide (G1.out.below hbd)
    have HL2 := hide ((hbd.block _ (heap_lt HL1.out)).trans HL1.out)
    have HB2' := hide (HB1.out.trans (hbd.mono G1.out.st.sz))
    clear hbd hcs
    generalize y1.drewN n2 = Y2 at G2 HL2 HB2' ⊢
    go_wp2_with fail
    refine (keepBox Y2 B ws U1 _ hs1 (newV gb (s.size + 8)) (.slice none 0 0) (.slice none 0 0) (.slice none 0 0) vh1 (s.size + 8) 0 0 0 (by omega) (by omega) (by omega) (by omega) (by omega) G2.out.st (.inl ⟨rfl, rfl, rfl⟩) ⟨_, lent_own hos HL2.out⟩ (own_nilx _ _ _) (own_nilx _ _ _) (own_nilx _ _ _) (new_free ⟨by have := HBW2.out; omega, fun hu => HN1.out .law (.inr (.inr (.inr (.inr hu))))⟩) nil_free nil_free nil_free).mono ?_
    rintro e y3 ⟨rfl, U3, hs3, vh3, K3⟩
    have H3 := hide K3
    clear K3
    go_wp2_with fail
    go_ret
    have hlen3 := H3.out.len
    refine ⟨rfl, HB2'.out.trans H3.out.below, U3, hs3, vh3, _, G2.out.keep H3.out (fun i hi => ?_), ?_, by simp, by omega⟩
    · rcases hi with hi | hi | hi | hi
      · have hi' : gb = i := Option.some.inj hi
        subst hi'
        exact ⟨by have := HBW2.out; omega, heap_lt HL2.out, HN1.out⟩
      · cases hi
      · cases hi
      · cases hi
    · intro q hq
      obtain ⟨j, hj⟩ := mem_get hq
      rcases get_set hj with ⟨_, rfl⟩ | ⟨_, hj⟩
      · exact ⟨rfl, askS_ok HSK.out s⟩
      · rcases get_set hj with ⟨h1, _⟩ | ⟨_, hj⟩
        · exfalso; simp_all
        · exact HE.out q (List.mem_of_getElem? hj)
end Go.Proofs.YtafoepfhepdcoaaGreat

/- A resolver more. -/
namespace Go.Proofs.YtafoepfhepdcoaaGreat
open Go.RowKit Go.Trawl

section
variable {B : Nat} {U : Nat → Prop} {ws : Nat} {vps : Value} {hs : List Nat} {vh : Value} {ps : List Pl}
theorem Game.push {y1 y4 : World} {q : Pl} {v' : Value} (h : Game B U y1 ws vps hs vh ps) (hpb : q.pb = y1.heap.size) (hx : PAt y1 q.xb q.sb q.vr q.sx) (hr : RefAt y1 q.rb q.sr q.V q.cs)
    (hxf : ∀ k, q.po k → B ≤ k ∧ ∀ a, ¬ Own ws vps vh U ps a k) (hrf : ∀ k, q.ro k → B ≤ k ∧ ∀ a, ¬ Own ws vps vh U ps a k) (hxr : ∀ k, q.po k → q.ro k → False)
    (g : Grew 105 1 ((y1.alloc (.cells #[ptrV q.xb, ptrV q.rb] 109)).alloc (.cells #[ptrV q.pb] 105)) y4 vps v' (ps.length + 1) ((ps.map fun p => ptrV p.pb) ++ [ptrV q.pb])) :
    Game B U (y4.setCell ⟨ws, 0, none⟩ v') ws v' hs vh (ps ++ [q]) ∧ Below B y1 (y4.setCell ⟨ws, 0, none⟩ v') := by
  have hB := h.st.sz
  have z2 := alloc_size y1 (.cells #[ptrV q.xb, ptrV q.rb] 109)
  have z3 := alloc_size (y1.alloc (.cells #[ptrV q.xb, ptrV q.rb] 109)) (.cells #[ptrV q.pb] 105)
  rw [z2] at z3
  have z4 := g.grown.size
  rw [z3] at z4
  have z5 : (y4.setCell ⟨ws, 0, none⟩ v').heap.size = y4.heap.size := by simp [World.setCell]
  have a3 : ∀ k, k < y1.heap.size → ((y1.alloc (.cells #[ptrV q.xb, ptrV q.rb] 109)).alloc (.cells #[ptrV q.pb] 105)).heap[k]? = y1.heap[k]? := fun k hk => by
    rw [Below.heap_alloc _ _ k (by rw [z2]; omega), Below.heap_alloc _ _ k hk]
  have k4 : ∀ k, k < y1.heap.size → vps.ownBlock ≠ some k → y4.heap[k]? = y1.heap[k]? := fun k hk hn => (g.grown.block k (by rw [z3]; omega) (fun e => hn e.symm)).trans (a3 k hk)
  have k5 : ∀ k, k < y1.heap.size → vps.ownBlock ≠ some k → k ≠ ws → (y4.setCell ⟨ws, 0, none⟩ v').heap[k]? = y1.heap[k]? := fun k hk hn hw => (Below.heap_setCell y4 ⟨ws, 0, none⟩ v' k hw).trans (k4 k hk hn)
  have hwl : ws < y1.heap.size := heap_lt h.st.world.boxw
  have hvw : vps.ownBlock ≠ some ws := own_type_ne' h.row h.st.world.boxw (by decide)
  have hbw : (y4.setCell ⟨ws, 0, none⟩ v').heap[ws]? = some (.cells #[v', vh] 84) := by
    rw [heap_setCell_eq ((k4 ws hwl hvw).trans h.st.world.boxw)]
    rfl
  have byT : ∀ (k : Nat) (cs : Array Value) (t : TypeId), y1.heap[k]? = some (.cells cs t) → t ≠ 105 → t ≠ 84 → (y4.setCell ⟨ws, 0, none⟩ v').heap[k]? = some (.cells cs t) := fun k cs t hk n1 n2 => (k5 k (heap_lt hk) (own_type_ne' h.row hk (Ne.symm n1)) (type_ne hk h.st.world.boxw n2)).trans hk
  have hst : St B U (y4.setCell ⟨ws, 0, none⟩ v') ws v' hs vh := by
    refine ⟨⟨hbw, own_same h.st.world.row (fun k cs hk => byT k cs _ hk (by decide) (by decide)), h.st.world.rowB, fun x hx => (h.st.world.old x hx).move (fun _ h => h) fun k cs t _ ht hk => ?_⟩, fun k hk => by have := h.st.lt k hk; omega, h.st.lo, by omega⟩
    rcases ht with rfl | rfl | rfl | rfl | rfl <;> exact byT k cs _ hk (by decide) (by decide)
  have nb : (y4.setCell ⟨ws, 0, none⟩ v').heap[q.pb]? = some (.cells #[ptrV q.xb, ptrV q.rb] 109) := by
    rw [hpb, Below.heap_setCell y4 ⟨ws, 0, none⟩ v' _ (show y1.heap.size ≠ ws by omega)]
    have h3 : ((y1.alloc (.cells #[ptrV q.xb, ptrV q.rb] 109)).alloc (.cells #[ptrV q.pb] 105)).heap[y1.heap.size]? = some (.cells #[ptrV q.xb, ptrV q.rb] 109) := heap_old (heap_new y1 _) _
    rw [g.grown.block y1.heap.size (by rw [z3]; omega) (fun e => by have := (h.row.lt _ e.symm).2; omega)]
    exact h3
  have hv' : ∀ k, v'.ownBlock = some k → vps.ownBlock = some k ∨ y1.heap.size ≤ k := fun k hk => by
    rcases g.loc with e | ⟨i, e, hi⟩
    · exact .inl (by rw [← e]; exact hk)
    · rw [hk] at e
      cases e
      rw [z3] at hi
      exact .inr (by omega)
  have hget : ∀ (i : Nat) (p : Pl), (ps ++ [q])[i]? = some p → ps[i]? = some p ∨ (i = ps.length ∧ p = q) := fun i p hi => by
    rcases Nat.lt_or_ge i ps.length with hl | hl
    · rw [List.getElem?_append_left hl] at hi; exact .inl hi
    · rw [List.getElem?_append_right hl] at hi
      have : i - ps.length = 0 := by
        rcases Nat.eq_zero_or_pos (i - ps.length) with e | e
        · exact e
        · rw [List.getElem?_eq_none (by simp; omega)] at hi; cases hi
      rw [this] at hi
      exact .inr ⟨by omega, (Option.some.inj hi).symm⟩
  have hO : ∀ a k, Own ws v' vh U (ps ++ [q]) a k → Own ws vps vh U ps a k ∨ (a = .law ∧ y1.heap.size ≤ k ∧ k < y4.heap.size) ∨ (a = .prog ps.length ∧ q.po k) ∨ (a = .ref ps.length ∧ q.ro k) := by
    intro a k hk
    cases a with
    | law =>
      rcases hk with e | e | e | ⟨p, hp, e⟩ | e
      · exact .inl (.inl e)
      · exact .inl (.inr (.inl e))
      · rcases hv' k e with e1 | e1
        · exact .inl (.inr (.inr (.inl e1)))
        · exact .inr (.inl ⟨rfl, e1, (g.own.lt k e).2⟩)
      · rcases List.mem_append.1 hp with hp | hp
        · exact .inl (.inr (.inr (.inr (.inl ⟨p, hp, e⟩))))
        · simp at hp
          subst hp
          exact .inr (.inl ⟨rfl, by omega, by omega⟩)
      · exact .inl (.inr (.inr (.inr (.inr e))))
    | prog i =>
      obtain ⟨p, hp, hk⟩ := hk
      rcases hget i p hp with e | ⟨e, e'⟩
      · exact .inl ⟨p, e, hk⟩
      · subst e e'
        exact .inr (.inr (.inl ⟨rfl, hk⟩))
    | ref i =>
      obtain ⟨p, hp, hk⟩ := hk
      rcases hget i p hp with e | ⟨e, e'⟩
      · exact .inl ⟨p, e, hk⟩
      · subst e e'
        exact .inr (.inr (.inr ⟨rfl, hk⟩))
  have keepO : ∀ a k, Own ws vps vh U ps a k → a ≠ .law → (y4.setCell ⟨ws, 0, none⟩ v').heap[k]? = y1.heap[k]? := fun a k hk ha => k5 k (h.lt a k hk) (fun e => ha (h.one a .law k hk (.inr (.inr (.inl e))))) (fun e => ha (h.one a .law k hk (.inl e)))
  have keepN : ∀ k, k < y1.heap.size → (∀ a, ¬ Own ws vps vh U ps a k) → (y4.setCell ⟨ws, 0, none⟩ v').heap[k]? = y1.heap[k]? := fun k hk hn => k5 k hk (fun e => hn .law (.inr (.inr (.inl e)))) (fun e => hn .law (.inl e))
  have xl := hx.lt
  have rl := hr.lt
  refine ⟨⟨hst, ?_, ?_, ?_, ?_, ?_, ?_, ?_⟩, ?_⟩
  · have hrow := g.own
    have : (y4.setCell ⟨ws, 0, none⟩ v').ownsRow 0 105 1 v' (ps.length + 1) ((ps.map fun p => ptrV p.pb) ++ [ptrV q.pb]) := own_at hrow (fun k hk => Below.heap_setCell y4 ⟨ws, 0, none⟩ v' k (show k ≠ ws from fun e => by
      rcases hv' k hk with e1 | e1
      · exact hvw (by rw [← e]; exact e1)
      · omega))
    rw [List.length_append, List.map_append]
    exact this
  · intro p hp
    rcases List.mem_append.1 hp with hp | hp
    · exact byT _ _ _ (h.box p hp) (by decide) (by decide)
    · simp at hp
      subst hp
      exact nb
  · intro p hp
    rcases List.mem_append.1 hp with hp | hp
    · obtain ⟨j, hj⟩ := mem_get hp
      exact (h.prog p hp).keep (by omega) (fun k hk => keepO (.prog j) k ⟨p, hj, hk⟩ (by simp))
    · simp at hp
      subst hp
      exact hx.keep (by omega) (fun k hk => keepN k (xl k hk) (hxf k hk).2)
  · intro p hp
    rcases List.mem_append.1 hp with hp | hp
    · obtain ⟨j, hj⟩ := mem_get hp
      exact (h.ref p hp).at (by omega) (fun k hk => keepO (.ref j) k ⟨p, hj, hk⟩ (by simp))
    · simp at hp
      subst hp
      exact hr.at (by omega) (fun k hk => keepN k (rl k hk) (hrf k hk).2)
  · intro a k hk
    rcases hO a k hk with e | e | e | e
    · exact h.lo a k e
    · omega
    · exact (hxf k e.2).1
    · exact (hrf k e.2).1
  · intro a k hk
    rw [z5]
    rcases hO a k hk with e | e | e | e
    · have := h.lt a k e; omega
    · exact e.2.2
    · have := xl k e.2; omega
    · have := rl k e.2; omega
  · intro a b k ha hb
    rcases hO a k ha with e | e | e | e
    · rcases hO b k hb with e' | e' | e' | e'
      · exact h.one a b k e e'
      · have := h.lt a k e; omega
      · exact absurd e ((hxf k e'.2).2 a)
      · exact absurd e ((hrf k e'.2).2 a)
    · rcases hO b k hb with e' | e' | e' | e'
      · have := h.lt b k e'; omega
      · rw [e.1, e'.1]
      · have := xl k e'.2; omega
      · have := rl k e'.2; omega
    · rcases hO b k hb with e' | e' | e' | e'
      · exact absurd e' ((hxf k e.2).2 b)
      · have := xl k e.2; omega
      · rw [e.1, e'.1]
      · exact (hxr k e.2 e'.2).elim
    · rcases hO b k hb with e' | e' | e' | e'
      · exact absurd e' ((hrf k e.2).2 b)
      · have := rl k e.2; omega
      · exact (hxr k e'.2 e.2).elim
      · rw [e.1, e'.1]
  · refine ⟨g.grown.os, g.grown.tape, g.grown.output, by omega, fun k hk => k5 k (by omega) (fun e => by have := h.lo .law k (.inr (.inr (.inl e))); omega) (fun e => by have := h.st.lo; omega)⟩
end
end Go.Proofs.YtafoepfhepdcoaaGreat
