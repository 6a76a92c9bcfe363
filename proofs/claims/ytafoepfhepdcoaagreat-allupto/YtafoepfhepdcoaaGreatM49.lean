import Derived.Test.YtafoepfhepdcoaaGreatM45
import Derived.Test.YtafoepfhepdcoaaGreatM48
set_option maxRecDepth 100000
set_option maxHeartbeats 8000000
namespace Go.Proofs.YtafoepfhepdcoaaGreat
open Go.RowKit Go.Trawl
attribute [local go_sem] buildH0
theorem step5_none (w : World) (B ws : Nat) (U : Nat → Prop) (vps : Value) (hs : List Nat) (vh : Value) (o : OpV) (hk : o.kind = 5) (hg : Game B U w ws vps hs vh []) :
  Calls Tryz.prog 28 #[ptrV ws, .agg o.arr] w fun e w' => e = .returned (.bool true) ∧ Hid (Below w.heap.size w w') := by
 have HB := hide ((Below.refl w.heap.size w).alloc (Nat.le_refl _) (.cells o.arr 79))
 have hcw := bc_ (hg.below HB.out).st.world.boxw
 obtain ⟨a, c, rfl⟩ := os_ hg.row
 obtain ⟨kind, n, m, vq, va, vu, vx, s, frm, b, d, c', t, vr, rs⟩ := o
 dsimp only at hk
 subst hk
 clear hg
 unfold ptrV
 simp only [OpV.arr] at hcw HB ⊢
 go_enter Tryz.func28, Tryz.ntmps28
 go_wp2_with fail
 go_ret
 exact ⟨rfl, HB.out⟩
theorem step5 (w : World) (B ws : Nat) (U : Nat → Prop) (vps : Value) (hs : List Nat) (vh : Value) (ps : List Pl) (o : OpV) (hk : o.kind = 5) (hl : hs.length ≤ 99999900) (hg : Game B U w ws vps hs vh ps) (he : Even ps) (ho : OpAt w o) (h1 : 1 ≤ ps.length) (h4 : ps.length ≤ 4) :
    Calls Tryz.prog 28 #[ptrV ws, .agg o.arr] w fun e w' => e = .returned (.bool true) ∧ Hid (Below B w w' ∧ ∃ U' hs' vh' ps', Game B U' w' ws vps hs' vh' ps' ∧ Even ps' ∧ ps'.length = ps.length ∧ hs'.length ≤ hs.length + 20) := by
  have hb1 := (Below.refl w.heap.size w).alloc (Nat.le_refl _) (.cells o.arr 79)
  have HB1 := hide hb1
  have HG1 := hide (hg.below hb1)
  have HOB1 : Hid (OpB (w.alloc (.cells o.arr 79)) w.heap.size o.s 5 o.frm) := ⟨_, _, hn_ _ _, rfl, by rw [← hk]; rfl, rfl⟩
  have HLT := hide hg.lt
  have HBW := hide hg.st.sz
  have hn0 := ho.n0
  have hn1 := ho.n1
  have hos := ho.s
  have HE := hide he
  have hcw := bc_ HG1.out.st.world.boxw
  obtain ⟨a, c, rfl⟩ := os_ hg.row
  have hpl := pickN_lt (c := o.n) h1
  obtain ⟨p, hp⟩ : ∃ p, ps[pickN o.n ps.length]? = some p := ⟨_, List.getElem?_eq_getElem hpl⟩
  have HPK := hide (fun W => pick_any o.n ps.length h1 h4 hn0 hn1 W)
  clear hg he ho hb1
  obtain ⟨kind, n, m, vq, va, vu, vx, s, frm, b, d, c', t, vr, rs⟩ := o
  dsimp only at hk hn0 hn1 hos HOB1 hpl hp HPK
  subst hk
  unfold ptrV
  simp only [OpV.arr] at hcw HB1 HG1 HOB1 ⊢
  have hco := bc_ (hn_ w (.cells #[.int .i64 5, .int .i64 n, .int .u16 m.id, .bool m.resp, .int .i64 m.op, .bool m.own, .bool m.cut, .bool m.wanted, .bool m.able, .int .i64 m.code, vq, va, vu, vx, .string s, .int .u32 frm, .int .i64 b, .int .i64 d, .int .i64 c', .int .i64 t, vr] 79))
  obtain ⟨g, hga, hcell⟩ := row_ptr HG1.out.row hp
  cases hga
  go_enter Tryz.func28, Tryz.ntmps28
  go_wp2_with fail
  generalize w.alloc _ = W1 at HB1 HG1 HOB1 hcw hco hcell ⊢
  go_quiet ((go_at_call 51; exact Calls.quiet_of_same (HPK.out _)))
  clear hcw hco hcell
  have hdr := below_drewN (Below.refl W1.heap.size W1) nq
  have HB2 := hide (HB1.out.trans (hdr.mono HB1.out.size))
  have HG2 := hide (HG1.out.below hdr)
  have HOB2 := hide (HOB1.out.below hdr)
  clear hdr HB1 HG1 HOB1 HPK
  generalize W1.drewN nq = W2 at HB2 HG2 HOB2 ⊢
  have hN2 : w.heap.size < W2.heap.size := HOB2.out.lt
  have hcs := HOB2.out.cells.1
  go_wp2_with fail
  refine (lent_any W2 s hos).mono ?_
  rintro e W3 ⟨rfl, H3⟩
  have HL3 := hide H3.out.1
  have HB3 := hide (HB2.out.trans (H3.out.2.mono HB2.out.size))
  have HG3 := hide (HG2.out.below H3.out.2)
  have HOB3 := hide (HOB2.out.below H3.out.2)
  have hz3 : W2.heap.size < W3.heap.size := hl_ H3.out.1
  clear H3 hcs HB2 HG2 HOB2
  generalize W2.heap.size = gb at HL3 hz3 hN2 ⊢
  have hmp := List.mem_of_getElem? hp
  obtain ⟨hcs, hkd, hfm⟩ := HOB3.out.cells
  simp only [newV]
  go_wp2_with fail
  clear hkd
  have hq1 : (0 : Int) ≤ (s.size : Int) := by omega
  have hq2 : ((s.size : Nat) : Int) ≤ ((s.size + 8 : Nat) : Int) := by omega
  have hq3 : (s.size : Int) ≤ (s.size : Int) + 8 := by omega
  have hq4 : s.size ≤ s.size + 8 := by omega
  obtain ⟨hsx, hsk⟩ := HE.out p hmp
  have hbx := bc_ (HG3.out.box p hmp)
  simp only [ptrV] at hbx
  have hNo : ∀ k, w.heap.size ≤ k → ¬ p.po k := fun k hk hpo => by have := HLT.out (.prog _) k ⟨p, hp, hpo⟩; omega
  have HNO := hide hNo
  have HPA : Hid (PAt W3 p.xb p.sb p.vr p.sr) := by rw [← hsx]; exact HG3.out.prog p hmp
  have HC : Hid (∀ W4, Below W3.heap.size W3 W4 → Calls Tryz.prog 23 #[.pointer (some ⟨p.xb, 0, none⟩), .int .u32 frm, .slice (some ⟨gb, 0, none⟩) s.size (s.size + 8)] W4 fun e w5 => ∃ (k5 t5 : Int) (a5 : Option Addr) (l5 : List UInt8) (c5 : Nat) (vr5 : PV), e = .returned (.tuple #[.agg #[.int .i64 k5, .int .u32 t5, .slice a5 l5.length c5], .int .i64 (heardS p.sr frm s).2.2]) ∧
      Hid ((heardS p.sr frm s).2.1 = stepV k5 t5 (str l5) ∧ Spoke W4 w5 p.xb p.sb p.vr vr5 (heardS p.sr frm s).1 (.slice a5 l5.length c5) l5 ∧ Game B U w5 ws (.slice (some ⟨g, 0, none⟩) ps.length c) hs vh (ps.set (pickN n ps.length) { p with vr := vr5, sx := (heardS p.sr frm s).1 }) ∧ (∀ k, w.heap.size ≤ k → k < W4.heap.size → w5.heap[k]? = W4.heap[k]?) ∧ W4.heap.size ≤ w5.heap.size) ∧
      (w5.cell? ⟨p.pb, 0, none⟩ = some (.pointer (some ⟨p.xb, 0, none⟩)) ∧ w5.cell? ⟨w.heap.size, 14, none⟩ = some (.string s) ∧ w5.cell? ⟨w.heap.size, 15, none⟩ = some (.int .u32 frm))) := by
    intro W4 hb4
    have hz4 : gb < W4.heap.size := Nat.lt_of_lt_of_le hz3 hb4.size
    have hL4 := (hb4.block _ hz3).trans HL3.out
    refine (pHeard_any W4 p.xb p.sb gb (s.size + 8) p.vr p.sr frm s (HPA.out.keep hb4.size (fun k hk => hb4.block k (HPA.out.lt k hk))) hos (by omega) hz4 (lent_bytes hL4) (fun e => HNO.out gb (by omega) (.inl e))).mono ?_
    rintro e w5 ⟨k5, t5, a5, l5, c5, rfl, H5⟩
    obtain ⟨vr5, sp5⟩ := H5.out.2
    have hf := sp5.fr
    have g5 := (HG3.out.below hb4).turnX hp sp5.at_ hf
    have hkp : ∀ k, w.heap.size ≤ k → k < W4.heap.size → w5.heap[k]? = W4.heap[k]? := fun k h1 h2 => hf.block k h2 (HNO.out k h1)
    have e1 := bc_ (g5.box _ (List.mem_of_getElem? (List.getElem?_set_self hpl)))
    have hob := HOB3.out.below hb4
    have e2 := (hob.at (hkp _ (Nat.le_refl _) hob.lt)).cells
    exact ⟨k5, t5, a5, l5, c5, vr5, rfl, ⟨H5.out.1, sp5, g5, hkp, hf.size⟩, (e1 0).trans rfl, e2.1, e2.2.2⟩
  have hpbl : p.pb < w.heap.size := HLT.out .law p.pb (.inr (.inr (.inr (.inl ⟨p, hmp, rfl⟩))))
  have m1 : ¬ W3.heap.size = p.pb := by omega
  have m2 : ¬ p.pb = W3.heap.size := by omega
  have m3 : ¬ W3.heap.size = w.heap.size := by omega
  have m4 : ¬ w.heap.size = W3.heap.size := by omega
  clear hNo hsx HPA
  have HSK := hide hsk
  clear hsk
  go_region_held3 (fun w' => w'.cell? ⟨p.pb, 0, none⟩ = some (.pointer (some ⟨p.xb, 0, none⟩)) ∧ w'.cell? ⟨w.heap.size, 14, none⟩ = some (.string s) ∧ w'.cell? ⟨w.heap.size, 15, none⟩ = some (.int .u32 frm)) (first | (go_keep; done) | exact hs5) (first | (go_at_call 23; refine (HC.out _ (by first | exact below_drewN (Below.refl _ _) 1 | exact below_drewN ((Below.refl _ _).alloc (Nat.le_refl _) _) 1)).mono ?_; rintro e w5 ⟨k5, t5, a5, l5, c5, vr5, rfl, H5, hs5⟩; (first | (have hx5 := (H5.out.2.2.2.1 W3.heap.size (by omega) (by simp)).trans (hn_ W3 (.cells #[.int .i64 0, .int .u32 0, .slice none 0 0] 59)); have hcz := bc_ hx5; have hfz := fz_ hx5) | skip)))
  all_goals
    first
    | (have HM := hide (mid2 (k := k5) (t := t5) ⟨_, _, _, rfl⟩ HB3.out HG3.out HOB3.out HL3.out hN2 HLT.out hp (below_drewN ((Below.refl _ _).alloc (Nat.le_refl _) _) 1) (by simp) H5.out.2.1 H5.out.2.2.1 HBW.out hx5)
       unfold put3 at HM
       generalize ((w5.setCell ⟨W3.heap.size, 0, none⟩ (.int .i64 k5)).setCell ⟨W3.heap.size, 1, none⟩ (.int .u32 t5)).setCell ⟨W3.heap.size, 2, none⟩ (.slice a5 l5.length c5) = W6 at HM ⊢
       generalize W3.heap.size = X at HM ⊢)
    | (have HM := hide (mid1 (k := k5) (t := t5) HB3.out HG3.out HOB3.out HL3.out hN2 HLT.out hp (below_drewN (Below.refl _ W3) 1) H5.out.2.1 H5.out.2.2.1 HBW.out)
       generalize w5.alloc (.cells #[.int .i64 k5, .int .u32 t5, .slice a5 l5.length c5] 59) = W6 at HM ⊢
       generalize w5.heap.size = X at HM ⊢)
    have HEQ := hide H5.out.1
    clear H5 hs5
  all_goals
    have hp1 : (ps.set (pickN n ps.length) { p with vr := vr5, sx := (heardS p.sr frm s).1 })[pickN n ps.length]? = some { p with vr := vr5, sx := (heardS p.sr frm s).1 } := List.getElem?_set_self hpl
    clear hbx hcs hfm
    have hbx := bc_ (HM.out.game.box _ (List.mem_of_getElem? hp1))
    simp only [ptrV] at hbx
    obtain ⟨hcs, -, hfm⟩ := HM.out.op.cells
    have HC2 : Hid (∀ W7, Below W6.heap.size W6 W7 → Calls Tryz.prog 55 #[.pointer (some ⟨p.rb, 0, none⟩), .int .u32 frm, .string s] W7 fun e w8 => e = .returned (.tuple #[.agg #[.int .i64 k5, .int .u32 t5, .string (str l5)], .int .i64 (heardS p.sr frm s).2.2]) ∧
        Hid (∃ V' cs', RefAt w8 p.rb (heardS p.sr frm s).1 V' cs' ∧ Fr W7 w8 p.ro (V'.owns cs' p.rb)) ∧ (w8.cell? ⟨p.pb, 1, none⟩ = some (.pointer (some ⟨p.rb, 0, none⟩)) ∧ w8.cell? ⟨w.heap.size, 14, none⟩ = some (.string s) ∧ w8.cell? ⟨w.heap.size, 15, none⟩ = some (.int .u32 frm))) := by
      intro W7 hb7
      refine (rHeard_any W7 p.rb p.sr p.V p.cs frm s ((HM.out.next hb7).game.ref { p with vr := vr5, sx := (heardS p.sr frm s).1 } (List.mem_of_getElem? hp1)) HSK.out hos).mono ?_
      rintro e w8 ⟨rfl, H8⟩
      obtain ⟨V', cs', h8, f8⟩ := H8.out
      have m8 := (mid3 (p := { p with vr := vr5, sx := (heardS p.sr frm s).1 }) HM.out hp1 hb7 h8 f8).1
      have e1 := bc_ (m8.game.box _ (List.mem_of_getElem? (List.getElem?_set_self (by rw [List.length_set]; exact hpl))))
      exact ⟨by rw [HEQ.out]; rfl, ⟨V', cs', h8, f8⟩, (e1 1).trans rfl, m8.op.cells.1, m8.op.cells.2.2⟩
    have HKP : Hid (∀ (W7 w8 : World), Below W6.heap.size W6 W7 → (∃ V' cs', RefAt w8 p.rb (heardS p.sr frm s).1 V' cs' ∧ Fr W7 w8 p.ro (V'.owns cs' p.rb)) → ∀ j, W6.heap.size ≤ j → j < W7.heap.size → ∀ o, W7.heap[j]? = some o → w8.heap[j]? = some o) := by
      intro W7 w8 hb7 h8 j h1 h2 o ho
      obtain ⟨V', cs', h8, f8⟩ := h8
      rw [f8.block j h2 (fun e => by have := HM.out.game.lt (.ref _) j ⟨_, hp1, e⟩; omega)]
      exact ho
    clear m1 m2 m3 m4
    have q1 := hl_ HM.out.box
    have q2 := HM.out.xlo
    have m1 : ¬ W6.heap.size = p.pb := by omega
    have m2 : ¬ p.pb = W6.heap.size := by omega
    have m3 : ¬ W6.heap.size = w.heap.size := by omega
    have m4 : ¬ w.heap.size = W6.heap.size := by omega
    go_wp2_with fail
    generalize hsl : str l5 = sl at HC2
    go_region_held3 (fun w' => w'.cell? ⟨p.pb, 1, none⟩ = some (.pointer (some ⟨p.rb, 0, none⟩)) ∧ w'.cell? ⟨w.heap.size, 14, none⟩ = some (.string s) ∧ w'.cell? ⟨w.heap.size, 15, none⟩ = some (.int .u32 frm)) (first | (go_keep; done) | exact hs8) (first | (go_at_call 55; refine (HC2.out _ (by first | exact below_drewN (Below.refl _ _) 1 | exact below_drewN ((Below.refl _ _).alloc (Nat.le_refl _) _) 1)).mono ?_; rintro e w8 ⟨rfl, H8, hs8⟩; (first | (have hx8 := HKP.out _ w8 (below_drewN ((Below.refl _ _).alloc (Nat.le_refl _) _) 1) H8.out W6.heap.size (by simp) (by simp) _ (hn_ W6 (.cells #[.int .i64 0, .int .u32 0, .string ⟨#[]⟩] 111)); have hcz := bc_ hx8; have hfz := fz_ hx8) | skip)))
  all_goals
    obtain ⟨V8, cs8, h8, f8⟩ := H8.out
    clear hbx hcs hfm hs8 m1 m2 m3 m4
    first
    | (have hm9 := mid3 (p := { p with vr := vr5, sx := (heardS p.sr frm s).1 }) HM.out hp1 (below_drewN ((Below.refl _ _).alloc (Nat.le_refl _) (.cells #[.int .i64 0, .int .u32 0, .string ⟨#[]⟩] 111)) 1) h8 f8
       have HM9 := hide (hm9.1.put (r := W6.heap.size) ⟨by omega, by have := hl_ HM.out.lent; omega, (fun e => by have := (HM.out.own.lt _ e).2; omega), by omega⟩ (fun a e => by
         rcases hm9.2 a _ e with e | e
         · omega
         · rw [show (World.drewN (W6.alloc (.cells #[.int .i64 0, .int .u32 0, .string ⟨#[]⟩] 111)) 1).heap.size = W6.heap.size + 1 from as_ _ _] at e
           omega) (pg_ w8 W6.heap.size (.int .i64 k5) (.int .u32 t5) (.string sl)))
       have HY9 := hide (pb_ (.int .i64 k5) (.int .u32 t5) (.string sl) hx8)
       clear hcz hfz hx8 hm9
       unfold put3 at HM9 HY9
       generalize ((w8.setCell ⟨W6.heap.size, 0, none⟩ (.int .i64 k5)).setCell ⟨W6.heap.size, 1, none⟩ (.int .u32 t5)).setCell ⟨W6.heap.size, 2, none⟩ (.string sl) = W9 at HM9 HY9 ⊢
       generalize W6.heap.size = Y at HY9 ⊢)
    | (have hm9 := mid3 (p := { p with vr := vr5, sx := (heardS p.sr frm s).1 }) HM.out hp1 (below_drewN (Below.refl _ W6) 1) h8 f8
       have HM9 := hide (hm9.1.next ((Below.refl _ _).alloc (Nat.le_refl _) (.cells #[.int .i64 k5, .int .u32 t5, .string sl] 111)))
       have HY9 := hide (hn_ w8 (.cells #[.int .i64 k5, .int .u32 t5, .string sl] 111))
       clear hm9
       generalize w8.alloc (.cells #[.int .i64 k5, .int .u32 t5, .string sl] 111) = W9 at HM9 HY9 ⊢
       generalize w8.heap.size = Y at HY9 ⊢)
    clear H8 h8 f8 HKP HC2 HM
    have hcx := bc_ HM9.out.box
    have hcy := bc_ HY9.out
    subst hsl
    go_wp2_with fail
  all_goals
    have hll := step_len HEQ.out (heardS_size HSK.out frm s)
    clear hcx hcy
    have q3 := hl_ HM9.out.lent
    have q4 := HM9.out.glo
    refine (answered_any W9 B ws U _ hs vh k5 t5 _ l5 a5 c5 (by omega) HM9.out.game.st HM9.out.own (fun i hi => ⟨by have := HM9.out.vlo i hi; have := HM9.out.bw; omega, fun hu => (HM9.out.free .law i (.inr (.inr (.inr (.inr hu))))).2.2.1 hi⟩) (by omega)).mono ?_
    rintro e y1 ⟨rfl, HY1⟩
    obtain ⟨w0, U1, hs1, vh1, hb0, K1⟩ := HY1.out
    have M0 := HM9.out.next hb0
    have hws : ∀ i, i = gb ∨ i = w.heap.size → i ≠ ws ∧ vh.ownBlock ≠ some i := fun i hi => by
      refine ⟨fun e => ?_, fun e => ?_⟩
      · have := M0.free .law i (.inl e)
        rcases hi with h | h
        · exact this.2.1 h
        · exact this.2.2.2 h
      · have := M0.free .law i (.inr (.inl e))
        rcases hi with h | h
        · exact this.2.1 h
        · exact this.2.2.2 h
    have G1 := hide (M0.game.keep K1 (fun i hi => by
      rcases hi with hi | hi | hi | hi
      · have hv := M0.vlo i hi
        have hlt := (M0.own.lt i hi).2
        have := M0.bw
        exact ⟨by omega, hlt, fun a e => (M0.free a i e).2.2.1 hi⟩
      · cases hi
      · cases hi
      · cases hi))
    have kp1 : ∀ i, i = gb ∨ i = w.heap.size → i < w0.heap.size → (Value.slice a5 l5.length c5).ownBlock ≠ some i → y1.heap[i]? = w0.heap[i]? := fun i h1 h2 h3 => K1.block i h2 (hws i h1).1 (hws i h1).2 h3 (by simp [Value.ownBlock]) (by simp [Value.ownBlock]) (by simp [Value.ownBlock])
    have HL1 := hide ((kp1 gb (.inl rfl) (hl_ M0.lent) (fun e => by have := M0.vlo gb e; omega)).trans M0.lent)
    have HO1 := hide (M0.op.at (kp1 w.heap.size (.inr rfl) M0.op.lt (fun e => by have := M0.vlo _ e; omega)))
    have HB1 := hide (M0.below.trans K1.below)
    have hlen1 := K1.len
    have HN1 : Hid (∀ a, ¬ Own ws _ vh1 U1 _ a gb) := fun a e => by
      rcases keep_own K1 e with e | e | e
      · exact (M0.free a gb e).2.1 rfl
      · have := M0.vlo gb e; omega
      · have := hl_ M0.lent; omega
    have HBW2 := hide M0.bw
    clear K1 hb0 HY1 M0 hws kp1 HM9 HY9
    obtain ⟨hcs, -, -⟩ := HO1.out.cells
    go_wp2_with fail
    refine (still_any y1 gb s hos HL1.out).mono ?_
    rintro e y2 ⟨rfl, n2, rfl⟩
    have hbd := below_drewN (Below.refl y1.heap.size y1) n2
    have G2 := hide (G1.out.below hbd)
    have HL2 := hide ((hbd.block _ (hl_ HL1.out)).trans HL1.out)
    have HB2' := hide (HB1.out.trans (hbd.mono G1.out.st.sz))
    clear hbd hcs
    generalize y1.drewN n2 = Y2 at G2 HL2 HB2' ⊢
    go_wp2_with fail
    refine (keepBox Y2 B ws U1 _ hs1 (newV gb (s.size + 8)) (.slice none 0 0) (.slice none 0 0) (.slice none 0 0) vh1 (s.size + 8) 0 0 0 (by omega) (by omega) (by omega) (by omega) (by omega) G2.out.st (.inl ⟨rfl, rfl, rfl⟩) ⟨_, lent_own hos HL2.out⟩ (own_nilx _ _ _) (own_nilx _ _ _) (own_nilx _ _ _) (new_free ⟨by have := HBW2.out; omega, fun hu => HN1.out .law (.inr (.inr (.inr (.inr hu))))⟩) nf_ nf_ nf_).mono ?_
    rintro e y3 ⟨rfl, U3, hs3, vh3, K3⟩
    have H3 := hide K3
    clear K3
    go_wp2_with fail
    go_ret
    have hlen3 := H3.out.len
    refine ⟨rfl, HB2'.out.trans H3.out.below, U3, hs3, vh3, _, G2.out.keep H3.out (fun i hi => ?_), ?_, by simp, by omega⟩
    · rcases hi with hi | hi | hi | hi
      · have hi' : gb = i := Option.some.inj hi
        subst hi'
        exact ⟨by have := HBW2.out; omega, hl_ HL2.out, HN1.out⟩
      · cases hi
      · cases hi
      · cases hi
    · intro q hq
      obtain ⟨j, hj⟩ := mem_get hq
      rcases get_set hj with ⟨_, rfl⟩ | ⟨_, hj⟩
      · exact ⟨rfl, heard_inv HSK.out frm s⟩
      · rcases get_set hj with ⟨h1, _⟩ | ⟨_, hj⟩
        · exfalso; simp_all
        · exact HE.out q (List.mem_of_getElem? hj)
end Go.Proofs.YtafoepfhepdcoaaGreat
namespace Go.Proofs.YtafoepfhepdcoaaGreat
open Go.RowKit Go.Trawl
attribute [local go_sem] buildH0
theorem step6_none (w : World) (B ws : Nat) (U : Nat → Prop) (vps : Value) (hs : List Nat) (vh : Value) (o : OpV) (hk : o.kind = 6) (hg : Game B U w ws vps hs vh []) :
  Calls Tryz.prog 28 #[ptrV ws, .agg o.arr] w fun e w' => e = .returned (.bool true) ∧ Hid (Below w.heap.size w w') := by
 have HB := hide ((Below.refl w.heap.size w).alloc (Nat.le_refl _) (.cells o.arr 79))
 have hcw := bc_ (hg.below HB.out).st.world.boxw
 obtain ⟨a, c, rfl⟩ := os_ hg.row
 obtain ⟨kind, n, m, vq, va, vu, vx, s, frm, b, d, c', t, vr, rs⟩ := o
 dsimp only at hk
 subst hk
 clear hg
 unfold ptrV
 simp only [OpV.arr] at hcw HB ⊢
 go_enter Tryz.func28, Tryz.ntmps28
 go_wp2_with fail
 go_ret
 exact ⟨rfl, HB.out⟩
theorem step6 (w : World) (B ws : Nat) (U : Nat → Prop) (vps : Value) (hs : List Nat) (vh : Value) (ps : List Pl) (o : OpV) (hk : o.kind = 6) (hl : hs.length ≤ 99999900) (hg : Game B U w ws vps hs vh ps) (he : Even ps) (ho : OpAt w o) (h1 : 1 ≤ ps.length) (h4 : ps.length ≤ 4) :
  Calls Tryz.prog 28 #[ptrV ws, .agg o.arr] w fun e w' => e = .returned (.bool true) ∧ Hid (Below B w w' ∧ ∃ U' hs' vh' ps', Game B U' w' ws vps hs' vh' ps' ∧ Even ps' ∧ ps'.length = ps.length ∧ hs'.length ≤ hs.length + 20) := by
 have hb1 := (Below.refl w.heap.size w).alloc (Nat.le_refl _) (.cells o.arr 79)
 have HB1 := hide hb1
 have HG1 := hide (hg.below hb1)
 have HOB1 : Hid (OpB (w.alloc (.cells o.arr 79)) w.heap.size o.s 6 o.frm) := ⟨_, _, hn_ _ _, rfl, by rw [← hk]; rfl, rfl⟩
 have HLT := hide hg.lt
 have HBW := hide hg.st.sz
 have hn0 := ho.n0
 have hn1 := ho.n1
 have hos := ho.s
 have HE := hide he
 have hcw := bc_ HG1.out.st.world.boxw
 obtain ⟨a, c, rfl⟩ := os_ hg.row
 have hpl := pickN_lt (c := o.n) h1
 obtain ⟨p, hp⟩ : ∃ p, ps[pickN o.n ps.length]? = some p := ⟨_, List.getElem?_eq_getElem hpl⟩
 have HPK := hide (fun W => pick_any o.n ps.length h1 h4 hn0 hn1 W)
 clear hg he ho hb1
 obtain ⟨kind, n, m, vq, va, vu, vx, s, frm, b, d, c', t, vr, rs⟩ := o
 dsimp only at hk hn0 hn1 hos HOB1 hpl hp HPK
 subst hk
 unfold ptrV
 simp only [OpV.arr] at hcw HB1 HG1 HOB1 ⊢
 have hco := bc_ (hn_ w (.cells #[.int .i64 6, .int .i64 n, .int .u16 m.id, .bool m.resp, .int .i64 m.op, .bool m.own, .bool m.cut, .bool m.wanted, .bool m.able, .int .i64 m.code, vq, va, vu, vx, .string s, .int .u32 frm, .int .i64 b, .int .i64 d, .int .i64 c', .int .i64 t, vr] 79))
 obtain ⟨g, hga, hcell⟩ := row_ptr HG1.out.row hp
 cases hga
 go_enter Tryz.func28, Tryz.ntmps28
 go_wp2_with fail
 generalize w.alloc _ = W1 at HB1 HG1 HOB1 hcw hco hcell ⊢
 go_quiet ((go_at_call 51; exact Calls.quiet_of_same (HPK.out _)))
 clear hcw hco hcell
 have hdr := below_drewN (Below.refl W1.heap.size W1) nq
 have HB2 := hide (HB1.out.trans (hdr.mono HB1.out.size))
 have HG2 := hide (HG1.out.below hdr)
 have HOB2 := hide (HOB1.out.below hdr)
 clear hdr HB1 HG1 HOB1 HPK
 generalize W1.drewN nq = W2 at HB2 HG2 HOB2 ⊢
 have hN2 : w.heap.size < W2.heap.size := HOB2.out.lt
 have hcs := HOB2.out.cells.1
 go_wp2_with fail
 refine (lent_any W2 s hos).mono ?_
 rintro e W3 ⟨rfl, H3⟩
 have HL3 := hide H3.out.1
 have HB3 := hide (HB2.out.trans (H3.out.2.mono HB2.out.size))
 have HG3 := hide (HG2.out.below H3.out.2)
 have HOB3 := hide (HOB2.out.below H3.out.2)
 have hz3 : W2.heap.size < W3.heap.size := hl_ H3.out.1
 clear H3 hcs HB2 HG2 HOB2
 generalize W2.heap.size = gb at HL3 hz3 hN2 ⊢
 have hmp := List.mem_of_getElem? hp
 obtain ⟨hcs, hkd, -⟩ := HOB3.out.cells
 have hbx := bc_ (HG3.out.box p hmp)
 simp only [ptrV] at hbx
 simp only [newV]
 go_wp2_with fail
 clear hkd
 have hq1 : (0 : Int) ≤ (s.size : Int) := by omega
 have hq2 : ((s.size : Nat) : Int) ≤ ((s.size + 8 : Nat) : Int) := by omega
 have hq3 : (s.size : Int) ≤ (s.size : Int) + 8 := by omega
 have hq4 : s.size ≤ s.size + 8 := by omega
 obtain ⟨hsx, hsk⟩ := HE.out p hmp
 have hNo : ∀ k, w.heap.size ≤ k → ¬ p.po k := fun k hk hpo => by have := HLT.out (.prog _) k ⟨p, hp, hpo⟩; omega
 have HNO := hide hNo
 have HPA : Hid (PAt W3 p.xb p.sb p.vr p.sr) := by rw [← hsx]; exact HG3.out.prog p hmp
 have HC : Hid (∀ W4, Below W3.heap.size W3 W4 → Calls Tryz.prog 24 #[.pointer (some ⟨p.xb, 0, none⟩)] W4 fun e w5 => ∃ (k5 t5 : Int) (a5 : Option Addr) (l5 : List UInt8) (c5 : Nat) (vr5 : PV), e = .returned (.tuple #[.agg #[.int .i64 k5, .int .u32 t5, .slice a5 l5.length c5], .int .i64 (lateS p.sr).2.2]) ∧
   Hid ((lateS p.sr).2.1 = stepV k5 t5 (str l5) ∧ Spoke W4 w5 p.xb p.sb p.vr vr5 (lateS p.sr).1 (.slice a5 l5.length c5) l5 ∧ Game B U w5 ws (.slice (some ⟨g, 0, none⟩) ps.length c) hs vh (ps.set (pickN n ps.length) { p with vr := vr5, sx := (lateS p.sr).1 }) ∧ (∀ k, w.heap.size ≤ k → k < W4.heap.size → w5.heap[k]? = W4.heap[k]?) ∧ W4.heap.size ≤ w5.heap.size) ∧
   (w5.cell? ⟨p.pb, 0, none⟩ = some (.pointer (some ⟨p.xb, 0, none⟩)) ∧ w5.cell? ⟨w.heap.size, 14, none⟩ = some (.string s))) := by
  intro W4 hb4
  have hz4 : gb < W4.heap.size := Nat.lt_of_lt_of_le hz3 hb4.size
  have hL4 := (hb4.block _ hz3).trans HL3.out
  refine (pLate_any W4 p.xb p.sb p.vr p.sr (HPA.out.keep hb4.size (fun k hk => hb4.block k (HPA.out.lt k hk)))).mono ?_
  rintro e w5 ⟨k5, t5, a5, l5, c5, rfl, H5⟩
  obtain ⟨vr5, sp5⟩ := H5.out.2
  have hf := sp5.fr
  have g5 := (HG3.out.below hb4).turnX hp sp5.at_ hf
  have hkp : ∀ k, w.heap.size ≤ k → k < W4.heap.size → w5.heap[k]? = W4.heap[k]? := fun k h1 h2 => hf.block k h2 (HNO.out k h1)
  have e1 := bc_ (g5.box _ (List.mem_of_getElem? (List.getElem?_set_self hpl)))
  have hob := HOB3.out.below hb4
  have e2 := (hob.at (hkp _ (Nat.le_refl _) hob.lt)).cells.1
  exact ⟨k5, t5, a5, l5, c5, vr5, rfl, ⟨H5.out.1, sp5, g5, hkp, hf.size⟩, (e1 0).trans rfl, e2⟩
 have hpbl : p.pb < w.heap.size := HLT.out .law p.pb (.inr (.inr (.inr (.inl ⟨p, hmp, rfl⟩))))
 have m1 : ¬ W3.heap.size = p.pb := by omega
 have m2 : ¬ p.pb = W3.heap.size := by omega
 have m3 : ¬ W3.heap.size = w.heap.size := by omega
 have m4 : ¬ w.heap.size = W3.heap.size := by omega
 clear hNo hsx HPA
 have HSK := hide hsk
 clear hsk
 refine (HC.out W3 (Below.refl _ _)).mono ?_
 rintro e w5 ⟨k5, t5, a5, l5, c5, vr5, rfl, H5, hs5⟩
 have HM := hide (mid1 (k := k5) (t := t5) HB3.out HG3.out HOB3.out HL3.out hN2 HLT.out hp (Below.refl _ W3) H5.out.2.1 H5.out.2.2.1 HBW.out)
 have HEQ := hide H5.out.1
 clear H5 hs5 hbx
 have hp1 : (ps.set (pickN n ps.length) { p with vr := vr5, sx := (lateS p.sr).1 })[pickN n ps.length]? = some { p with vr := vr5, sx := (lateS p.sr).1 } := List.getElem?_set_self hpl
 have hbx := bc_ (HM.out.game.box _ (List.mem_of_getElem? hp1))
 simp only [ptrV] at hbx
 go_wp2_with fail
 generalize w5.alloc (.cells #[.int .i64 k5, .int .u32 t5, .slice a5 l5.length c5] 59) = W6 at HM hbx ⊢
 generalize w5.heap.size = X at HM ⊢
 clear hcs
 ·obtain ⟨hcs, -, -⟩ := HM.out.op.cells
  have HC2 : Hid (∀ W7, Below W6.heap.size W6 W7 → Calls Tryz.prog 56 #[.pointer (some ⟨p.rb, 0, none⟩)] W7 fun e w8 => e = .returned (.tuple #[.agg #[.int .i64 k5, .int .u32 t5, .string (str l5)], .int .i64 (lateS p.sr).2.2]) ∧
    Hid (∃ V' cs', RefAt w8 p.rb (lateS p.sr).1 V' cs' ∧ Fr W7 w8 p.ro (V'.owns cs' p.rb)) ∧ (w8.cell? ⟨p.pb, 1, none⟩ = some (.pointer (some ⟨p.rb, 0, none⟩)) ∧ w8.cell? ⟨w.heap.size, 14, none⟩ = some (.string s))) := by
   intro W7 hb7
   refine (rLate_any W7 p.rb p.sr p.V p.cs ((HM.out.next hb7).game.ref { p with vr := vr5, sx := (lateS p.sr).1 } (List.mem_of_getElem? hp1)) HSK.out).mono ?_
   rintro e w8 ⟨rfl, H8⟩
   obtain ⟨V', cs', h8, f8⟩ := H8.out
   have m8 := (mid3 (p := { p with vr := vr5, sx := (lateS p.sr).1 }) HM.out hp1 hb7 h8 f8).1
   have e1 := bc_ (m8.game.box _ (List.mem_of_getElem? (List.getElem?_set_self (by rw [List.length_set]; exact hpl))))
   exact ⟨by rw [HEQ.out]; rfl, ⟨V', cs', h8, f8⟩, (e1 1).trans rfl, m8.op.cells.1⟩
  have HKP : Hid (∀ (W7 w8 : World), Below W6.heap.size W6 W7 → (∃ V' cs', RefAt w8 p.rb (lateS p.sr).1 V' cs' ∧ Fr W7 w8 p.ro (V'.owns cs' p.rb)) → ∀ j, W6.heap.size ≤ j → j < W7.heap.size → ∀ o, W7.heap[j]? = some o → w8.heap[j]? = some o) := by
   intro W7 w8 hb7 h8 j h1 h2 o ho
   obtain ⟨V', cs', h8, f8⟩ := h8
   rw [f8.block j h2 (fun e => by have := HM.out.game.lt (.ref _) j ⟨_, hp1, e⟩; omega)]
   exact ho
  clear m1 m2 m3 m4
  have q1 := hl_ HM.out.box
  have q2 := HM.out.xlo
  have m1 : ¬ W6.heap.size = p.pb := by omega
  have m2 : ¬ p.pb = W6.heap.size := by omega
  have m3 : ¬ W6.heap.size = w.heap.size := by omega
  have m4 : ¬ w.heap.size = W6.heap.size := by omega
  generalize hsl : str l5 = sl at HC2
  refine (HC2.out W6 (Below.refl _ _)).mono ?_
  rintro e w8 ⟨rfl, H8, hs8⟩
  obtain ⟨V8, cs8, h8, f8⟩ := H8.out
  clear hbx hcs hs8 m1 m2 m3 m4
  have hm9 := mid3 (p := { p with vr := vr5, sx := (lateS p.sr).1 }) HM.out hp1 (Below.refl _ W6) h8 f8
  have HM9 := hide (hm9.1.next ((Below.refl _ _).alloc (Nat.le_refl _) (.cells #[.int .i64 k5, .int .u32 t5, .string sl] 111)))
  have HY9 := hide (hn_ w8 (.cells #[.int .i64 k5, .int .u32 t5, .string sl] 111))
  clear hm9
  have hcx := bc_ HM9.out.box
  have hcy := bc_ HY9.out
  go_wp2_with fail
  generalize w8.alloc (.cells #[.int .i64 k5, .int .u32 t5, .string sl] 111) = W9 at HM9 HY9 hcx hcy ⊢
  generalize w8.heap.size = Y at HY9 hcy ⊢
  clear H8 h8 f8 HKP HC2 HM
  subst hsl
  have hll := step_len HEQ.out (lateS_size HSK.out)
  clear hcx hcy
  have q3 := hl_ HM9.out.lent
  have q4 := HM9.out.glo
  refine (answered_any W9 B ws U _ hs vh k5 t5 _ l5 a5 c5 (by omega) HM9.out.game.st HM9.out.own (fun i hi => ⟨by have := HM9.out.vlo i hi; have := HM9.out.bw; omega, fun hu => (HM9.out.free .law i (.inr (.inr (.inr (.inr hu))))).2.2.1 hi⟩) (by omega)).mono ?_
  rintro e y1 ⟨rfl, HY1⟩
  obtain ⟨w0, U1, hs1, vh1, hb0, K1⟩ := HY1.out
  have M0 := HM9.out.next hb0
  have hws : ∀ i, i = gb ∨ i = w.heap.size → i ≠ ws ∧ vh.ownBlock ≠ some i := fun i hi => by
   refine ⟨fun e => ?_, fun e => ?_⟩
   ·have := M0.free .law i (.inl e)
    rcases hi with h | h
    ·exact this.2.1 h
    ·exact this.2.2.2 h
   ·have := M0.free .law i (.inr (.inl e))
    rcases hi with h | h
    ·exact this.2.1 h
    ·exact this.2.2.2 h
  have G1 := hide (M0.game.keep K1 (fun i hi => by
   rcases hi with hi | hi | hi | hi
   ·have hv := M0.vlo i hi
    have hlt := (M0.own.lt i hi).2
    have := M0.bw
    exact ⟨by omega, hlt, fun a e => (M0.free a i e).2.2.1 hi⟩
   ·cases hi
   ·cases hi
   ·cases hi))
  have kp1 : ∀ i, i = gb ∨ i = w.heap.size → i < w0.heap.size → (Value.slice a5 l5.length c5).ownBlock ≠ some i → y1.heap[i]? = w0.heap[i]? := fun i h1 h2 h3 => K1.block i h2 (hws i h1).1 (hws i h1).2 h3 (by simp [Value.ownBlock]) (by simp [Value.ownBlock]) (by simp [Value.ownBlock])
  have HL1 := hide ((kp1 gb (.inl rfl) (hl_ M0.lent) (fun e => by have := M0.vlo gb e; omega)).trans M0.lent)
  have HO1 := hide (M0.op.at (kp1 w.heap.size (.inr rfl) M0.op.lt (fun e => by have := M0.vlo _ e; omega)))
  have HB1 := hide (M0.below.trans K1.below)
  have hlen1 := K1.len
  have HN1 : Hid (∀ a, ¬ Own ws _ vh1 U1 _ a gb) := fun a e => by
   rcases keep_own K1 e with e | e | e
   ·exact (M0.free a gb e).2.1 rfl
   ·have := M0.vlo gb e; omega
   ·have := hl_ M0.lent; omega
  have HBW2 := hide M0.bw
  clear K1 hb0 HY1 M0 hws kp1 HM9 HY9
  obtain ⟨hcs, -, -⟩ := HO1.out.cells
  go_wp2_with fail
  refine (still_any y1 gb s hos HL1.out).mono ?_
  rintro e y2 ⟨rfl, n2, rfl⟩
  have hbd := below_drewN (Below.refl y1.heap.size y1) n2
  have G2 := hide (G1.out.below hbd)
  have HL2 := hide ((hbd.block _ (hl_ HL1.out)).trans HL1.out)
  have HB2' := hide (HB1.out.trans (hbd.mono G1.out.st.sz))
  clear hbd hcs
  generalize y1.drewN n2 = Y2 at G2 HL2 HB2' ⊢
  go_wp2_with fail
  refine (keepBox Y2 B ws U1 _ hs1 (newV gb (s.size + 8)) (.slice none 0 0) (.slice none 0 0) (.slice none 0 0) vh1 (s.size + 8) 0 0 0 (by omega) (by omega) (by omega) (by omega) (by omega) G2.out.st (.inl ⟨rfl, rfl, rfl⟩) ⟨_, lent_own hos HL2.out⟩ (own_nilx _ _ _) (own_nilx _ _ _) (own_nilx _ _ _) (new_free ⟨by have := HBW2.out; omega, fun hu => HN1.out .law (.inr (.inr (.inr (.inr hu))))⟩) nf_ nf_ nf_).mono ?_
  rintro e y3 ⟨rfl, U3, hs3, vh3, K3⟩
  have H3 := hide K3
  clear K3
  go_wp2_with fail
  go_ret
  have hlen3 := H3.out.len
  refine ⟨rfl, HB2'.out.trans H3.out.below, U3, hs3, vh3, _, G2.out.keep H3.out (fun i hi => ?_), ?_, by simp, by omega⟩
  ·rcases hi with hi | hi | hi | hi
   ·have hi' : gb = i := Option.some.inj hi
    subst hi'
    exact ⟨by have := HBW2.out; omega, hl_ HL2.out, HN1.out⟩
   ·cases hi
   ·cases hi
   ·cases hi
  ·intro q hq
   obtain ⟨j, hj⟩ := mem_get hq
   rcases get_set hj with ⟨_, rfl⟩ | ⟨_, hj⟩
   ·exact ⟨rfl, late_inv HSK.out⟩
   ·rcases get_set hj with ⟨h1, _⟩ | ⟨_, hj⟩
    ·exfalso; simp_all
    ·exact HE.out q (List.mem_of_getElem? hj)
end Go.Proofs.YtafoepfhepdcoaaGreat
