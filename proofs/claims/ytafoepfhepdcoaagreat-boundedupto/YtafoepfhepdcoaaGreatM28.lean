import Derived.Test.YtafoepfhepdcoaaGreatM27
import Derived.Deep.CutRange
set_option maxRecDepth 100000
set_option maxHeartbeats 8000000
namespace Go.Proofs.YtafoepfhepdcoaaGreat
open Go.RowKit Go.Trawl
structure SaidV where
 an : Int
 au : Int
 ex : Int
 rs : ByteArray
def SaidV.cells (x : SaidV) : List Value := [.int .i64 x.an, .int .i64 x.au, .int .i64 x.ex, .string x.rs]
structure SaidOk (x : SaidV) : Prop where
 a0 : -9223372036854775808 ≤ x.an
 a1 : x.an ≤ 9223372036854775807
 u0 : -9223372036854775808 ≤ x.au
 u1 : x.au ≤ 9223372036854775807
 x0 : -9223372036854775808 ≤ x.ex
 x1 : x.ex ≤ 9223372036854775807
 rs : x.rs.size ≤ 1048576
theorem buildKC5 (x d c y : Int) (a : Option Addr) (n m : Nat) (W : World) : (Instr.build 57 #[(0, .int .i64 x), (1, .int .i64 d), (2, .int .i64 c), (3, .int .i64 y), (4, .slice a n m)]).run Tryz.prog W = .ok (.agg #[.int .i64 x, .int .i64 d, .int .i64 c, .int .i64 y, .slice a n m]) W := run_build W _ _ _ (by kernel_rfl)
attribute [local go_sem] buildKC5 buildKQ equalQ guardQ Stg.upon
def nAB : ByteArray := ⟨#[1, 97, 1, 98, 0]⟩
theorem nameAB : str (nameL ⟨#[97, 98]⟩) = nAB := rfl
theorem first_goes {st0 : RSt} (h : StOk st0) {id : Int} (i0 : 0 ≤ id) (i1 : id ≤ 65535) (n : Nat) {k t : Int} {l : List UInt8} (hv : askStep (beginSt st0 (qM1 id nAB 1) ⟨nAB, 1, 1⟩) (freshCh st0 nAB 1) = stepV k t (str l)) :
  Goes (qM1 id nAB 1) (conf st0) n (askSt (beginSt st0 (qM1 id nAB 1) ⟨nAB, 1, 1⟩) [] (freshCh st0 nAB 1)) 0 0 k t l := by
 rcases ask_comes h (n := nAB) (k := 1) (id := id) (by decide) (by decide) (by decide) i0 i1 with hc | hc
 ·obtain ⟨r, c, e1, e2⟩ := hc.says
  dsimp only at e2
  rw [hv] at e2
  obtain ⟨rfl, rfl, e3⟩ := stepV_inj e2
  exact .sent hc.live hc.busy ⟨rfl, rfl⟩ rfl (Nat.zero_le _) ⟨r, c, e1, str_inj e3⟩
 ·obtain ⟨code, an, _, _, _, _, _, e2⟩ := hc.says
  dsimp only at e2
  unfold askStep at e2
  have := (stepV_inj e2).1
  omega
theorem cellk_lt {w : World} {b o : Nat} {v : Value} (h : w.cell? ⟨b, o, none⟩ = some v) : b < w.heap.size := by
 unfold World.cell? at h
 dsimp only at h
 split at h
 ·rename_i hh
  exact heap_lt hh
 ·cases h
theorem lex_want {P : Program} {ops : Array Oper} {C : Nat → World → Prop} {S : List Nat} {Q : Act → Prop} {i : Nat} {o : Oper} {l : List Oper} {a : Act} (hS : S.contains i = false) (hw : Region.wanted o (yielded ops a.tmps) = true) (v : Value)
  (h : ∀ j w, C j w → (execOp a.eval o).run P w = .ok (.value v) w) (hn : Stg.lex P ops C S Q l (i + 1) (a.put o.dst v)) : Stg.lex P ops C S Q (o :: l) i a := by
 refine ⟨v, .inl ⟨hw, fun j w hj hj' hC => ?_⟩, hn⟩
 have hi : Stg.inc S i = 0 := by unfold Stg.inc; rw [if_neg (by rw [hS]; exact Bool.false_ne_true)]
 rw [hi, h j w hC]
 exact ⟨rfl, hC⟩
theorem move_want (k : Nat) {P : Program} {ops : Array Oper} {C : Nat → World → Prop} {S : List Nat} {Q : Act → Prop} {i : Nat} {o : Oper} {l : List Oper} {a : Act} (hS : (S.contains i && decide (Stg.lo ops S i = k) && decide (Stg.hi ops S i = k)) = true) (hw : Region.wanted o (yielded ops a.tmps) = true) (v : Value)
  (h : ∀ w, C k w → Stg.upon P (C (k + 1)) v ((execOp a.eval o).run P w)) (hn : Stg.lex P ops C S Q l (i + 1) (a.put o.dst v)) : Stg.lex P ops C S Q (o :: l) i a := by
 simp only [Bool.and_eq_true, decide_eq_true_eq] at hS
 obtain ⟨⟨h1, h2⟩, h3⟩ := hS
 refine ⟨v, .inl ⟨hw, fun j w hj hj' hC => ?_⟩, hn⟩
 have : j = k := by omega
 subst this
 have hi : Stg.inc S i = 1 := by unfold Stg.inc; rw [if_pos h1]
 rw [hi]
 exact h w hC
theorem bounded_any (w : World) (bu de ch tr id : Int) (v : Value) (hd : List SaidV) (b0 : -9223372036854775808 ≤ bu) (b1 : bu ≤ 9223372036854775807) (d0 : -9223372036854775808 ≤ de) (d1 : de ≤ 9223372036854775807) (c0 : -9223372036854775808 ≤ ch) (c1 : ch ≤ 9223372036854775807) (t0 : -9223372036854775808 ≤ tr) (t1 : tr ≤ 9223372036854775807) (i0 : 0 ≤ id) (i1 : id ≤ 65535)
  (hv : Lies w 4 v (hd.map SaidV.cells)) (hn : hd.length ≤ 1048576) (hs : ∀ x ∈ hd, SaidOk x) :
  Calls Tryz.prog 10 #[.int .i64 bu, .int .i64 de, .int .i64 ch, .int .i64 tr, v, .int .u16 id] w fun e w' => e = .returned (.bool true) ∧ Below w.heap.size w w' := by
 obtain ⟨ib, hib, hz0, hz1, hz2⟩ := info_parts u8_info
 obtain ⟨av, cv, rfl, _⟩ := (show Lies w 4 v (hd.map SaidV.cells) from hv)
 have hlen : (hd.map SaidV.cells).length = hd.length := List.length_map _
 rw [hlen] at hv ⊢
 have HV := hide hv
 have HS := hide hs
 clear hv hs
 go_enter Tryz.func10, Tryz.ntmps10
 go_wp2_with fail
 refine (known_any w).mono ?_
 rintro e w1 ⟨rfl, H1⟩
 have HB1 := hide H1.out
 clear H1
 go_wp2_with fail
 refine (kPick_any bu 200 (by decide) (by decide) b0 b1 w1).mono ?_
 rintro e w' ⟨rfl, rfl⟩
 have hp1 := pkN_lt (c := bu) (n := 200) (by decide)
 generalize pkN bu 200 = pb at hp1 ⊢
 go_wp2_with fail
 refine (kPick_any de 7 (by decide) (by decide) d0 d1 _).mono ?_
 rintro e w' ⟨rfl, rfl⟩
 have hp2 := pkN_lt (c := de) (n := 7) (by decide)
 generalize pkN de 7 = pd at hp2 ⊢
 go_wp2_with fail
 refine (kPick_any ch 11 (by decide) (by decide) c0 c1 _).mono ?_
 rintro e w' ⟨rfl, rfl⟩
 have hp3 := pkN_lt (c := ch) (n := 11) (by decide)
 generalize pkN ch 11 = pc at hp3 ⊢
 go_wp2_with fail
 refine (kPick_any tr 8 (by decide) (by decide) t0 t1 _).mono ?_
 rintro e w' ⟨rfl, rfl⟩
 have hp4 := pkN_lt (c := tr) (n := 8) (by decide)
 generalize pkN tr 8 = pt at hp4 ⊢
 go_wp2_with fail
 have hcf : confOk (1 + (pb : Int)) pd pc (1 + (pt : Int)) [1, 2] := ⟨⟨by omega, by omega⟩, ⟨by omega, by omega⟩, ⟨by omega, by omega⟩, ⟨by omega, by omega⟩, by decide, by decide⟩
 have HL3 : Hid (Lies ((w'.alloc (.cells #[.int .u32 1, .int .u32 2] 54)).alloc (.cells #[.int .i64 (1 + (pb : Int)), .int .i64 pd, .int .i64 pc, .int .i64 (1 + (pt : Int)), .slice (some ⟨w'.heap.size, 0, none⟩) 2 2] 57)) 1 (.slice (some ⟨w'.heap.size, 0, none⟩) 2 2) (wordsV [1, 2])) := lies_row (heap_old (heap_new w' _) _) rfl (fun x hx => by simp [wordsV] at hx; rcases hx with rfl | rfl <;> rfl) rfl
 have HC3 := hide (heap_new (w'.alloc (.cells #[.int .u32 1, .int .u32 2] 54)) (.cells #[.int .i64 (1 + (pb : Int)), .int .i64 pd, .int .i64 pc, .int .i64 (1 + (pt : Int)), .slice (some ⟨w'.heap.size, 0, none⟩) 2 2] 57))
 have hb3 := ((Below.refl w'.heap.size w').alloc (Nat.le_refl _) (.cells #[.int .u32 1, .int .u32 2] 54)).alloc (by rw [alloc_size]; omega) (.cells #[.int .i64 (1 + (pb : Int)), .int .i64 pd, .int .i64 pc, .int .i64 (1 + (pt : Int)), .slice (some ⟨w'.heap.size, 0, none⟩) 2 2] 57)
 have HB3 := hide (HB1.out.trans (hb3.mono HB1.out.size))
 rw [alloc_size] at HC3
 have hwC : w.heap.size ≤ w'.heap.size + 1 := by have := HB1.out.size; omega
 clear hb3
 generalize hcfv : (#[.int .i64 (1 + (pb : Int)), .int .i64 pd, .int .i64 pc, .int .i64 (1 + (pt : Int)), .slice (some ⟨w'.heap.size, 0, none⟩) 2 2] : Array Value) = cf at HL3 HC3 HB3
 have hr := kResolver_any _ (1 + (pb : Int)) pd pc (1 + (pt : Int)) [1, 2] _ hcf HL3.out
 unfold confV at hr
 subst hcfv
 refine hr.mono ?_
 clear hr HL3
 generalize hcfw : (#[.int .i64 (1 + (pb : Int)), .int .i64 pd, .int .i64 pc, .int .i64 (1 + (pt : Int)), .slice (some ⟨w'.heap.size, 0, none⟩) 2 2] : Array Value) = cf at HC3 HB3 ⊢
 have HCF := hide hcfw
 clear hcfw
 generalize (w'.alloc _).alloc _ = W3 at HC3 HB3 ⊢
 rintro e w4 ⟨xb, rfl, H4⟩
 obtain ⟨sb, vr4, K4, hb4⟩ := H4.out
 have hz3 := HB3.out.size
 have HB4 := hide (HB3.out.trans (hb4.mono hz3))
 have HK4 := hide K4
 have HC4 := hide ((hb4.block _ (heap_lt HC3.out)).trans HC3.out)
 have hxb : xb < w4.heap.size := K4.lt (.inl rfl)
 have hxlo : W3.heap.size ≤ xb := K4.lo xb (.inl rfl)
 have hcC := heap_lt HC3.out
 have HNC : Hid (¬ pOwns xb sb vr4 (w'.heap.size + 1)) := fun e => by have := K4.lo _ e; omega
 clear H4 hb4 K4 HB3 HC3
 generalize hst0 : newSt (1 + (pb : Int)) pd pc (1 + (pt : Int)) [1, 2] = st0 at HK4
 have HOK0 : Hid (StOk st0) := by rw [← hst0]; exact newSt_ok hcf
 have HBZ0 : Hid (st0.busy = false) := by rw [← hst0]; rfl
 have HCONF : Hid (conf st0 = (1 + (pb : Int), (pd : Int), (pc : Int), 1 + (pt : Int), [1, 2])) := by rw [← hst0]; rfl
 clear hst0 hcf
 go_wp2_with fail
 refine (kName_any w4 ⟨#[97, 98]⟩ (by decide)).mono ?_
 rintro e w5 ⟨rfl, H5⟩
 have HB5 := hide (HB4.out.trans (H5.out.mono HB4.out.size))
 have HK5 := hide (HK4.out.below H5.out)
 have HC5 := hide ((H5.out.block _ (heap_lt HC4.out)).trans HC4.out)
 have hz5 := H5.out.size
 clear H5 HB4 HK4 HC4
 rw [nameAB]
 go_wp2_with fail
 have ha := kAsks_any w5 id 1 nAB (by decide) i0 i1 (by decide) (by decide)
 have hfew := few (qM1 id nAB 1) (one_un (n := nAB) (k := 1) (by decide) rfl rfl rfl rfl rfl (by decide) (by decide) i0 i1).1
 have hgo := ask_go HOK0.out HBZ0.out (n := nAB) (k := 1) (by decide) (by decide) (by decide) i0 i1
 generalize packL (qM1 id nAB 1) = lQ at ha hfew hgo
 have HGO := hide hgo
 have HFEW := hide hfew
 have hlq := hfew.2
 clear hgo hfew
 refine ha.mono ?_
 clear ha
 rintro e w6 ⟨a6, c6, rfl, H6⟩
 have HB6 := hide (HB5.out.trans (H6.out.1.mono HB5.out.size))
 have HK6 := hide (HK5.out.below H6.out.1)
 have HC6 := hide ((H6.out.1.block _ (heap_lt HC5.out)).trans HC5.out)
 obtain ⟨b6, rfl, hby6, hcap6, hlt6⟩ := own_bytes (own_zero H6.out.2) HFEW.out.1
 have hb6 : w5.heap.size ≤ b6 := (H6.out.2.lt b6 rfl).1
 have HBY6 := hide hby6
 clear H6 HB5 HK5 HC5 hby6
 go_wp2_with fail
 have hpa := pAsk_any w6 xb sb b6 c6 vr4 st0 (str lQ) HK6.out.at_ HOK0.out (by show lQ.length ≤ _; omega) hcap6 hlt6 HBY6.out (by omega)
 rw [HGO.out] at hpa
 refine hpa.mono ?_
 clear hpa
 rintro e w7 ⟨k7, t7, a7, l7, c7, rfl, H7⟩
 have HG7 := hide (first_goes HOK0.out i0 i1 hd.length H7.out.1)
 obtain ⟨vr7, sp7⟩ := H7.out.2
 dsimp only at sp7
 have S7 := hide (HK6.out.spoke sp7)
 have HB7 := hide (HB6.out.trans (S7.out.below.mono (by omega)))
 have hz6 := HB6.out.size
 have HC7 := hide ((S7.out.keep _ (heap_lt HC6.out) HNC.out).trans HC6.out)
 have hC6 := heap_lt HC6.out
 have HNC7 : Hid (¬ pOwns xb sb vr7 (w'.heap.size + 1)) := fun e => by
  rcases S7.out.owns _ e with e | e
  ·exact HNC.out e
  ·omega
 clear H7 sp7 HB6 HK6 HC6 HBY6 HGO
 generalize askSt (beginSt st0 (qM1 id nAB 1) ⟨nAB, 1, 1⟩) [] (freshCh st0 nAB 1) = st7 at HG7 S7
 have HBD : Hid (BD w (w7.alloc (.cells #[.int .i64 k7, .int .u32 t7, .slice a7 l7.length c7] 59)) W3.heap.size xb sb w7.heap.size (w'.heap.size + 1) cf vr7 st7 k7 t7 (.slice a7 l7.length c7) l7) := by
  have hb := (Below.refl w7.heap.size w7).alloc (Nat.le_refl _) (.cells #[.int .i64 k7, .int .u32 t7, .slice a7 l7.length c7] 59)
  refine ⟨⟨HB7.out.trans (hb.mono HB7.out.size), hz3, S7.out.kb.below hb, heap_new _ _, (hb.block _ (heap_lt HC7.out)).trans HC7.out, (fun e => by have := S7.out.kb.lt e; omega), HNC7.out, HB7.out.size⟩, own_below S7.out.own hb, fun j hj => ?_⟩
  have h1 := S7.out.new j hj
  have h2 := (S7.out.own.lt j hj).2
  exact ⟨S7.out.apart j hj, by omega, by omega, by omega⟩
 have hXC : w7.heap.size ≠ w'.heap.size + 1 := by have := heap_lt HC7.out; omega
 clear S7 HB7 HC7 HNC7 HNC
 unfold stepX
 go_wp2_with fail
 generalize w7.alloc _ = W8 at HBD ⊢
 generalize w7.heap.size = X at HBD hXC ⊢
 rw [HCONF.out] at HG7
 clear HCONF HOK0 HBZ0 HFEW
 generalize hcg : (1 + (pb : Int), (pd : Int), (pc : Int), 1 + (pt : Int), ([1, 2] : List Int)) = cfg at HG7
 have HCG := hide hcg
 clear hcg
 go_loopw [17, 18, 19] (fun ve vs vi wr => ∃ (i s : Nat) (st : RSt) (vr : PV) (k t : Int) (a : Option Addr) (l : List UInt8) (c : Nat), ve = .int .i64 0 ∧ vs = .int .i64 s ∧ vi = .int .i64 i ∧ i ≤ hd.length + 250 ∧ Hid (BD w wr W3.heap.size xb sb X (w'.heap.size + 1) cf vr st k t (.slice a l.length c) l) ∧ Hid (Goes (qM1 id nAB 1) cfg hd.length st i s k t l)) (fun _ _ vi _ => hd.length + 250 - (intOf vi).toNat)
 case atStart => exact ⟨0, 0, st7, vr7, k7, t7, a7, l7, c7, rfl, rfl, rfl, Nat.zero_le _, HBD.out, HG7.out⟩
 case round =>
  obtain ⟨i, s, st, vr, k, t, a, l, c, rfl, rfl, rfl, hile, HD, HG⟩ := hrel
  have hcx := box_cells HD.out.bx.box
  by_cases hk2 : k = 2
  ·rw [← HCG.out] at HG
   obtain ⟨h1s, hsb, hlne, hl512, m, hun, hmid, hmr, hmq, hmc, hma, hpc0, hi201⟩ := goes_over HG.out hk2 (by decide) i0 i1
   subst hk2
   obtain ⟨b9, rfl, hby9, hcap9, hlt9⟩ := own_bytes HD.out.own hlne
   have HBY9 := hide hby9
   have HUN := hide hun
   have hcc := box_cells HD.out.bx.cbox
   rw [← HCF.out] at hcc
   clear hby9 hun hlne
   ·have hil : i < hd.length + 250 := by omega
    have hil' : (i : Int) < (hd.length : Int) + 250 := by omega
    have hs1 : ¬ (1 + (pb : Int)) < (s : Int) := by omega
    have hs2 : ¬ (s : Int) < 1 := by omega
    go_wp2_with fail
    have hu := tUnpack2 wr b9 c (str l) (by show l.length ≤ _; omega) hcap9 hlt9 HBY9.out
    rw [(unM_of HUN.out).1, (unM_of HUN.out).2] at hu
    refine hu.mono ?_
    clear hu hcx
    rintro e w10 ⟨aq, cq, aa, ca, au, cu, ax, cx, rfl, H10⟩
    unfold msgCells
    have hb11 := H10.out.1.trans (((Below.refl w10.heap.size w10).alloc (Nat.le_refl _) (.cells #[.int .u16 m.id, .bool m.resp, .int .i64 m.op, .bool m.own, .bool m.cut, .bool m.wanted, .bool m.able, .int .i64 m.code, .slice aq m.qs.length cq, .slice aa m.an.length ca, .slice au m.au.length cu, .slice ax m.ex.length cx] 30)).mono H10.out.1.size)
    have HM11 := hide (heap_new w10 (.cells #[.int .u16 m.id, .bool m.resp, .int .i64 m.op, .bool m.own, .bool m.cut, .bool m.wanted, .bool m.able, .int .i64 m.code, .slice aq m.qs.length cq, .slice aa m.an.length ca, .slice au m.au.length cu, .slice ax m.ex.length cx] 30))
    have HX11 := hide (HD.out.bx.next hb11)
    have hq11 := (Rows4.at H10.out.2.2).q.below ((Below.refl w10.heap.size w10).alloc (Nat.le_refl _) (.cells #[.int .u16 m.id, .bool m.resp, .int .i64 m.op, .bool m.own, .bool m.cut, .bool m.wanted, .bool m.able, .int .i64 m.code, .slice aq m.qs.length cq, .slice aa m.an.length ca, .slice au m.au.length cu, .slice ax m.ex.length cx] 30))
    have hql : m.qs.length = 1 := by rw [hmq]; rfl
    obtain ⟨bq, offq, eq_, q0, q1, q2⟩ := q_one (q := ⟨nAB, 1, 1⟩) (by rw [← hmq]; exact hq11)
    subst eq_
    clear hb11 H10 HBY9 hq11
    simp only [hql, hmid, hmr] at HM11 HX11 q0 q1 q2 ⊢
    go_upto_region 29 with fail
    generalize w10.alloc _ = W11 at HM11 HX11 q0 q1 q2 ⊢
    generalize w10.heap.size = M at HM11 ⊢
    have HCELL : Hid (∀ W', Below W11.heap.size W11 W' → (W'.cell? ⟨M, 0, none⟩ = some (.int .u16 id) ∧ W'.cell? ⟨M, 1, none⟩ = some (.bool true) ∧ W'.cell? ⟨M, 7, none⟩ = some (.int .i64 m.code) ∧ W'.cell? ⟨M, 8, none⟩ = some (.slice (some ⟨bq, offq, none⟩) 1 cq) ∧ W'.cell? ⟨M, 9, none⟩ = some (.slice aa m.an.length ca) ∧ W'.cell? ⟨bq, offq, none⟩ = some (.string nAB) ∧ W'.cell? ⟨bq, offq + 1, none⟩ = some (.int .u16 1) ∧ W'.cell? ⟨bq, offq + 2, none⟩ = some (.int .u16 1) ∧ W'.cell? ⟨w'.heap.size + 1, 2, none⟩ = some (.int .i64 pc)) ∧ Below w.heap.size w W') := fun W' hb => by
     have hm := box_cells ((hb.block _ (heap_lt HM11.out)).trans HM11.out)
     have hbq : bq < W11.heap.size := cellk_lt q0
     have hk := hb.block bq hbq
     have hX := HX11.out.next hb
     have hcc2 := box_cells hX.cbox
     rw [← HCF.out] at hcc2
     refine ⟨⟨(hm 0).trans rfl, (hm 1).trans rfl, (hm 7).trans rfl, (hm 8).trans rfl, (hm 9).trans rfl, cell_of_heap hk q0, cell_of_heap hk q1, cell_of_heap hk q2, (hcc2 2).trans rfl⟩, hX.below⟩
    have HNM : Hid (∀ Wx, Below W11.heap.size W11 Wx → Calls Tryz.prog 26 #[.string ⟨#[97, 98]⟩] Wx fun e w12 => e = .returned (.string nAB) ∧ Hid (Below W11.heap.size W11 w12) ∧ True) := fun Wx hb => by
     refine (kName_any Wx ⟨#[97, 98]⟩ (by decide)).mono ?_
     rintro e w12 ⟨rfl, H12⟩
     exact ⟨rfl, hb.trans (H12.out.mono hb.size), trivial⟩
    have HDR : Hid (Below W11.heap.size W11 W11.drew) := below_drewN (Below.refl _ _) 1
    rcases hmc with h0 | ⟨h0, hle⟩
    ·have h0' : ((m.code : Int) == 0) = true := by simp; exact h0
     clear h0
     refine Stg.wp_region_stage [23] (fun _ W' => Below W11.heap.size W11 W') (by kernel_rfl) (by kernel_rfl) HDR.out ?_
     refine lex_want (by kernel_rfl) (by kernel_rfl) (.int .i64 0) (fun j W' hW' => by obtain ⟨m0, m1, m7, m8, m9, n0, n1, n2, n3⟩ := (HCELL.out W' hW').1; go_simp) ?_
     refine lex_want (by kernel_rfl) (by kernel_rfl) (.bool true) (fun j W' hW' => by obtain ⟨m0, m1, m7, m8, m9, n0, n1, n2, n3⟩ := (HCELL.out W' hW').1; go_simp) ?_
     refine lex_want (by kernel_rfl) (by kernel_rfl) (.bool true) (fun j W' hW' => by obtain ⟨m0, m1, m7, m8, m9, n0, n1, n2, n3⟩ := (HCELL.out W' hW').1; go_simp) ?_
     refine lex_want (by kernel_rfl) (by kernel_rfl) (.pointer (some ⟨M, 0, none⟩)) (fun j W' hW' => by obtain ⟨m0, m1, m7, m8, m9, n0, n1, n2, n3⟩ := (HCELL.out W' hW').1; go_simp) ?_
     refine lex_want (by kernel_rfl) (by kernel_rfl) (.int .u16 id) (fun j W' hW' => by obtain ⟨m0, m1, m7, m8, m9, n0, n1, n2, n3⟩ := (HCELL.out W' hW').1; go_simp) ?_
     refine lex_want (by kernel_rfl) (by kernel_rfl) (.int .u16 id) (fun j W' hW' => by obtain ⟨m0, m1, m7, m8, m9, n0, n1, n2, n3⟩ := (HCELL.out W' hW').1; go_simp) ?_
     refine lex_want (by kernel_rfl) (by kernel_rfl) (.bool true) (fun j W' hW' => by obtain ⟨m0, m1, m7, m8, m9, n0, n1, n2, n3⟩ := (HCELL.out W' hW').1; go_simp) ?_
     refine lex_want (by kernel_rfl) (by kernel_rfl) (.bool true) (fun j W' hW' => by obtain ⟨m0, m1, m7, m8, m9, n0, n1, n2, n3⟩ := (HCELL.out W' hW').1; go_simp) ?_
     refine lex_want (by kernel_rfl) (by kernel_rfl) (.bool true) (fun j W' hW' => by obtain ⟨m0, m1, m7, m8, m9, n0, n1, n2, n3⟩ := (HCELL.out W' hW').1; go_simp) ?_
     refine lex_want (by kernel_rfl) (by kernel_rfl) (.pointer (some ⟨M, 1, none⟩)) (fun j W' hW' => by obtain ⟨m0, m1, m7, m8, m9, n0, n1, n2, n3⟩ := (HCELL.out W' hW').1; go_simp) ?_
     refine lex_want (by kernel_rfl) (by kernel_rfl) (.bool true) (fun j W' hW' => by obtain ⟨m0, m1, m7, m8, m9, n0, n1, n2, n3⟩ := (HCELL.out W' hW').1; go_simp) ?_
     refine lex_want (by kernel_rfl) (by kernel_rfl) (.bool true) (fun j W' hW' => by obtain ⟨m0, m1, m7, m8, m9, n0, n1, n2, n3⟩ := (HCELL.out W' hW').1; go_simp) ?_
     refine lex_want (by kernel_rfl) (by kernel_rfl) (.bool true) (fun j W' hW' => by obtain ⟨m0, m1, m7, m8, m9, n0, n1, n2, n3⟩ := (HCELL.out W' hW').1; go_simp) ?_
     refine lex_want (by kernel_rfl) (by kernel_rfl) (.pointer (some ⟨M, 8, none⟩)) (fun j W' hW' => by obtain ⟨m0, m1, m7, m8, m9, n0, n1, n2, n3⟩ := (HCELL.out W' hW').1; go_simp) ?_
     refine lex_want (by kernel_rfl) (by kernel_rfl) (.slice (some ⟨bq, offq, none⟩) 1 cq) (fun j W' hW' => by obtain ⟨m0, m1, m7, m8, m9, n0, n1, n2, n3⟩ := (HCELL.out W' hW').1; go_simp) ?_
     refine lex_want (by kernel_rfl) (by kernel_rfl) (.int .i64 1) (fun j W' hW' => by obtain ⟨m0, m1, m7, m8, m9, n0, n1, n2, n3⟩ := (HCELL.out W' hW').1; go_simp) ?_
     refine lex_want (by kernel_rfl) (by kernel_rfl) (.bool true) (fun j W' hW' => by obtain ⟨m0, m1, m7, m8, m9, n0, n1, n2, n3⟩ := (HCELL.out W' hW').1; go_simp) ?_
     refine lex_want (by kernel_rfl) (by kernel_rfl) (.bool true) (fun j W' hW' => by obtain ⟨m0, m1, m7, m8, m9, n0, n1, n2, n3⟩ := (HCELL.out W' hW').1; go_simp) ?_
     refine lex_want (by kernel_rfl) (by kernel_rfl) (.bool true) (fun j W' hW' => by obtain ⟨m0, m1, m7, m8, m9, n0, n1, n2, n3⟩ := (HCELL.out W' hW').1; go_simp) ?_
     refine lex_want (by kernel_rfl) (by kernel_rfl) (.pointer (some ⟨M, 8, none⟩)) (fun j W' hW' => by obtain ⟨m0, m1, m7, m8, m9, n0, n1, n2, n3⟩ := (HCELL.out W' hW').1; go_simp) ?_
     refine lex_want (by kernel_rfl) (by kernel_rfl) (.slice (some ⟨bq, offq, none⟩) 1 cq) (fun j W' hW' => by obtain ⟨m0, m1, m7, m8, m9, n0, n1, n2, n3⟩ := (HCELL.out W' hW').1; go_simp) ?_
     refine lex_want (by kernel_rfl) (by kernel_rfl) (.pointer (some ⟨bq, offq, none⟩)) (fun j W' hW' => by obtain ⟨m0, m1, m7, m8, m9, n0, n1, n2, n3⟩ := (HCELL.out W' hW').1; go_simp) ?_
     refine lex_want (by kernel_rfl) (by kernel_rfl) (.agg #[.string nAB, .int .u16 1, .int .u16 1]) (fun j W' hW' => by obtain ⟨m0, m1, m7, m8, m9, n0, n1, n2, n3⟩ := (HCELL.out W' hW').1; go_simp) ?_
     refine move_want 0 (by kernel_rfl) (by kernel_rfl) (.string nAB) ?_ ?_
     ·intro W' hW'
      have hk := HNM.out W' hW'
      go_simp
      refine hk.mono ?_
      rintro e w12 ⟨h1, h2, _⟩
      exact ⟨h1, h2.out⟩
     refine lex_want (by kernel_rfl) (by kernel_rfl) (.agg #[.string nAB, .int .u16 1, .int .u16 1]) (fun j W' hW' => by obtain ⟨m0, m1, m7, m8, m9, n0, n1, n2, n3⟩ := (HCELL.out W' hW').1; go_simp) ?_
     refine lex_want (by kernel_rfl) (by kernel_rfl) (.bool true) (fun j W' hW' => by obtain ⟨m0, m1, m7, m8, m9, n0, n1, n2, n3⟩ := (HCELL.out W' hW').1; go_simp) ?_
     refine lex_want (by kernel_rfl) (by kernel_rfl) (.bool true) (fun j W' hW' => by obtain ⟨m0, m1, m7, m8, m9, n0, n1, n2, n3⟩ := (HCELL.out W' hW').1; go_simp) ?_
     refine lex_want (by kernel_rfl) (by kernel_rfl) (.bool true) (fun j W' hW' => by obtain ⟨m0, m1, m7, m8, m9, n0, n1, n2, n3⟩ := (HCELL.out W' hW').1; go_simp) ?_
     refine lex_want (by kernel_rfl) (by kernel_rfl) (.pointer (some ⟨M, 7, none⟩)) (fun j W' hW' => by obtain ⟨m0, m1, m7, m8, m9, n0, n1, n2, n3⟩ := (HCELL.out W' hW').1; go_simp) ?_
     refine lex_want (by kernel_rfl) (by kernel_rfl) (.int .i64 m.code) (fun j W' hW' => by obtain ⟨m0, m1, m7, m8, m9, n0, n1, n2, n3⟩ := (HCELL.out W' hW').1; go_simp) ?_
     refine lex_want (by kernel_rfl) (by kernel_rfl) (.bool true) (fun j W' hW' => by obtain ⟨m0, m1, m7, m8, m9, n0, n1, n2, n3⟩ := (HCELL.out W' hW').1; go_simp) ?_
     refine lex_want (by kernel_rfl) (by kernel_rfl) (.bool true) (fun j W' hW' => by obtain ⟨m0, m1, m7, m8, m9, n0, n1, n2, n3⟩ := (HCELL.out W' hW').1; go_simp) ?_
     refine Stg.lex_skip (by kernel_rfl) (by kernel_rfl) ?_
     refine Stg.lex_skip (by kernel_rfl) (by kernel_rfl) ?_
     refine Stg.lex_skip (by kernel_rfl) (by kernel_rfl) ?_
     refine Stg.lex_skip (by kernel_rfl) (by kernel_rfl) ?_
     refine Stg.lex_skip (by kernel_rfl) (by kernel_rfl) ?_
     refine Stg.lex_skip (by kernel_rfl) (by kernel_rfl) ?_
     refine lex_want (by kernel_rfl) (by kernel_rfl) (.bool true) (fun j W' hW' => by obtain ⟨m0, m1, m7, m8, m9, n0, n1, n2, n3⟩ := (HCELL.out W' hW').1; go_simp) ?_
     refine lex_want (by kernel_rfl) (by kernel_rfl) (.bool true) (fun j W' hW' => by obtain ⟨m0, m1, m7, m8, m9, n0, n1, n2, n3⟩ := (HCELL.out W' hW').1; go_simp) ?_
     refine lex_want (by kernel_rfl) (by kernel_rfl) (.bool true) (fun j W' hW' => by obtain ⟨m0, m1, m7, m8, m9, n0, n1, n2, n3⟩ := (HCELL.out W' hW').1; go_simp) ?_
     refine Stg.lex_nil ?_
     intro W' hW'
     have HF := hide (HCELL.out W' hW').2
     clear hW'
     dsimp only [Act.put]
     simp only [List.setIfInBounds_toArray, List.set_cons_zero, List.set_cons_succ]
     go_wp2_with fail
     go_ret
     exact ⟨rfl, HF.out⟩
    ·have h0' : ((m.code : Int) == 0) = false := by simp; exact h0
     have hle' : decide ((m.an.length : Int) ≤ (pc : Int)) = true := by simp; omega
     refine Stg.wp_region_stage [23] (fun _ W' => Below W11.heap.size W11 W') (by kernel_rfl) (by kernel_rfl) HDR.out ?_
     refine lex_want (by kernel_rfl) (by kernel_rfl) (.int .i64 0) (fun j W' hW' => by obtain ⟨m0, m1, m7, m8, m9, n0, n1, n2, n3⟩ := (HCELL.out W' hW').1; go_simp) ?_
     refine lex_want (by kernel_rfl) (by kernel_rfl) (.bool true) (fun j W' hW' => by obtain ⟨m0, m1, m7, m8, m9, n0, n1, n2, n3⟩ := (HCELL.out W' hW').1; go_simp) ?_
     refine lex_want (by kernel_rfl) (by kernel_rfl) (.bool true) (fun j W' hW' => by obtain ⟨m0, m1, m7, m8, m9, n0, n1, n2, n3⟩ := (HCELL.out W' hW').1; go_simp) ?_
     refine lex_want (by kernel_rfl) (by kernel_rfl) (.pointer (some ⟨M, 0, none⟩)) (fun j W' hW' => by obtain ⟨m0, m1, m7, m8, m9, n0, n1, n2, n3⟩ := (HCELL.out W' hW').1; go_simp) ?_
     refine lex_want (by kernel_rfl) (by kernel_rfl) (.int .u16 id) (fun j W' hW' => by obtain ⟨m0, m1, m7, m8, m9, n0, n1, n2, n3⟩ := (HCELL.out W' hW').1; go_simp) ?_
     refine lex_want (by kernel_rfl) (by kernel_rfl) (.int .u16 id) (fun j W' hW' => by obtain ⟨m0, m1, m7, m8, m9, n0, n1, n2, n3⟩ := (HCELL.out W' hW').1; go_simp) ?_
     refine lex_want (by kernel_rfl) (by kernel_rfl) (.bool true) (fun j W' hW' => by obtain ⟨m0, m1, m7, m8, m9, n0, n1, n2, n3⟩ := (HCELL.out W' hW').1; go_simp) ?_
     refine lex_want (by kernel_rfl) (by kernel_rfl) (.bool true) (fun j W' hW' => by obtain ⟨m0, m1, m7, m8, m9, n0, n1, n2, n3⟩ := (HCELL.out W' hW').1; go_simp) ?_
     refine lex_want (by kernel_rfl) (by kernel_rfl) (.bool true) (fun j W' hW' => by obtain ⟨m0, m1, m7, m8, m9, n0, n1, n2, n3⟩ := (HCELL.out W' hW').1; go_simp) ?_
     refine lex_want (by kernel_rfl) (by kernel_rfl) (.pointer (some ⟨M, 1, none⟩)) (fun j W' hW' => by obtain ⟨m0, m1, m7, m8, m9, n0, n1, n2, n3⟩ := (HCELL.out W' hW').1; go_simp) ?_
     refine lex_want (by kernel_rfl) (by kernel_rfl) (.bool true) (fun j W' hW' => by obtain ⟨m0, m1, m7, m8, m9, n0, n1, n2, n3⟩ := (HCELL.out W' hW').1; go_simp) ?_
     refine lex_want (by kernel_rfl) (by kernel_rfl) (.bool true) (fun j W' hW' => by obtain ⟨m0, m1, m7, m8, m9, n0, n1, n2, n3⟩ := (HCELL.out W' hW').1; go_simp) ?_
     refine lex_want (by kernel_rfl) (by kernel_rfl) (.bool true) (fun j W' hW' => by obtain ⟨m0, m1, m7, m8, m9, n0, n1, n2, n3⟩ := (HCELL.out W' hW').1; go_simp) ?_
     refine lex_want (by kernel_rfl) (by kernel_rfl) (.pointer (some ⟨M, 8, none⟩)) (fun j W' hW' => by obtain ⟨m0, m1, m7, m8, m9, n0, n1, n2, n3⟩ := (HCELL.out W' hW').1; go_simp) ?_
     refine lex_want (by kernel_rfl) (by kernel_rfl) (.slice (some ⟨bq, offq, none⟩) 1 cq) (fun j W' hW' => by obtain ⟨m0, m1, m7, m8, m9, n0, n1, n2, n3⟩ := (HCELL.out W' hW').1; go_simp) ?_
     refine lex_want (by kernel_rfl) (by kernel_rfl) (.int .i64 1) (fun j W' hW' => by obtain ⟨m0, m1, m7, m8, m9, n0, n1, n2, n3⟩ := (HCELL.out W' hW').1; go_simp) ?_
     refine lex_want (by kernel_rfl) (by kernel_rfl) (.bool true) (fun j W' hW' => by obtain ⟨m0, m1, m7, m8, m9, n0, n1, n2, n3⟩ := (HCELL.out W' hW').1; go_simp) ?_
     refine lex_want (by kernel_rfl) (by kernel_rfl) (.bool true) (fun j W' hW' => by obtain ⟨m0, m1, m7, m8, m9, n0, n1, n2, n3⟩ := (HCELL.out W' hW').1; go_simp) ?_
     refine lex_want (by kernel_rfl) (by kernel_rfl) (.bool true) (fun j W' hW' => by obtain ⟨m0, m1, m7, m8, m9, n0, n1, n2, n3⟩ := (HCELL.out W' hW').1; go_simp) ?_
     refine lex_want (by kernel_rfl) (by kernel_rfl) (.pointer (some ⟨M, 8, none⟩)) (fun j W' hW' => by obtain ⟨m0, m1, m7, m8, m9, n0, n1, n2, n3⟩ := (HCELL.out W' hW').1; go_simp) ?_
     refine lex_want (by kernel_rfl) (by kernel_rfl) (.slice (some ⟨bq, offq, none⟩) 1 cq) (fun j W' hW' => by obtain ⟨m0, m1, m7, m8, m9, n0, n1, n2, n3⟩ := (HCELL.out W' hW').1; go_simp) ?_
     refine lex_want (by kernel_rfl) (by kernel_rfl) (.pointer (some ⟨bq, offq, none⟩)) (fun j W' hW' => by obtain ⟨m0, m1, m7, m8, m9, n0, n1, n2, n3⟩ := (HCELL.out W' hW').1; go_simp) ?_
     refine lex_want (by kernel_rfl) (by kernel_rfl) (.agg #[.string nAB, .int .u16 1, .int .u16 1]) (fun j W' hW' => by obtain ⟨m0, m1, m7, m8, m9, n0, n1, n2, n3⟩ := (HCELL.out W' hW').1; go_simp) ?_
     refine move_want 0 (by kernel_rfl) (by kernel_rfl) (.string nAB) ?_ ?_
     ·intro W' hW'
      have hk := HNM.out W' hW'
      go_simp
      refine hk.mono ?_
      rintro e w12 ⟨h1, h2, _⟩
      exact ⟨h1, h2.out⟩
     refine lex_want (by kernel_rfl) (by kernel_rfl) (.agg #[.string nAB, .int .u16 1, .int .u16 1]) (fun j W' hW' => by obtain ⟨m0, m1, m7, m8, m9, n0, n1, n2, n3⟩ := (HCELL.out W' hW').1; go_simp) ?_
     refine lex_want (by kernel_rfl) (by kernel_rfl) (.bool true) (fun j W' hW' => by obtain ⟨m0, m1, m7, m8, m9, n0, n1, n2, n3⟩ := (HCELL.out W' hW').1; go_simp) ?_
     refine lex_want (by kernel_rfl) (by kernel_rfl) (.bool true) (fun j W' hW' => by obtain ⟨m0, m1, m7, m8, m9, n0, n1, n2, n3⟩ := (HCELL.out W' hW').1; go_simp) ?_
     refine lex_want (by kernel_rfl) (by kernel_rfl) (.bool true) (fun j W' hW' => by obtain ⟨m0, m1, m7, m8, m9, n0, n1, n2, n3⟩ := (HCELL.out W' hW').1; go_simp) ?_
     refine lex_want (by kernel_rfl) (by kernel_rfl) (.pointer (some ⟨M, 7, none⟩)) (fun j W' hW' => by obtain ⟨m0, m1, m7, m8, m9, n0, n1, n2, n3⟩ := (HCELL.out W' hW').1; go_simp) ?_
     refine lex_want (by kernel_rfl) (by kernel_rfl) (.int .i64 m.code) (fun j W' hW' => by obtain ⟨m0, m1, m7, m8, m9, n0, n1, n2, n3⟩ := (HCELL.out W' hW').1; go_simp) ?_
     refine lex_want (by kernel_rfl) (by kernel_rfl) (.bool false) (fun j W' hW' => by obtain ⟨m0, m1, m7, m8, m9, n0, n1, n2, n3⟩ := (HCELL.out W' hW').1; go_simp) ?_
     refine lex_want (by kernel_rfl) (by kernel_rfl) (.bool false) (fun j W' hW' => by obtain ⟨m0, m1, m7, m8, m9, n0, n1, n2, n3⟩ := (HCELL.out W' hW').1; go_simp) ?_
     refine lex_want (by kernel_rfl) (by kernel_rfl) (.pointer (some ⟨M, 9, none⟩)) (fun j W' hW' => by obtain ⟨m0, m1, m7, m8, m9, n0, n1, n2, n3⟩ := (HCELL.out W' hW').1; go_simp) ?_
     refine lex_want (by kernel_rfl) (by kernel_rfl) (.slice aa m.an.length ca) (fun j W' hW' => by obtain ⟨m0, m1, m7, m8, m9, n0, n1, n2, n3⟩ := (HCELL.out W' hW').1; go_simp) ?_
     refine lex_want (by kernel_rfl) (by kernel_rfl) (.int .i64 m.an.length) (fun j W' hW' => by obtain ⟨m0, m1, m7, m8, m9, n0, n1, n2, n3⟩ := (HCELL.out W' hW').1; go_simp) ?_
     refine lex_want (by kernel_rfl) (by kernel_rfl) (.pointer (some ⟨w'.heap.size + 1, 2, none⟩)) (fun j W' hW' => by obtain ⟨m0, m1, m7, m8, m9, n0, n1, n2, n3⟩ := (HCELL.out W' hW').1; go_simp) ?_
     refine lex_want (by kernel_rfl) (by kernel_rfl) (.int .i64 pc) (fun j W' hW' => by obtain ⟨m0, m1, m7, m8, m9, n0, n1, n2, n3⟩ := (HCELL.out W' hW').1; go_simp) ?_
     refine lex_want (by kernel_rfl) (by kernel_rfl) (.bool true) (fun j W' hW' => by obtain ⟨m0, m1, m7, m8, m9, n0, n1, n2, n3⟩ := (HCELL.out W' hW').1; go_simp) ?_
     refine lex_want (by kernel_rfl) (by kernel_rfl) (.bool true) (fun j W' hW' => by obtain ⟨m0, m1, m7, m8, m9, n0, n1, n2, n3⟩ := (HCELL.out W' hW').1; go_simp) ?_
     refine lex_want (by kernel_rfl) (by kernel_rfl) (.bool true) (fun j W' hW' => by obtain ⟨m0, m1, m7, m8, m9, n0, n1, n2, n3⟩ := (HCELL.out W' hW').1; go_simp) ?_
     refine lex_want (by kernel_rfl) (by kernel_rfl) (.bool true) (fun j W' hW' => by obtain ⟨m0, m1, m7, m8, m9, n0, n1, n2, n3⟩ := (HCELL.out W' hW').1; go_simp) ?_
     refine Stg.lex_nil ?_
     intro W' hW'
     have HF := hide (HCELL.out W' hW').2
     clear hW'
     dsimp only [Act.put]
     simp only [List.setIfInBounds_toArray, List.set_cons_zero, List.set_cons_succ]
     go_wp2_with fail
     go_ret
     exact ⟨rfl, HF.out⟩
  obtain ⟨hlv, hbz, hfx, h1s, hi9, h200⟩ := live_spent HG.out hk2
  have HLV := hide hlv
  have HBZ := hide hbz
  have hfx' : Fix (qM1 id nAB 1) (1 + (pb : Int), (pd : Int), (pc : Int), 1 + (pt : Int), [1, 2]) st := by rw [HCG.out]; exact hfx
  have HFX := hide hfx'
  have hil : i < hd.length + 250 := by omega
  have hil' : (i : Int) < (hd.length : Int) + 250 := by omega
  rw [← HCG.out]
  clear hlv hbz hfx hfx'
  have HG2 : Hid ((k = 1 ∧ s + 1 = st.spent ∧ t = st.to ∧ ∃ r ch, st.l = r ++ [ch] ∧ l = packL (askM st.id ch)) ∨ (k = 0 ∧ s = st.spent)) := by
   unfold Hid
   cases HG.out with
   | sent live busy fix hs hi says => exact .inl ⟨rfl, hs, rfl, says⟩
   | quiet live busy fix hs hi h1 => exact .inr ⟨rfl, hs⟩
   | over => exact absurd rfl hk2
  rcases HG2.out with ⟨rfl, hs1, rfl, hsay⟩ | ⟨rfl, hs1⟩
  ·by_cases hin : i < hd.length
   ·have hinb : decide ((hd.length : Int) ≤ (i : Int)) = false := by simp; omega
    obtain ⟨x, hx⟩ : ∃ x, hd[i]? = some x := ⟨_, List.getElem?_eq_getElem hin⟩
    have hxo := HS.out x (List.mem_of_getElem? hx)
    obtain ⟨a', c', hva, -, hlie⟩ := HV.out
    rw [hlen] at hva
    cases hva
    rcases hlie with he | ⟨bh, off, rfl, hbl, hc⟩
    ·exfalso; have := congrArg List.length he; rw [hlen] at this; simp at this; rw [this] at hin; simp at hin
    have hcc := hc i x.cells (by rw [List.getElem?_map, hx]; rfl)
    have x0 := hcc 0 _ rfl
    have x1 := hcc 1 _ rfl
    have x2 := hcc 2 _ rfl
    have x3 := hcc 3 _ rfl
    rw [Nat.add_zero] at x0
    obtain ⟨xa, xu, xx, xr⟩ := x
    dsimp only at x0 x1 x2 x3
    have HXO := hide hxo
    obtain ⟨r, chs, hstl, hll⟩ := hsay
    obtain ⟨hpk, hun⟩ := sent_un HLV.out hstl
    have h12 := pack_12 (askM st.id chs)
    have h512 := packL_length (askM st.id chs)
    rw [← hpk, ← hll] at h12
    rw [← hll] at hun h512
    have HUN := hide hun
    have hlne : l ≠ [] := fun e => by rw [e] at h12; simp at h12
    obtain ⟨b9, rfl, hby9, hcap9, hlt9⟩ := own_bytes HD.out.own hlne
    have HBY9 := hide hby9
    clear hcc hc hx hxo hun hpk hll hby9 hlne
    have HX3 := hide x3
    have HX0 := hide x0
    have HX1 := hide x1
    have HX2 := hide x2
    clear x0 x1 x2 x3
    go_wp2_with fail
    have hu := tUnpack2 wr b9 c (str l) (by show l.length ≤ _; omega) hcap9 hlt9 HBY9.out
    rw [(unM_of HUN.out).1, (unM_of HUN.out).2] at hu
    refine hu.mono ?_
    clear hu hcx
    rintro e w10 ⟨aq, cq, aa, ca, au, cu, ax, cx, rfl, H10⟩
    rw [show msgCells (askM st.id chs) (.slice aq (askM st.id chs).qs.length cq) (.slice aa (askM st.id chs).an.length ca) (.slice au (askM st.id chs).au.length cu) (.slice ax (askM st.id chs).ex.length cx) = #[.int .u16 st.id, .bool false, .int .i64 0, .bool false, .bool false, .bool false, .bool false, .int .i64 0, .slice aq 1 cq, .slice aa 0 ca, .slice au 0 cu, .slice ax 0 cx] from rfl]
    have hb11 := H10.out.1.trans (((Below.refl w10.heap.size w10).alloc (Nat.le_refl _) (.cells #[.int .u16 st.id, .bool false, .int .i64 0, .bool false, .bool false, .bool false, .bool false, .int .i64 0, .slice aq 1 cq, .slice aa 0 ca, .slice au 0 cu, .slice ax 0 cx] 30)).mono H10.out.1.size)
    have HX11 := hide (HD.out.bx.next hb11)
    have HO11 := hide (own_below HD.out.own hb11)
    have HAP := hide HD.out.apart
    have hcx := box_cells HX11.out.box
    have x3 := cell_of_heap (HX11.out.below.block bh hbl) HX3.out
    clear hb11 H10 HBY9
    go_upto_region 21 with (at_builtin; refine wpList_append_grew_string _ rfl _ _ 32 9 rfl 5 ib und_bytes und_string hib hz0 hz1 hz2 (.slice (some ⟨b9, 0, none⟩) l.length c) l.length _ rfl xr rfl HO11.out (by unfold maxLen; have := HXO.out.rs; dsimp only at this; omega) (by have := HXO.out.rs; dsimp only at this; omega) ?_; intro v12 W12 g12; have HG12 := hide g12; clear g12)
    generalize w10.alloc _ = W11 at HX11 HO11 hcx x3 HG12
    have HX12 := hide (HX11.out.put HG12.out.grown (HAP.out b9 rfl))
    have hxr := HXO.out.rs
    dsimp only at hxr
    obtain ⟨n12, hn12⟩ : ∃ n12, n12 = l.length + xr.size := ⟨_, rfl⟩
    have ho12 := HG12.out.own
    rw [strCells_bytesV, ← bytesV_append, ← hn12] at ho12
    generalize l ++ xr.data.toList = l12 at ho12
    have hloc : ∀ g, v12.ownBlock = some g → (¬ pOwns xb sb vr g ∧ g ≠ X ∧ g ≠ w'.heap.size + 1 ∧ w.heap.size ≤ g) := fun g hg => by
     rcases HG12.out.loc with e | ⟨q, e, hq⟩
     ·exact HAP.out g (by rw [← hg, e])
     ·have hqg : q = g := by rw [hg] at e; exact (Option.some.inj e).symm
      subst hqg
      have h1 := heap_lt HX11.out.box
      have h2 := heap_lt HX11.out.cbox
      have h3 := HX11.out.below.size
      exact ⟨fun e => by have := HX11.out.kb.lt e; omega, by omega, by omega, by omega⟩
    obtain ⟨g, c12, rfl⟩ : ∃ g c12, v12 = .slice (some ⟨g, 0, none⟩) n12 c12 := by
     rcases ho12.2 with ⟨_, h0⟩ | ⟨g, cap, cur, e, _⟩
     ·omega
     ·exact ⟨g, cap, e⟩
    have HGJ := hide (hloc g rfl)
    have hn12a : 12 ≤ n12 := by omega
    have hn12b : n12 ≤ 2097152 := by omega
    clear hn12
    have HO12 := hide ho12
    have hcap12 : n12 ≤ c12 := by
     rcases ho12.2 with ⟨e, h0⟩ | ⟨g', cap, cur, e, _, _, h5, _⟩
     ·cases e
     ·cases e; exact h5
    clear ho12 hloc HG12 HX11 HO11 HAP hcx x3
    obtain ⟨cur1, xx1, hgc1, hcj1⟩ := row_u8 HO12.out (j := 2) (by omega)
    have hfg1 := frozen_of_block hgc1
    have HX13 := hide (HX12.out.put (grownBy_setCell W12 g 2 (.int .u8 132)) HGJ.out)
    have HO13 := hide (own_put HO12.out 2 132)
    rw [show ((132 : UInt8).toNat : Int) = 132 from rfl] at HO13
    have x0 := cell_of_heap (HX13.out.below.block bh hbl) HX0.out
    go_wp2_with fail
    clear hfg1 hcj1 hgc1 HX12 HO12
    generalize W12.setCell ⟨g, 2, none⟩ (.int .u8 132) = W13 at HX13 HO13 x0 ⊢
    refine (kPick_any xa 4 (by decide) (by decide) HXO.out.a0 HXO.out.a1 W13).mono ?_
    rintro e wz ⟨rfl, hwz⟩
    have hwz := hwz.symm
    subst hwz
    have hq13 := pkN_lt (c := xa) (n := 4) (by decide)
    generalize pkN xa 4 = p13 at hq13 ⊢
    have hw13 : IntKind.u8.wrap (p13 : Int) = (p13 : Int) := by rw [IntKind.wrap_u8]; omega
    obtain ⟨cur13, xx13, hgc13, hcj13⟩ := row_u8 HO13.out (j := 7) (by omega)
    have hfg13 := frozen_of_block hgc13
    have HX14 := hide (HX13.out.put (grownBy_setCell W13 g 7 (.int .u8 (p13 : Int))) HGJ.out)
    have HO14 := hide (own_put HO13.out 7 (UInt8.ofNat p13))
    rw [ofNat_toNat (show p13 < 256 by omega)] at HO14
    have x1 := cell_of_heap (HX14.out.below.block bh hbl) HX1.out
    clear x0
    go_wp2_with fail
    clear hfg13 hcj13 hgc13 HX13 HO13 hw13
    generalize W13.setCell ⟨g, 7, none⟩ (.int .u8 (p13 : Int)) = W14 at HX14 HO14 x1 ⊢
    refine (kPick_any xu 4 (by decide) (by decide) HXO.out.u0 HXO.out.u1 W14).mono ?_
    rintro e wz ⟨rfl, hwz⟩
    have hwz := hwz.symm
    subst hwz
    have hq14 := pkN_lt (c := xu) (n := 4) (by decide)
    generalize pkN xu 4 = p14 at hq14 ⊢
    have hw14 : IntKind.u8.wrap (p14 : Int) = (p14 : Int) := by rw [IntKind.wrap_u8]; omega
    obtain ⟨cur14, xx14, hgc14, hcj14⟩ := row_u8 HO14.out (j := 9) (by omega)
    have hfg14 := frozen_of_block hgc14
    have HX15 := hide (HX14.out.put (grownBy_setCell W14 g 9 (.int .u8 (p14 : Int))) HGJ.out)
    have HO15 := hide (own_put HO14.out 9 (UInt8.ofNat p14))
    rw [ofNat_toNat (show p14 < 256 by omega)] at HO15
    have x2 := cell_of_heap (HX15.out.below.block bh hbl) HX2.out
    clear x1
    go_wp2_with fail
    clear hfg14 hcj14 hgc14 HX14 HO14 hw14
    generalize W14.setCell ⟨g, 9, none⟩ (.int .u8 (p14 : Int)) = W15 at HX15 HO15 x2 ⊢
    refine (kPick_any xx 4 (by decide) (by decide) HXO.out.x0 HXO.out.x1 W15).mono ?_
    rintro e wz ⟨rfl, hwz⟩
    have hwz := hwz.symm
    subst hwz
    have hq15 := pkN_lt (c := xx) (n := 4) (by decide)
    generalize pkN xx 4 = p15 at hq15 ⊢
    have hw15 : IntKind.u8.wrap (p15 : Int) = (p15 : Int) := by rw [IntKind.wrap_u8]; omega
    obtain ⟨cur15, xx15, hgc15, hcj15⟩ := row_u8 HO15.out (j := 11) (by omega)
    have hfg15 := frozen_of_block hgc15
    have HX16 := hide (HX15.out.put (grownBy_setCell W15 g 11 (.int .u8 (p15 : Int))) HGJ.out)
    have HO16 := hide (own_put HO15.out 11 (UInt8.ofNat p15))
    rw [ofNat_toNat (show p15 < 256 by omega)] at HO16
    clear x2
    go_wp2_with fail
    clear hfg15 hcj15 hgc15 HX15 HO15 hw15
    generalize W15.setCell ⟨g, 11, none⟩ (.int .u8 (p15 : Int)) = W16 at HX16 HO16 ⊢
    generalize hl16 : ((((l12.set 2 132).set 7 _).set 9 _).set 11 _) = l16 at HO16
    have hl16n : l16.length = n12 := by
     have h9 := HO16.out.1
     rw [bytesV_length, Nat.mul_one] at h9
     exact h9
    have ho16 := HO16.out
    rw [← hl16n] at ho16
    obtain ⟨g', eg, hby16, _, hlt16⟩ := own_bytes ho16 (fun e => by rw [e] at hl16n; simp at hl16n; omega)
    cases eg
    have hsz16 : (str l16).size = n12 := hl16n
    have hpr := pHeard_any W16 xb sb g c12 vr st st.to (str l16) HX16.out.kb.at_ (by rw [hsz16]; omega) (by rw [hsz16]; exact hcap12) hlt16 hby16 (fun e => HGJ.out.1 (.inl e))
    rw [hsz16] at hpr
    have HRES : Hid ((heardS st st.to (str l16)).2.2 = 0 ∧ ∀ k t l', (heardS st st.to (str l16)).2.1 = stepV k t (str l') → Goes (qM1 id nAB 1) (1 + (pb : Int), (pd : Int), (pc : Int), 1 + (pt : Int), [1, 2]) hd.length (heardS st st.to (str l16)).1 (i + 1) st.spent k t l') := by
     rcases comes_heard ⟨HLV.out.ok, fun _ => HLV.out⟩ HBZ.out st.to (str l16) with e | e
     ·refine ⟨by rw [e], fun k t l' hv => ?_⟩
      rw [e] at hv ⊢
      obtain ⟨rfl, rfl, e3⟩ := stepV_inj hv
      have e4 : l' = [] := str_inj (l := l') (l' := []) e3.symm
      subst e4
      exact .quiet HLV.out HBZ.out HFX.out rfl (by omega) h1s
     ·exact ⟨e.2, fun k t l' hv => goes_comes e.1 HLV.out HFX.out h1s hi9 hv⟩
    unfold Speaks at hpr
    rw [HRES.out.1] at hpr
    refine hpr.mono ?_
    clear hpr hby16 ho16
    rintro e w17 ⟨k17, t17, a17, l17, c17, rfl, H17⟩
    have HG17 := hide (HRES.out.2 k17 t17 l17 H17.out.1)
    obtain ⟨vr17, sp17⟩ := H17.out.2
    have T := HX16.out.turn (k' := k17) (t' := t17) hXC sp17
    have HT1 := hide T.1
    have HT2 := hide T.2
    clear T sp17 H17 HRES
    generalize (heardS st st.to (str l16)).1 = st17 at HG17 HT2
    have hcz := box_cells HT1.out
    have hfz := frozen_of_block HT1.out
    unfold stepX
    unfold put3 at HT2
    go_wp2_with fail
    exact ⟨⟨i + 1, st.spent, st17, vr17, k17, t17, a17, l17, c17, rfl, congrArg _ (by omega), congrArg _ (by omega), by omega, HT2.out, HG17.out⟩, by simp [intOf]; omega⟩
   ·have hin' : ¬ (i : Int) < (hd.length : Int) := by omega
    have hinb : decide ((hd.length : Int) ≤ (i : Int)) = true := by simp; omega
    have HCL := hide (comes_late ⟨HLV.out.ok, fun _ => HLV.out⟩ HBZ.out)
    have hp := pLate_any wr xb sb vr st HD.out.bx.kb.at_
    unfold Speaks at hp
    rw [HCL.out.2] at hp
    go_wp2_with fail
    refine hp.mono ?_
    clear hp hcx
    rintro e w9 ⟨k9, t9, a9, l9, c9, rfl, H9⟩
    have HG9 := hide (goes_comes HCL.out.1 HLV.out HFX.out h1s hi9 H9.out.1)
    obtain ⟨vr9, sp9⟩ := H9.out.2
    have T := HD.out.bx.turn (k' := k9) (t' := t9) hXC sp9
    have HT1 := hide T.1
    have HT2 := hide T.2
    clear T sp9 H9
    generalize (lateS st).1 = st9 at HG9 HT2
    have hcz := box_cells HT1.out
    have hfz := frozen_of_block HT1.out
    unfold stepX
    unfold put3 at HT2
    go_wp2_with fail
    exact ⟨⟨i + 1, st.spent, st9, vr9, k9, t9, a9, l9, c9, rfl, congrArg _ (by omega), congrArg _ (by omega), by omega, HT2.out, HG9.out⟩, by simp [intOf]; omega⟩
  ·by_cases hin : i < hd.length
   ·have hinb : decide ((hd.length : Int) ≤ (i : Int)) = false := by simp; omega
    have HCL := hide (comes_late ⟨HLV.out.ok, fun _ => HLV.out⟩ HBZ.out)
    have hp := pLate_any wr xb sb vr st HD.out.bx.kb.at_
    unfold Speaks at hp
    rw [HCL.out.2] at hp
    go_wp2_with fail
    refine hp.mono ?_
    clear hp hcx
    rintro e w9 ⟨k9, t9, a9, l9, c9, rfl, H9⟩
    have HG9 := hide (goes_comes HCL.out.1 HLV.out HFX.out h1s hi9 H9.out.1)
    obtain ⟨vr9, sp9⟩ := H9.out.2
    have T := HD.out.bx.turn (k' := k9) (t' := t9) hXC sp9
    have HT1 := hide T.1
    have HT2 := hide T.2
    clear T sp9 H9
    generalize (lateS st).1 = st9 at HG9 HT2
    have hcz := box_cells HT1.out
    have hfz := frozen_of_block HT1.out
    unfold stepX
    unfold put3 at HT2
    go_wp2_with fail
    exact ⟨⟨i + 1, st.spent, st9, vr9, k9, t9, a9, l9, c9, rfl, congrArg _ (by omega), congrArg _ (by omega), by omega, HT2.out, HG9.out⟩, by simp [intOf]; omega⟩
   ·have hinb : decide ((hd.length : Int) ≤ (i : Int)) = true := by simp; omega
    have HCL := hide (comes_late ⟨HLV.out.ok, fun _ => HLV.out⟩ HBZ.out)
    have hp := pLate_any wr xb sb vr st HD.out.bx.kb.at_
    unfold Speaks at hp
    rw [HCL.out.2] at hp
    go_wp2_with fail
    refine hp.mono ?_
    clear hp hcx
    rintro e w9 ⟨k9, t9, a9, l9, c9, rfl, H9⟩
    have HG9 := hide (goes_comes HCL.out.1 HLV.out HFX.out h1s hi9 H9.out.1)
    obtain ⟨vr9, sp9⟩ := H9.out.2
    have T := HD.out.bx.turn (k' := k9) (t' := t9) hXC sp9
    have HT1 := hide T.1
    have HT2 := hide T.2
    clear T sp9 H9
    generalize (lateS st).1 = st9 at HG9 HT2
    have hcz := box_cells HT1.out
    have hfz := frozen_of_block HT1.out
    unfold stepX
    unfold put3 at HT2
    go_wp2_with fail
    exact ⟨⟨i + 1, st.spent, st9, vr9, k9, t9, a9, l9, c9, rfl, congrArg _ (by omega), congrArg _ (by omega), by omega, HT2.out, HG9.out⟩, by simp [intOf]; omega⟩
end Go.Proofs.YtafoepfhepdcoaaGreat
