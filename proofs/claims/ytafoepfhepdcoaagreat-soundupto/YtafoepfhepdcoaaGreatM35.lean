import Derived.Test.YtafoepfhepdcoaaGreatM34
import Derived.Laws.Tables
import Derived.Laws.IdiomStrings
import Derived.Laws.CopyOwn
import Derived.Deep.CutRange
import Derived.Deep.RegionWith
set_option maxRecDepth 100000
set_option maxHeartbeats 8000000
namespace Go.Proofs.YtafoepfhepdcoaaGreat
open Go.RowKit Go.Trawl
attribute [local go_sem] buildKC5 buildKQ equalR guardR Stg.upon
theorem build_run {P : Program} (w : World) {o : Oper} {a : Act} (t : TypeId) (i j : Nat) (x y : Operand) (ho : o.op = .build t #[(i, x), (j, y)]) (vx vy : Value) (hx : a.eval x = vx) (hy : a.eval y = vy) (cells : Array Value) (hb : P.built t [(i, vx), (j, vy)] = some cells) : (execOp a.eval o).run P w = .ok (.value (.agg cells)) w := by
 have hr := run_build (P := P) w t #[(i, vx), (j, vy)] cells hb
 unfold execOp
 simp only [ho, List.map_toArray, List.map_cons, List.map_nil, hx, hy, Sem.run_bind, hr, Result.andThen_ok, Sem.run_pure]
theorem trA_size {t : Tr} (h : TrOk t) (v : Value) : (trA t v).size = 49 := by
 unfold trA
 rw [List.size_toArray, tr_len h]
theorem tr_made {w w2 W : World} {X : Nat} {t : Tr} {v : Value} {old : Array Value} (hb : Below w.heap.size w w2) (hv : NmAt w2 v) (hX : W.heap[X]? = some (.cells old 49)) (hbW : Below w2.heap.size w2 W) (hlo : w.heap.size ≤ X) (hg : ∀ g n c, v = .slice (some ⟨g, 0, none⟩) n c → g ≠ X) : Hid (Below w.heap.size w (W.setRow X (trA t v)) ∧ TrAt (W.setRow X (trA t v)) X t v) := by
 have hb2 := hb.trans (hbW.mono hb.size)
 refine ⟨below_setRow hb2 hlo _, setRow_heap W X old _ _ _ hX, ?_⟩
 obtain ⟨g, c, e, hgl, hgc⟩ := (hv.below hbW).is
 refine ⟨g, c, e, by rw [size_setRow]; exact hgl, fun i hi => ?_⟩
 exact cell_of_heap (setRow_other W X g _ (hg g _ _ e)) (hgc i hi)
theorem iMsg : (Tryz.prog.info? 30).map (·.size) = some 12 := by kernel_rfl
theorem box_all {w : World} {X : Nat} {cs : Array Value} {t : TypeId} (h : w.heap[X]? = some (.cells cs t)) : ∀ j u, cs.toList[j]? = some u → w.cell? ((⟨X, 0, none⟩ : Addr).add j) = some u := by
 intro j u hj
 have e1 : (⟨X, 0, none⟩ : Addr).add j = ⟨X, j, none⟩ := by
  unfold Addr.add
  by_cases h : j = 0
  ·rw [h]; rfl
  ·rw [if_neg h]; simp
 rw [e1, box_cells h j]
 simpa using hj
theorem By.set {w : World} {xb sb : Nat} {vr : PV} {b cap M : Nat} {s : ByteArray} (h : By w xb sb vr b cap s) (hne : M ≠ b) (j : Nat) (u : Value) : By (w.setCell ⟨M, j, none⟩ u) xb sb vr b cap s := by
 have hG := grownBy_setCell w M j u
 exact ⟨fun i hi => cell_of_heap (hG.block b h.lt (fun e => hne (Option.some.inj e).symm)) (h.bytes i hi), h.cap, Nat.lt_of_lt_of_le h.lt hG.size, h.no⟩
theorem bel_set {B M : Nat} {w W : World} (hb : Below B w W) (hM : B ≤ M) (hB : B ≤ W.heap.size) (j : Nat) (u : Value) : Below B w (W.setCell ⟨M, j, none⟩ u) := hb.trans (kb_put (grownBy_setCell W M j u) hM hB)
theorem pk_all {p : World → Prop} {A B D : World} (h1 : p A) (h2 : p B) (h3 : p D) : ∀ j w', w' = pkW A B D D 1 2 3 j → p w' := by
 rintro j w' rfl
 unfold pkW
 split
 ·exact h1
 ·split
  ·exact h2
  ·split <;> exact h3
theorem noise_any {W0 wr : World} {xb sb X : Nat} {vr : PV} {st : RSt} {kk tt : Int} {v : Value} {l : List UInt8} (h : SB W0 wr xb sb X vr st kk tt v l) {b cap : Nat} {s : ByteArray} (hb : By wr xb sb vr b cap s) (hz : s.size ≤ 2097152) {fr : Int} (hn : heardS st fr s = (st, stepV 0 0 ⟨#[]⟩, 0)) :
  Calls Tryz.prog 23 #[.pointer (some ⟨xb, 0, none⟩), .int .u32 fr, .slice (some ⟨b, 0, none⟩) s.size cap] wr fun e w' => ∃ a c, e = .returned (.tuple #[.agg #[.int .i64 0, .int .u32 0, .slice a 0 c], .int .i64 0]) ∧ Hid (∃ vr', SB W0 w' xb sb X vr' st kk tt v l ∧ KA wr w' xb sb vr vr') := by
 have hp := pHeard_any wr xb sb b cap vr st fr s h.kb.at_ hz hb.cap hb.lt hb.bytes (fun e => hb.no (by rw [e]; exact .inl rfl))
 unfold Speaks at hp
 rw [hn] at hp
 refine hp.mono ?_
 rintro e w' ⟨k, t, a, l', c, rfl, H⟩
 obtain ⟨e1, e2, e3⟩ := stepV_inj H.out.1
 obtain ⟨vr', sp⟩ := H.out.2
 have e4 : [] = l' := str_inj e3
 subst e4 e1 e2
 exact ⟨a, c, rfl, vr', h.quiet sp, ka_spoke h sp⟩
theorem odd_by {W0 w : World} {xb sb X : Nat} {vr : PV} {st : RSt} {kk tt : Int} {v : Value} {l : List UInt8} (h : SB W0 w xb sb X vr st kk tt v l) (s : ByteArray) : ∃ W' cap, (convert 9 32 (.string s)).run Tryz.prog w = .ok (.slice (some ⟨w.heap.size, 0, none⟩) s.size cap) W' ∧ Below w.heap.size w W' ∧ By W' xb sb vr w.heap.size cap s := by
 refine ⟨_, _, run_bytes_of_string w _ _ 5 s (by kernel_rfl) (by kernel_rfl) (by kernel_rfl), (below_drewN (Below.refl _ _) 1).alloc (Nat.le_refl _) _, fun i hi => ?_, grownCap_ge _ _ _ _, ?_, h.fresh (Nat.le_refl _)⟩
 ·generalize hC : (Obj.cells (bytesRow s (grownCap w s.size 0 5)) 5 ((bytesRow s (grownCap w s.size 0 5)).size, (bytesRow s (grownCap w s.size 0 5)).size + 1)) = C
  have hb : (w.drew.alloc C).heap[w.heap.size]? = some C := heap_new w.drew C
  unfold World.cell?
  dsimp only
  rw [hb, ← hC]
  dsimp only
  unfold bytesRow
  have hi' : i < s.data.size := hi
  rw [Array.getElem?_append_left (by simpa using hi'), Array.getElem?_map, Array.getElem?_eq_getElem hi']
  unfold at8
  rw [Array.getD_eq_getD_getElem?, Array.getElem?_eq_getElem hi']
  rfl
 ·rw [alloc_size]; exact Nat.lt_succ_self _
theorem ns_at {w : World} {aN : Option Addr} {cN i : Nat} {ns : List Int} (h : Lies w 1 (.slice aN ns.length cN) (ns.map fun x => [.int .i64 x])) (hr : ∀ x ∈ ns, -9223372036854775808 ≤ x ∧ x ≤ 9223372036854775807) (hi : i < ns.length) : ∃ bN oN nsi, aN = some ⟨bN, oN, none⟩ ∧ (-9223372036854775808 ≤ nsi ∧ nsi ≤ 9223372036854775807) ∧ w.cell? ⟨bN, oN + i, none⟩ = some (.int .i64 nsi) := by
 obtain ⟨a, c, e, _, hc⟩ := h
 have e1 : aN = a := by injection e
 subst e1
 rcases hc with hc | ⟨b, off, rfl, _, hc⟩
 ·rw [List.map_eq_nil_iff] at hc
  subst hc
  simp at hi
 ·refine ⟨b, off, ns[i], rfl, hr _ (List.getElem_mem _), ?_⟩
  have := hc i [.int .i64 ns[i]] (by rw [List.getElem?_map, List.getElem?_eq_getElem hi]; rfl) 0 (.int .i64 ns[i]) rfl
  rw [Nat.mul_one, Nat.add_zero] at this
  exact this
theorem rec_at {w : World} {a : Option Addr} {c n j : Nat} {l : List Rc} {r : Rc} (h : Lies w 5 (.slice a n c) (l.map Rc.cells)) (hr : l[j]? = some r) : ∃ b o, a = some ⟨b, o, none⟩ ∧ w.cell? ⟨b, o + j * 5, none⟩ = some (.string r.name) ∧ w.cell? ⟨b, o + j * 5 + 1, none⟩ = some (.int .u16 r.kind) ∧ w.cell? ⟨b, o + j * 5 + 2, none⟩ = some (.int .u16 r.cls) ∧ w.cell? ⟨b, o + j * 5 + 3, none⟩ = some (.int .u32 r.ttl) ∧ w.cell? ⟨b, o + j * 5 + 4, none⟩ = some (.string r.data) := by
 obtain ⟨a', c', e, _, hc⟩ := h
 have e1 : a = a' := by cases e; rfl
 subst e1
 rcases hc with hc | ⟨b, off, rfl, _, hc⟩
 ·rw [List.map_eq_nil_iff] at hc
  subst hc
  simp at hr
 ·exact ⟨b, off, rfl, Lies.rat hc hr⟩
theorem first_snds {t : Tr} {st0 : RSt} (h : StOk st0) (hc : conf st0 = (200, 6, 10, 8, [hostA 0])) {x0 : Nat} (hx : x0 < 24) {k : Int} (k0 : 0 ≤ k) (k1 : k ≤ 65535) {k' t' : Int} {l : List UInt8} (hv : askStep (beginSt st0 (qM1 9 (nn x0) k) ⟨nn x0, k, 1⟩) (freshCh st0 (nn x0) k) = stepV k' t' (str l)) :
  Snds t k x0 0 (askSt (beginSt st0 (qM1 9 (nn x0) k) ⟨nn x0, k, 1⟩) [] (freshCh st0 (nn x0) k)) k' t' l := by
 have hcm := ask_comes h (n := nn x0) (k := k) (id := 9) (nn_name (by omega)) k0 k1 (by decide) (by decide)
 have hs := sent_of hcm rfl rfl
 have hro : st0.roots = [hostA 0] := by
  unfold Go.Proofs.YtafoepfhepdcoaaGreat.conf at hc
  simp only [Prod.mk.injEq] at hc
  exact hc.2.2.2.2
 refine snds_of hs ?_ hv
 refine ⟨hs.live, hs.busy, hs.conf.trans hc, hs.asked, hs.spent, (fun r hr => by cases hr), x0, 0, 0, 1, 12, [], hx, ?_, ?_, by omega, by omega, rfl, by simp, by simp, rfl, rfl, by omega⟩
 ·have := Phs.main (t := t) (k := k) (x := x0) (z := 0) (c := { freshCh st0 (nn x0) k with sent := 1 }) ⟨rfl, rfl, rfl, by omega, by omega, by unfold zoneB; simp, lies_root (by omega)⟩ (by rw [host_zero]; exact hro)
  rw [host_zero, dep_zero] at this
  exact this
 ·show toOf _ = _
  rw [to_one (c := freshCh st0 (nn x0) k) hro]
theorem sound_any (w : World) (t : Tr) (at_ kd : Int) (bl : Bool) (ns : List Int) (vN : Value) (odd : ByteArray) (ht : TrOk t) (a0 : -9223372036854775808 ≤ at_) (a1 : at_ ≤ 9223372036854775807) (d0 : -9223372036854775808 ≤ kd) (d1 : kd ≤ 9223372036854775807)
  (hN : Lies w 1 vN (ns.map fun x => [.int .i64 x])) (hnr : ∀ x ∈ ns, -9223372036854775808 ≤ x ∧ x ≤ 9223372036854775807) (_hnl : ns.length ≤ 1048576) (ho : odd.size ≤ 1048576) :
  Calls Tryz.prog 9 #[.agg (t48 t), .int .i64 at_, .bool bl, .int .i64 kd, vN, .string odd] w fun e w' => e = .returned (.bool true) ∧ Below w.heap.size w w' := by
 have HT := hide ht
 have HN := hide hN
 have HNR := hide hnr
 obtain ⟨aN, cN, rfl, -, -⟩ := (show Lies w 1 vN (ns.map fun x => [.int .i64 x]) from hN)
 rw [List.length_map] at HN ⊢
 clear ht hN hnr
 have HB0 := hide ((Below.refl w.heap.size w).alloc (Nat.le_refl _) (.cells (t48 t) 45))
 have HX0 := hide (heap_new w (.cells (t48 t) 45))
 go_enter Tryz.func9, Tryz.ntmps9
 go_wp2_with fail
 refine (known_any _).mono ?_
 rintro e w1 ⟨rfl, H1⟩
 have HB1 := hide (HB0.out.trans (H1.out.mono HB0.out.size))
 have HX1 := hide ((H1.out.block _ (heap_lt HX0.out)).trans HX0.out)
 clear H1 HB0 HX0
 go_upto_region 2 with fail
 go_cut [14] from 49 to 52 (fun v14 wx => ∃ X v, v14 = .pointer (some ⟨X, 0, none⟩) ∧ Hid (Below w.heap.size w wx ∧ TrAt wx X t v))
 case first =>
  have HD := hide (below_drewN (Below.refl w1.heap.size w1) 1)
  have HX2 := hide ((HD.out.block _ (heap_lt HX1.out)).trans HX1.out)
  refine wp_region_held_drew (S := fun w' => w'.heap[w.heap.size]? = some (.cells (t48 t) 45)) (by kernel_rfl) HX2.out (fun hHeld => ?_)
  refine wpAnyH_take (i := 0) (v := .agg (t48 t)) rfl (by kernel_rfl) (by kernel_rfl) (by kernel_rfl) (fun _ _ _ h => h) (Or.inl ⟨by rfl, fun w' hS => load_run w' 45 _ rfl ⟨w.heap.size, 0, none⟩ rfl (t48 t) _ und45 rfl (i45' HT.out) (t48_all hS)⟩) hHeld ?_
  refine wpAnyH_ready (rs := [1, 3]) (by kernel_rfl) (by simp) ?_
  refine AllReadyH.cons rfl (fun K hK => ?_) (AllReadyH.cons rfl (fun K hK => ?_) AllReadyH.nil)
  ·go_simp
   refine (kNames_any _).mono ?_
   rintro e w2 ⟨v2, rfl, H2⟩
   dsimp only
   obtain ⟨g, c, rfl, -, -⟩ := H2.out.2.is
   have hX3 := (H2.out.1.block _ (heap_lt HX2.out)).trans HX2.out
   refine hK.out _ _ hX3 (fun hH => ?_)
   refine wpAnyH_take (i := 2) (v := .agg (trA t (.slice (some ⟨g, 0, none⟩) 12 c))) rfl (by kernel_rfl) (by kernel_rfl) (by kernel_rfl) (fun _ _ _ h => h) (Or.inl ⟨by rfl, fun w' _ => build_run w' 49 0 1 (.tmp 50) (.tmp 51) rfl (.agg (t48 t)) (.slice (some ⟨g, 0, none⟩) 12 c) rfl rfl _ (builtTr HT.out (some ⟨g, 0, none⟩) 12 c)⟩) hH ?_
   refine wpAnyH_ready (rs := [3]) (by kernel_rfl) (by simp) ?_
   refine AllReadyH.cons rfl (fun K hK => ?_) AllReadyH.nil
   clear hHeld hH
   go_simp
   refine hK.out _ _ (heap_old hX3 _) (fun hH => ?_)
   refine wpAnyH_ready (rs := [4]) (by kernel_rfl) (by simp) ?_
   refine AllReadyH.cons rfl (fun K hK => ?_) AllReadyH.nil
   rw [if_pos (by rfl)]
   refine wp_store_row 49 _ _ rfl w2.heap.size (trA t (.slice (some ⟨g, 0, none⟩) 12 c)) rfl rfl 49 _ (heap_new w2 _) (trI' HT.out _) (by rw [trA_size HT.out]; rfl) (trA_one _ _ _ _) ?_
   refine hK.out _ _ ((setRow_other _ _ _ _ (by have := heap_lt hX3; omega)).trans hH) (fun _ => ?_)
   refine wpAnyH_done (by kernel_rfl) ?_ _
   go_wp2_with fail
   go_meet
   case rel =>
    have hb2 := HB1.out.trans (((HD.out.trans (H2.out.1.mono HD.out.size))).mono HB1.out.size)
    exact ⟨_, _, rfl, tr_made hb2 H2.out.2 (heap_new w2 _) ((Below.refl _ _).alloc (Nat.le_refl _) _) hb2.size (fun g' n' c' e => by cases e; obtain ⟨g2, c2, e2, hl2, -⟩ := H2.out.2.is; cases e2; omega)⟩
  ·go_simp
   generalize hZ : (Obj.cells (List.toArray _) 49) = Z
   have hX3 : (w1.alloc Z).drew.heap[w.heap.size]? = _ := heap_old HX1.out Z
   have hZ3 : (w1.alloc Z).drew.heap[w1.heap.size]? = some Z := heap_new w1 Z
   have hb3 : Below w1.heap.size w1 (w1.alloc Z).drew := below_drewN ((Below.refl _ _).alloc (Nat.le_refl _) _) 1
   have hs3 : (w1.alloc Z).drew.heap.size = w1.heap.size + 1 := alloc_size w1 Z
   generalize (w1.alloc Z).drew = W3 at hX3 hZ3 hb3 hs3 ⊢
   refine hK.out _ _ hX3 (fun hH => ?_)
   refine wpAnyH_ready (rs := [1]) (by kernel_rfl) (by simp) ?_
   refine AllReadyH.cons rfl (fun K hK => ?_) AllReadyH.nil
   clear hHeld hH
   go_simp
   refine (kNames_any _).mono ?_
   rintro e w2 ⟨v2, rfl, H2⟩
   dsimp only
   obtain ⟨g, c, rfl, -, -⟩ := H2.out.2.is
   have hX4 := (H2.out.1.block _ (heap_lt hX3)).trans hX3
   have hZ4 : w2.heap[w1.heap.size]? = some Z := (H2.out.1.block _ (by omega)).trans hZ3
   refine hK.out _ _ hX4 (fun hH => ?_)
   refine wpAnyH_take (i := 2) (v := .agg (trA t (.slice (some ⟨g, 0, none⟩) 12 c))) rfl (by kernel_rfl) (by kernel_rfl) (by kernel_rfl) (fun _ _ _ h => h) (Or.inl ⟨by rfl, fun w' _ => build_run w' 49 0 1 (.tmp 50) (.tmp 51) rfl (.agg (t48 t)) (.slice (some ⟨g, 0, none⟩) 12 c) rfl rfl _ (builtTr HT.out (some ⟨g, 0, none⟩) 12 c)⟩) hH ?_
   refine wpAnyH_ready (rs := [4]) (by kernel_rfl) (by simp) ?_
   refine AllReadyH.cons rfl (fun K hK => ?_) AllReadyH.nil
   rw [if_pos (by rfl)]
   rw [← hZ] at hZ4
   refine wp_store_row 49 _ _ rfl w1.heap.size (trA t (.slice (some ⟨g, 0, none⟩) 12 c)) rfl rfl 49 _ hZ4 (trI' HT.out _) (by rw [trA_size HT.out]; rfl) (trA_one _ _ _ _) ?_
   refine hK.out _ _ ((setRow_other _ _ _ _ (by have := heap_lt HX1.out; omega)).trans hH) (fun _ => ?_)
   refine wpAnyH_done (by kernel_rfl) ?_ _
   go_wp2_with fail
   go_meet
   case rel =>
    have hb2 := HB1.out.trans ((hb3.trans (H2.out.1.mono hb3.size)).mono HB1.out.size)
    exact ⟨_, _, rfl, tr_made hb2 H2.out.2 hZ4 (Below.refl _ _) HB1.out.size (fun g' n' c' e => by
     cases e
     intro hgX
     obtain ⟨g2, c2, e2, -, hgc⟩ := H2.out.2.is
     cases e2
     have h0 := hgc 0 (by omega)
     rw [hgX, box_cells hZ4 0] at h0
     cases h0)⟩
 case rest =>
  obtain ⟨X, v, rfl, H2⟩ := hcut
  have HB2 := hide H2.out.1
  have HTR := hide H2.out.2
  clear H2 HB1 HX1
  obtain ⟨g, c0, rfl, -, -⟩ := HTR.out.names.is
  have hn48 : wc.cell? ⟨X, 48, none⟩ = some (.slice (some ⟨g, 0, none⟩) 12 c0) := (box_cells HTR.out.box 48).trans (tr_names HT.out _)
  have hp12 := pkN_lt (c := at_) (n := 12) (by decide)
  have HPK := hide (fun W => kPick_any at_ 12 (by decide) (by decide) a0 a1 W)
  generalize pkN at_ 12 = pp at HPK hp12
  have hgp : wc.cell? ⟨g, pp, none⟩ = some (.string (nm pp)) := by
   obtain ⟨g', c', e', _, hgc⟩ := HTR.out.names.is
   cases e'
   exact hgc _ hp12
  go_upto_region 3 with fail
  go_quiet ((go_at_call 18; exact Calls.quiet_of_same (HPK.out _)))
  have HB3 := hide (below_drewN HB2.out nq)
  have HT3 := hide (HTR.out.below (below_drewN (Below.refl _ _) nq))
  clear hn48 hgp HPK HB2 HTR
  generalize wc.drewN nq = W3 at HB3 HT3 ⊢
  obtain ⟨x0, hx0⟩ : ∃ x0, x0 = if bl = true then 12 + pp else pp := ⟨_, rfl⟩
  have HX0 := hide hx0
  have hx24 : x0 < 24 := by rw [hx0]; split <;> omega
  clear hx0
  have l2 := nm_size pp
  have hs2 : (⟨#[1, 122]⟩ : ByteArray).size = 2 := rfl
  go_upto_if 59 with fail
  go_cut [15] from 49 to 61 (fun v15 wx => v15 = .string (nn x0) ∧ wx = W3)
  case first =>
   cases bl
   ·have HE : Hid (nn x0 = nm pp) := by unfold Hid; rw [HX0.out, if_neg (by decide), nn_nm hp12]
    go_wp2_with fail
    go_meet
    case rel => exact ⟨by rw [HE.out], rfl⟩
   ·have HE : Hid (nn x0 = str ([1, 122] ++ nmL.getD pp [])) := by unfold Hid; rw [HX0.out, if_pos rfl, nn_below hp12]
    have hcat : (⟨#[1, 122]⟩ : ByteArray) ++ nm pp = nn x0 := (str_append [1, 122] (nmL.getD pp [])).trans HE.out.symm
    go_wp2_with fail
    go_meet
    case rel => exact ⟨rfl, rfl⟩
  case rest =>
   obtain ⟨rfl, rfl⟩ := hcut
   have hq3 := pkN_lt (c := kd) (n := 3) (by decide)
   have HPK := hide (fun W => kPick_any kd 3 (by decide) (by decide) d0 d1 W)
   generalize pkN kd 3 = pq at HPK hq3
   have HB4 := hide (HB3.out.trans (((Below.refl wc.heap.size wc).alloc (Nat.le_refl _) (.cells #[.int .u16 1, .int .u16 5, .int .u16 16] 51)).mono HB3.out.size))
   have HT4 := hide (HT3.out.below ((Below.refl wc.heap.size wc).alloc (Nat.le_refl _) (.cells #[.int .u16 1, .int .u16 5, .int .u16 16] 51)))
   have HK4 := hide (heap_new wc (.cells #[.int .u16 1, .int .u16 5, .int .u16 16] 51))
   go_upto_region 7 with fail
   generalize World.alloc wc _ = W4 at HB4 HT4 HK4 ⊢
   generalize wc.heap.size = Y at HK4 ⊢
   clear HB3 HT3
   obtain ⟨k, hk⟩ : ∃ k : Int, k = if pq = 0 then 1 else if pq = 1 then 5 else 16 := ⟨_, rfl⟩
   have HKV : Hid (k = 1 ∨ k = 5 ∨ k = 16) := by unfold Hid; rw [hk]; split; exact .inl rfl; split; exact .inr (.inl rfl); exact .inr (.inr rfl)
   have hck : W4.cell? ⟨Y, pq, none⟩ = some (.int .u16 k) := by
    rw [box_cells HK4.out pq, hk]
    rcases (show pq = 0 ∨ pq = 1 ∨ pq = 2 by omega) with rfl | rfl | rfl <;> rfl
   clear hk HK4
   go_upto_region 8 with fail
   refine (HPK.out _).mono ?_
   rintro e w5 ⟨rfl, hw⟩
   have hw := hw.symm
   subst hw
   have hq3' : (pq : Int) < 3 := by omega
   go_upto_region 8 with fail
   clear hck HPK
   have hk0 : 0 ≤ k := by have := HKV.out; omega
   have hk1 : k ≤ 65535 := by have := HKV.out; omega
   have hcf : confOk 200 6 10 8 [hostA 0] := ⟨⟨by decide, by decide⟩, ⟨by decide, by decide⟩, ⟨by decide, by decide⟩, ⟨by decide, by decide⟩, by decide, by decide⟩
   have HL6 : Hid (Lies (W4.alloc (.cells #[.int .u32 167772160] 54)) 1 (.slice (some ⟨W4.heap.size, 0, none⟩) 1 1) (wordsV [hostA 0])) := lies_row (heap_new W4 _) rfl (fun x hx => by simp [wordsV] at hx; subst hx; rfl) rfl
   have hb6 := (Below.refl W4.heap.size W4).alloc (Nat.le_refl _) (.cells #[.int .u32 167772160] 54)
   have HB6 := hide (HB4.out.trans (hb6.mono HB4.out.size))
   have HT6 := hide (HT4.out.below hb6)
   clear hb6 HB4 HT4
   go_wp2_with fail
   have hr := kResolver_any (W4.alloc (.cells #[.int .u32 167772160] 54)) 200 6 10 8 [hostA 0] _ hcf HL6.out
   unfold confV at hr
   refine hr.mono ?_
   clear hr HL6
   generalize W4.alloc _ = W6 at HB6 HT6 ⊢
   rintro e w7 ⟨xb, rfl, H7⟩
   obtain ⟨sb, vr7, K7, hb7⟩ := H7.out
   have HO7 := hide hb7
   have HK7 := hide K7
   have hxb : xb < w7.heap.size := K7.lt (.inl rfl)
   have hxlo : W6.heap.size ≤ xb := K7.lo xb (.inl rfl)
   clear H7 hb7 K7
   generalize hst0 : newSt 200 6 10 8 [hostA 0] = st0 at HK7
   have HOK0 : Hid (StOk st0) := by rw [← hst0]; exact newSt_ok hcf
   have HBZ0 : Hid (st0.busy = false) := by rw [← hst0]; rfl
   have HCONF : Hid (conf st0 = (200, 6, 10, 8, [hostA 0])) := by rw [← hst0]; rfl
   clear hst0 hcf
   have hnz := nn_size (show x0 < 36 by omega)
   have hnn := nn_name (show x0 < 36 by omega)
   have HNN := hide hnn
   clear hnn
   go_wp2_with fail
   have ha := kAsks_any w7 9 k (nn x0) HNN.out (by decide) (by decide) hk0 hk1
   have hfew := few (qM1 9 (nn x0) k) (one_un (n := nn x0) (k := k) HNN.out rfl rfl rfl rfl rfl hk0 hk1 (by show (0 : Int) ≤ 9; decide) (by show (9 : Int) ≤ 65535; decide)).1
   have hgo := ask_go HOK0.out HBZ0.out (n := nn x0) (k := k) (id := 9) HNN.out hk0 hk1 (by decide) (by decide)
   generalize packL (qM1 9 (nn x0) k) = lQ at ha hfew hgo
   have HGO := hide hgo
   have HFEW := hide hfew
   have hlq := hfew.2
   clear hgo hfew
   refine ha.mono ?_
   clear ha
   rintro e w8 ⟨a8, c8, rfl, H8⟩
   have HO8 := hide (HO7.out.trans (H8.out.1.mono HO7.out.size))
   have HK8 := hide (HK7.out.below H8.out.1)
   obtain ⟨b8, rfl, hby8, hcap8, hlt8⟩ := own_bytes (own_zero H8.out.2) HFEW.out.1
   have hb8 : w7.heap.size ≤ b8 := (H8.out.2.lt b8 rfl).1
   have HBY8 := hide hby8
   clear H8 HO7 HK7 hby8
   go_wp2_with fail
   have hpa := pAsk_any w8 xb sb b8 c8 vr7 st0 (str lQ) HK8.out.at_ HOK0.out (by show lQ.length ≤ _; omega) hcap8 hlt8 HBY8.out (by omega)
   rw [HGO.out] at hpa
   refine hpa.mono ?_
   clear hpa
   rintro e w9 ⟨k9, t9, a9, l9, c9, rfl, H9⟩
   have HG9 := hide (first_snds (t := t) HOK0.out HCONF.out hx24 hk0 hk1 H9.out.1)
   obtain ⟨vr9, sp9⟩ := H9.out.2
   dsimp only at sp9
   have S9 := hide (HK8.out.spoke sp9)
   have HO9 := hide (HO8.out.trans S9.out.below)
   have hz8 := HO8.out.size
   clear H9 sp9 HO8 HK8 HBY8 HGO HOK0 HBZ0 HCONF HFEW
   generalize askSt (beginSt st0 (qM1 9 (nn x0) k) ⟨nn x0, k, 1⟩) [] (freshCh st0 (nn x0) k) = st9 at HG9 S9
   have HSB : Hid (SB W6 (w9.alloc (.cells #[.int .i64 k9, .int .u32 t9, .slice a9 l9.length c9] 59)) xb sb w9.heap.size vr9 st9 k9 t9 (.slice a9 l9.length c9) l9) := by
    have hb := (Below.refl w9.heap.size w9).alloc (Nat.le_refl _) (.cells #[.int .i64 k9, .int .u32 t9, .slice a9 l9.length c9] 59)
    refine ⟨HO9.out.trans (hb.mono HO9.out.size), S9.out.kb.below hb, heap_new _ _, (fun e => by have := S9.out.kb.lt e; omega), HO9.out.size, own_below S9.out.own hb, fun j hj => ?_⟩
    have h1 := S9.out.new j hj
    have h2 := (S9.out.own.lt j hj).2
    exact ⟨S9.out.apart j hj, by omega, by omega⟩
   clear S9 HO9
   unfold stepX
   go_wp2_with fail
   generalize w9.alloc _ = W10 at HSB ⊢
   generalize w9.heap.size = Xs at HSB ⊢
   go_loopw [20, 21] (fun ve vi wr => ∃ (i : Nat) (st : RSt) (vr : PV) (kk tt : Int) (a : Option Addr) (l : List UInt8) (c : Nat), ve = .int .i64 0 ∧ vi = .int .i64 i ∧ i ≤ 249 ∧ Hid (SB W6 wr xb sb Xs vr st kk tt (.slice a l.length c) l) ∧ Hid (Snds t k x0 i st kk tt l)) (fun _ vi _ => 250 - (intOf vi).toNat)
   case atStart => exact ⟨0, st9, vr9, k9, t9, a9, l9, c9, rfl, rfl, by omega, HSB.out, HG9.out⟩
   case round =>
    obtain ⟨i, st, vr, kk, tt, a, l, c, rfl, rfl, hi, HD, HG⟩ := hrel
    clear HSB HG9
    rcases HG.out.parts with ⟨rfl, htt, hS, r, ch, hl, hle⟩ | ⟨rfl, hO⟩
    ·obtain ⟨host, r', ch', y, hto, hh12, hl', hny, hy36, hkc⟩ := hS.at_
     have e2 : r' = r ∧ ch' = ch := by
      rw [hl] at hl'
      obtain ⟨q1, q2⟩ := List.append_inj' hl' rfl
      exact ⟨q1.symm, by simpa using q2.symm⟩
     rw [e2.2] at hny hkc
     clear e2 hl' r' ch'
     obtain ⟨hF, hHe, hNx⟩ := say_f hS hk0 hk1 (by have := HKV.out; omega) hl hto hy36 hny hkc
     have hun := sent_un hS.live hl
     have hfw := few _ hun.1
     rw [← hle] at hfw hun
     have hkc0 : 0 ≤ ch.kind := by rcases hkc with q | q <;> omega
     have hkc1 : ch.kind ≤ 65535 := by rcases hkc with q | q <;> omega
     have hid0 := hS.live.base.id0
     have hid1 := hS.live.base.id1
     have hi124 := hS.bound
     rw [hto] at htt hF hHe
     unfold hostA at htt
     have HTT := hide htt
     have HF := hide hF
     have HHE := hide hHe
     have HNX := hide hNx
     have HUN := hide hun.2
     have HNY := hide hny
     have HS := hide hS
     have HTO := hide hto
     have hl1 := hfw.1
     have hl2 := hfw.2
     clear hF hHe hNx hun hny hS hto hfw hkc hle hl
     rw [HTT.out] at HD
     clear HG HTT htt
     obtain ⟨bl, rfl, hbyl, hcapl, hltl⟩ := own_bytes HD.out.own hl1
     have HBYL := hide hbyl
     clear hbyl
     have hcx := box_cells HD.out.box
     have hil' : (i : Int) < 250 := by omega
     go_upto_region 16 with fail
     have hu := tUnpack2 wr bl c (str l) (by show l.length ≤ _; omega) hcapl hltl HBYL.out
     rw [(unM_of HUN.out).1, (unM_of HUN.out).2] at hu
     refine hu.mono ?_
     clear hu hcx
     rintro e w10 ⟨aq, cq, aa, ca, au, cu, ax, cx, rfl, H10⟩
     have HB10 := hide H10.out.1
     have HM10 := hide (Rows4.at H10.out.2.2)
     clear H10
     have halc := (Below.refl w10.heap.size w10).alloc (Nat.le_refl _) (.cells (msgCells (askM st.id ch) (.slice aq 1 cq) (.slice aa 0 ca) (.slice au 0 cu) (.slice ax 0 cx)) 30)
     have HD11 := hide (HD.out.next (HB10.out.trans (halc.mono HB10.out.size)))
     have HM11 := hide (HM10.out.below halc)
     have HB22 := hide (heap_new w10 (.cells (msgCells (askM st.id ch) (.slice aq 1 cq) (.slice aa 0 ca) (.slice au 0 cu) (.slice ax 0 cx)) 30))
     clear halc HB10 HM10 HD HBYL
     unfold msgCells askM at HD11 HM11 HB22 ⊢
     dsimp only [List.length_cons, List.length_nil] at HD11 HM11 HB22 ⊢
     go_upto_region 16 with fail
     generalize World.alloc w10 _ = W11 at HD11 HM11 HB22 ⊢
     generalize w10.heap.size = M22 at HB22 ⊢
     have hc1 : W11.cell? ⟨Xs, 1, none⟩ = some (.int .u32 (167772160 + (host : Int))) := box_cells HD11.out.box 1
     have hc8 : W11.cell? ⟨M22, 8, none⟩ = some (.slice aq 1 cq) := box_cells HB22.out 8
     have hr1 : (167772160 + (host : Int)) % 256 = host := by omega
     have hr2 : (167772160 + (host : Int)).tmod 256 = host := by rw [Int.tmod_eq_emod_of_nonneg (by omega)]; omega
     have hq1 : (167772160 + (host : Int)) / 256 = 655360 := by omega
     have hq2 : (167772160 + (host : Int)).tdiv 256 = 655360 := by rw [Int.tdiv_eq_ediv_of_nonneg (by omega)]; omega
     have hh' : ¬ (12 : Int) ≤ (host : Int) := by omega
     go_upto_region 19 with fail
     clear hc1 hc8 hr1 hr2 hq1 hq2
     have HT11 := hide (HT6.out.below HD11.out.old)
     go_upto_region 20 with (first | (refine wpList_load_cells _ rfl 49 _ rfl ⟨X, 0, none⟩ rfl (trA t (.slice (some ⟨g, 0, none⟩) 12 c0)) _ undTr rfl (trI' HT.out _) HT11.out.all ?_) | (refine wpList_load_cells _ rfl 30 _ rfl ⟨M22, 0, none⟩ rfl (msgCells (askM st.id ch) (.slice aq 1 cq) (.slice aa 0 ca) (.slice au 0 cu) (.slice ax 0 cx)) _ undMsg rfl iMsg (box_all HB22.out) ?_))
     refine (kSays_any W11 t _ host (askM st.id ch) _ _ _ _ (nn y) ch.kind HT.out HT11.out.names hh12 (by unfold askM; rw [HNY.out]) HM11.out (by have := nn_size hy36; omega)).mono ?_
     rintro e w12 ⟨va, vu, vx, rfl, H12⟩
     have HB12 := hide H12.out.1
     have HA12 := hide H12.out.2
     clear H12
     generalize hA : sayM t host (askM st.id ch) (nn y) ch.kind = A at HF HHE HNX HA12 ⊢
     clear hA
     obtain ⟨aA, cA, rfl, -, -⟩ := (show Lies w12 5 va (A.an.map Rc.cells) from HA12.out.a)
     obtain ⟨aU, cU, rfl, -, -⟩ := (show Lies w12 5 vu (A.au.map Rc.cells) from HA12.out.u)
     obtain ⟨aE, cE, rfl, -, -⟩ := (show Lies w12 5 vx (A.ex.map Rc.cells) from HA12.out.x)
     simp only [List.length_map, Nat.zero_add] at HA12 ⊢
     have hQ12 : Lies w12 3 (.slice aq 1 cq) ([⟨nn y, ch.kind, 1⟩].map Qn.cells) := by have := HA12.out.q; rw [HF.out.qs] at this; exact this
     obtain ⟨bq, oq, rfl, q0, q1, q2⟩ := q_one hQ12
     have hM8 : w12.cell? ⟨M22, 8, none⟩ = some (.slice (some ⟨bq, oq, none⟩) 1 cq) := (box_cells ((HB12.out.block _ (heap_lt HB22.out)).trans HB22.out) 8).trans (by rfl)
     have HQC : Hid (∀ W, Below w12.heap.size w12 W → W.cell? ⟨M22, 8, none⟩ = some (.slice (some ⟨bq, oq, none⟩) 1 cq) ∧ W.cell? ⟨bq, oq, none⟩ = some (.string (nn y)) ∧ W.cell? ⟨bq, oq + 1, none⟩ = some (.int .u16 ch.kind)) := fun W hb => ⟨cell_of_heap (hb.block _ (cellk_lt hM8)) hM8, cell_of_heap (hb.block _ (cellk_lt q0)) q0, cell_of_heap (hb.block _ (cellk_lt q1)) q1⟩
     have HD12 := hide (HD11.out.next HB12.out)
     clear hQ12 q0 q1 q2 hM8 HB22 HD11 HM11 HB12 HT11
     have HA25 := hide (heap_new w12 (.cells (msgCells A (.slice (some ⟨bq, oq, none⟩) 1 cq) (.slice aA A.an.length cA) (.slice aU A.au.length cU) (.slice aE A.ex.length cE)) 30))
     have HBEL := hide ((Below.refl w12.heap.size w12).alloc (Nat.le_refl _) (.cells (msgCells A (.slice (some ⟨bq, oq, none⟩) 1 cq) (.slice aA A.an.length cA) (.slice aU A.au.length cU) (.slice aE A.ex.length cE)) 30))
     have hsz := alloc_size w12 (.cells (msgCells A (.slice (some ⟨bq, oq, none⟩) 1 cq) (.slice aA A.an.length cA) (.slice aU A.au.length cU) (.slice aE A.ex.length cE)) 30)
     unfold msgCells at HA25 HBEL hsz ⊢
     go_upto_region 20 with fail
     generalize World.alloc w12 _ = W13 at HA25 HBEL hsz ⊢
     go_upto_region 21 with (refine wpList_load_cells _ rfl 30 _ rfl ⟨w12.heap.size, 0, none⟩ rfl (msgCells A (.slice (some ⟨bq, oq, none⟩) 1 cq) (.slice aA A.an.length cA) (.slice aU A.au.length cU) (.slice aE A.ex.length cE)) _ undMsg rfl iMsg (box_all HA25.out) ?_)
     refine (tpack2 A (.slice (some ⟨bq, oq, none⟩) 1 cq) (.slice aA A.an.length cA) (.slice aU A.au.length cU) (.slice aE A.ex.length cE) W13 HF.out.s0.wf (HA12.out.below HBEL.out)).mono ?_
     rintro e w14 ⟨hb14, ab, cb, rfl, ho14⟩
     obtain ⟨bb, rfl, hBb⟩ := By.of (HD12.out.next HBEL.out) hb14 ho14 (Nat.le_refl _) HF.out.s0.ne
     have hbb : w12.heap.size ≠ bb := by have := (ho14.lt bb rfl).1; omega
     have HBb := hide hBb
     have HBEL14 := hide (HBEL.out.trans (hb14.mono (by omega)))
     have HA14 := hide ((hb14.block _ (heap_lt HA25.out)).trans HA25.out)
     have hsz14 : w12.heap.size + 1 ≤ w14.heap.size := by have := hb14.size; omega
     clear hb14 ho14 hBb HBEL HA25 hsz
     generalize packE A = pe1
     have hfx := frozen_of_block HA14.out
     have hc0 : w14.cell? ⟨w12.heap.size, 0, none⟩ = some (.int .u16 st.id) := (box_cells HA14.out 0).trans (by rw [HF.out.id]; rfl)
     have hwr : IntKind.u16.wrap (st.id + 1) = (st.id + 1) % 65536 := IntKind.wrap_u16 _
     go_upto_region 22 with fail
     have HA15 : Hid ((w14.setCell ⟨w12.heap.size, 0, none⟩ (.int .u16 ((st.id + 1) % 65536))).heap[w12.heap.size]? = some (.cells (msgCells { A with id := (st.id + 1) % 65536 } (.slice (some ⟨bq, oq, none⟩) 1 cq) (.slice aA A.an.length cA) (.slice aU A.au.length cU) (.slice aE A.ex.length cE)) 30)) := by unfold Hid; rw [heap_setCell_eq HA14.out]; rfl
     have HBEL15 := hide (bel_set HBEL14.out (Nat.le_refl _) (by omega) 0 (.int .u16 ((st.id + 1) % 65536)))
     have HBb15 := hide (HBb.out.set hbb 0 (.int .u16 ((st.id + 1) % 65536)))
     have hsz15 : w12.heap.size + 1 ≤ (w14.setCell ⟨w12.heap.size, 0, none⟩ (.int .u16 ((st.id + 1) % 65536))).heap.size := by simpa [World.setCell] using hsz14
     clear hfx hc0 hwr HA14 HBEL14 HBb hsz14
     generalize World.setCell w14 _ _ = W15 at HA15 HBEL15 HBb15 hsz15 ⊢
     go_upto_region 23 with (refine wpList_load_cells _ rfl 30 _ rfl ⟨w12.heap.size, 0, none⟩ rfl (msgCells { A with id := (st.id + 1) % 65536 } (.slice (some ⟨bq, oq, none⟩) 1 cq) (.slice aA A.an.length cA) (.slice aU A.au.length cU) (.slice aE A.ex.length cE)) _ undMsg rfl iMsg (box_all HA15.out) ?_)
     refine (tpack2 { A with id := (st.id + 1) % 65536 } (.slice (some ⟨bq, oq, none⟩) 1 cq) (.slice aA A.an.length cA) (.slice aU A.au.length cU) (.slice aE A.ex.length cE) W15 HF.out.s1.wf (by have h := HA12.out.below HBEL15.out; exact ⟨h.q, h.a, h.u, h.x⟩)).mono ?_
     rintro e w16 ⟨hb16, ac, cc, rfl, ho16⟩
     obtain ⟨bc, rfl, hBc⟩ := By.of (HD12.out.next HBEL15.out) hb16 ho16 (Nat.le_refl _) HF.out.s1.ne
     have hbc : w12.heap.size ≠ bc := by have := (ho16.lt bc rfl).1; omega
     have HBc := hide hBc
     have HBb16 := hide (HBb15.out.ka ((HD12.out.next HBEL15.out).ka hb16))
     have HBEL16 := hide (HBEL15.out.trans (hb16.mono (by omega)))
     have HA16 := hide ((hb16.block _ (heap_lt HA15.out)).trans HA15.out)
     have hsz16 : w12.heap.size + 1 ≤ w16.heap.size := by have := hb16.size; omega
     clear hb16 ho16 hBc HBEL15 HA15 hsz15 HBb15
     generalize packE { A with id := (st.id + 1) % 65536 } = pe2
     have hfx := frozen_of_block HA16.out
     have hc0 : w16.cell? ⟨w12.heap.size, 0, none⟩ = some (.int .u16 ((st.id + 1) % 65536)) := box_cells HA16.out 0
     have hwr : IntKind.u16.wrap ((st.id + 1) % 65536 - 1) = st.id := by rw [IntKind.wrap_u16]; omega
     go_upto_region 24 with fail
     have HA17 : Hid ((w16.setCell ⟨w12.heap.size, 0, none⟩ (.int .u16 st.id)).heap[w12.heap.size]? = some (.cells (msgCells A (.slice (some ⟨bq, oq, none⟩) 1 cq) (.slice aA A.an.length cA) (.slice aU A.au.length cU) (.slice aE A.ex.length cE)) 30)) := by unfold Hid; rw [heap_setCell_eq HA16.out]; unfold msgCells; rw [HF.out.id]; rfl
     have HBEL17 := hide (bel_set HBEL16.out (Nat.le_refl _) (by omega) 0 (.int .u16 st.id))
     have HBb17 := hide (HBb16.out.set hbb 0 (.int .u16 st.id))
     have HBc17 := hide (HBc.out.set hbc 0 (.int .u16 st.id))
     have hsz17 : w12.heap.size + 1 ≤ (w16.setCell ⟨w12.heap.size, 0, none⟩ (.int .u16 st.id)).heap.size := by simpa [World.setCell] using hsz16
     clear hfx hc0 hwr HA16 HBEL16 HBb16 HBc hsz16
     generalize World.setCell w16 _ _ = W17 at HA17 HBEL17 HBb17 HBc17 hsz17 ⊢
     obtain ⟨Z0, hZ0⟩ : ∃ x : World, x = W17.drew := ⟨_, rfl⟩
     have hb0 : Below W17.heap.size W17 Z0 := by rw [hZ0]; exact below_drewN (Below.refl _ _) 1
     obtain ⟨Z1, hZ1⟩ : ∃ x : World, x = Z0.alloc (.cells #[.string (yy y), .int .u16 ch.kind, .int .u16 1] 41) := ⟨_, rfl⟩
     have hb1 : Below W17.heap.size W17 Z1 := by rw [hZ1]; exact hb0.alloc hb0.size _
     obtain ⟨Z2, hZ2⟩ : ∃ x : World, x = Z1.setCell ⟨w12.heap.size, 8, none⟩ (.slice (some ⟨Z0.heap.size, 0, none⟩) 1 1) := ⟨_, rfl⟩
     have hzz := hb0.size
     have hA1 := (hb1.block _ (heap_lt HA17.out)).trans HA17.out
     have hbel1 := HBEL17.out.trans (hb1.mono (by omega))
     have HA18 : Hid (Z2.heap[w12.heap.size]? = some (.cells (msgCells { A with qs := [⟨yy y, ch.kind, 1⟩] } (.slice (some ⟨Z0.heap.size, 0, none⟩) 1 1) (.slice aA A.an.length cA) (.slice aU A.au.length cU) (.slice aE A.ex.length cE)) 30)) := by unfold Hid; rw [hZ2, heap_setCell_eq hA1]; rfl
     have HBEL18 : Hid (Below w12.heap.size w12 Z2) := by unfold Hid; rw [hZ2]; exact bel_set hbel1 (Nat.le_refl _) (by have := hb1.size; omega) 8 _
     have HBb18 : Hid (By Z2 xb sb vr bb cb (str (packL A))) := by unfold Hid; rw [hZ2]; exact (HBb17.out.ka ((HD12.out.next HBEL17.out).ka hb1)).set hbb 8 _
     have HBc18 : Hid (By Z2 xb sb vr bc cc (str (packL { A with id := (st.id + 1) % 65536 }))) := by unfold Hid; rw [hZ2]; exact (HBc17.out.ka ((HD12.out.next HBEL17.out).ka hb1)).set hbc 8 _
     have hne8 : Z0.heap.size ≠ w12.heap.size := by omega
     have HQ18 : Hid (Lies Z2 3 (.slice (some ⟨Z0.heap.size, 0, none⟩) 1 1) ([⟨yy y, ch.kind, 1⟩].map Qn.cells)) := by
      unfold Hid
      refine lies_row (cs := #[.string (yy y), .int .u16 ch.kind, .int .u16 1]) (t := 41) ?_ rfl (fun x hx => by simp at hx; subst hx; rfl) rfl
      rw [hZ2, (grownBy_setCell Z1 w12.heap.size 8 _).block Z0.heap.size (by rw [hZ1, alloc_size]; omega) (fun e => hne8 (Option.some.inj e)), hZ1]
      exact heap_new Z0 _
     have hsz18 : w12.heap.size + 1 ≤ Z2.heap.size := heap_lt HA18.out
     have hfx := frozen_of_block hA1
     have hcx : Z1.cell? ⟨w12.heap.size, 8, none⟩ = some (.slice (some ⟨bq, oq, none⟩) 1 cq) := box_cells hA1 8
     have HCELL : Hid (∀ j w', w' = pkW Z0 Z1 Z2 Z2 1 2 3 j → w'.cell? ⟨M22, 8, none⟩ = some (.slice (some ⟨bq, oq, none⟩) 1 cq) ∧ w'.cell? ⟨bq, oq, none⟩ = some (.string (nn y)) ∧ w'.cell? ⟨bq, oq + 1, none⟩ = some (.int .u16 ch.kind)) := pk_all (HQC.out Z0 (HBEL17.out.trans (hb0.mono (by omega)))) (HQC.out Z1 hbel1) (HQC.out Z2 HBEL18.out)
     have HZ1 := hide hZ1
     have HZ2 := hide hZ2
     have hcat : (⟨#[1, 121]⟩ : ByteArray) ++ nn y = yy y := str_append [1, 121] (nnL y)
     have hs2 : (⟨#[1, 121]⟩ : ByteArray).size = 2 := rfl
     have hnz9 := nn_size hy36
     have hmx9 : 2 + (nn y).size ≤ 9223372036854775807 := by omega
     clear hb0 hb1 hZ1 hZ2 hA1 hbel1 HBEL17 HA17 HBb17 HBc17
     refine Stg.wp_region_stage [12, 14] (fun j w' => w' = pkW Z0 Z1 Z2 Z2 1 2 3 j) (by kernel_rfl) (by kernel_rfl) hZ0.symm ?_
     clear hZ0
     refine lex_at (by kernel_rfl) (.pointer (some ⟨M22, 8, none⟩)) (fun j w' hw' => by obtain ⟨k1, k2, k3⟩ := HCELL.out j w' hw'; clear hw'; go_simp) ?_
     refine lex_at (by kernel_rfl) (.slice (some ⟨bq, oq, none⟩) 1 cq) (fun j w' hw' => by obtain ⟨k1, k2, k3⟩ := HCELL.out j w' hw'; clear hw'; go_simp) ?_
     refine lex_at (by kernel_rfl) (.pointer (some ⟨bq, oq, none⟩)) (fun j w' hw' => by obtain ⟨k1, k2, k3⟩ := HCELL.out j w' hw'; clear hw'; go_simp) ?_
     refine lex_at (by kernel_rfl) (.pointer (some ⟨bq, oq, none⟩)) (fun j w' hw' => by obtain ⟨k1, k2, k3⟩ := HCELL.out j w' hw'; clear hw'; go_simp) ?_
     refine lex_at (by kernel_rfl) (.string (nn y)) (fun j w' hw' => by obtain ⟨k1, k2, k3⟩ := HCELL.out j w' hw'; clear hw'; go_simp) ?_
     refine lex_at (by kernel_rfl) (.string (yy y)) (fun j w' hw' => by obtain ⟨k1, k2, k3⟩ := HCELL.out j w' hw'; clear hw'; go_simp) ?_
     refine lex_at (by kernel_rfl) (.pointer (some ⟨M22, 8, none⟩)) (fun j w' hw' => by obtain ⟨k1, k2, k3⟩ := HCELL.out j w' hw'; clear hw'; go_simp) ?_
     refine lex_at (by kernel_rfl) (.slice (some ⟨bq, oq, none⟩) 1 cq) (fun j w' hw' => by obtain ⟨k1, k2, k3⟩ := HCELL.out j w' hw'; clear hw'; go_simp) ?_
     refine lex_at (by kernel_rfl) (.pointer (some ⟨bq, oq, none⟩)) (fun j w' hw' => by obtain ⟨k1, k2, k3⟩ := HCELL.out j w' hw'; clear hw'; go_simp) ?_
     refine lex_at (by kernel_rfl) (.pointer (some ⟨bq, oq + 1, none⟩)) (fun j w' hw' => by obtain ⟨k1, k2, k3⟩ := HCELL.out j w' hw'; clear hw'; go_simp) ?_
     refine lex_at (by kernel_rfl) (.int .u16 ch.kind) (fun j w' hw' => by obtain ⟨k1, k2, k3⟩ := HCELL.out j w' hw'; clear hw'; go_simp) ?_
     refine lex_at (by kernel_rfl) (.agg #[.string (yy y), .int .u16 ch.kind, .int .u16 1]) (fun j w' hw' => by obtain ⟨k1, k2, k3⟩ := HCELL.out j w' hw'; clear hw'; go_simp) ?_
     refine Stg.lex_move 0 (by kernel_rfl) (.slice (some ⟨Z0.heap.size, 0, none⟩) 1 1) ?_ ?_
     ·intro w' hw'
      rw [show w' = Z0 from hw', show pkW Z0 Z1 Z2 Z2 1 2 3 (0 + 1) = Z1 from rfl]
      clear hw' w' HCELL
      go_simp
      exact HZ1.out.symm
     refine lex_at (by kernel_rfl) (.pointer (some ⟨w12.heap.size, 8, none⟩)) (fun j w' hw' => by clear hw'; go_simp) ?_
     refine Stg.lex_move 1 (by kernel_rfl) undef ?_ ?_
     ·intro w' hw'
      rw [show w' = Z1 from hw', show pkW Z0 Z1 Z2 Z2 1 2 3 (1 + 1) = Z2 from rfl]
      clear hw' w' HCELL
      go_simp
      exact HZ2.out.symm
     refine Stg.lex_nil ?_
     intro w' hw'
     rw [show w' = Z2 from hw']
     clear hw' w' HCELL HZ1 HZ2 hfx hcx hcat hs2 HQC
     dsimp only [Act.put]
     simp only [List.setIfInBounds_toArray, List.set_cons_succ, List.set_cons_zero]
     go_upto_region 25 with fail
     go_upto_region 26 with (refine wpList_load_cells _ rfl 30 _ rfl ⟨w12.heap.size, 0, none⟩ rfl (msgCells { A with qs := [⟨yy y, ch.kind, 1⟩] } (.slice (some ⟨Z0.heap.size, 0, none⟩) 1 1) (.slice aA A.an.length cA) (.slice aU A.au.length cU) (.slice aE A.ex.length cE)) _ undMsg rfl iMsg (box_all HA18.out) ?_)
     refine (tpack2 { A with qs := [⟨yy y, ch.kind, 1⟩] } (.slice (some ⟨Z0.heap.size, 0, none⟩) 1 1) (.slice aA A.an.length cA) (.slice aU A.au.length cU) (.slice aE A.ex.length cE) Z2 HF.out.s2.wf (by have h := HA12.out.below HBEL18.out; exact ⟨HQ18.out, h.a, h.u, h.x⟩)).mono ?_
     rintro e w19 ⟨hb19, ad, cd, rfl, ho19⟩
     obtain ⟨bd, rfl, hBd⟩ := By.of (HD12.out.next HBEL18.out) hb19 ho19 (Nat.le_refl _) HF.out.s2.ne
     have HBd := hide hBd
     have HBb := hide (HBb18.out.ka ((HD12.out.next HBEL18.out).ka hb19))
     have HBc := hide (HBc18.out.ka ((HD12.out.next HBEL18.out).ka hb19))
     have HD19 := hide (HD12.out.next (HBEL18.out.trans (hb19.mono (by omega))))
     clear hb19 ho19 hBd HBEL18 HA18 hsz18 HBb18 HBc18 HQ18 HA12 HD12
     generalize packE { A with qs := [⟨yy y, ch.kind, 1⟩] } = pe3
     generalize w12.heap.size = M25
     unfold hostA at HF HHE HTO
     have HLA := hide (show (str (packL A)).size ≤ 2097152 by show (packL A).length ≤ _; have := HF.out.s0.len; omega)
     have HLB := hide (show (str (packL { A with id := (st.id + 1) % 65536 })).size ≤ 2097152 by show (packL { A with id := (st.id + 1) % 65536 }).length ≤ _; have := HF.out.s1.len; omega)
     have HLC := hide (show (str (packL { A with qs := [⟨yy y, ch.kind, 1⟩] })).size ≤ 2097152 by show (packL { A with qs := [⟨yy y, ch.kind, 1⟩] }).length ≤ _; have := HF.out.s2.len; omega)
     obtain ⟨bn, hbn⟩ : ∃ bn, bn = (decide (i < ns.length) && decide (i < 30)) := ⟨_, rfl⟩
     have HBN := hide hbn
     clear hbn
     go_upto_region 26 with fail
     go_cut [173] from 166 to 173 (fun v173 wx => v173 = .bool bn ∧ wx = w19)
     case first =>
      by_cases q1 : i < ns.length
      ·have q1' : decide ((i : Int) < (ns.length : Int)) = true := by simp; omega
       by_cases q2 : i < 30
       ·have q2' : decide ((i : Int) < 30) = true := by simp; omega
        have HBT : Hid (bn = true) := by unfold Hid; rw [HBN.out]; simp [q1, q2]
        go_wp2_with fail
        go_meet
        case rel => exact ⟨by rw [HBT.out], rfl⟩
       ·have q2' : decide ((i : Int) < 30) = false := by simp; omega
        have HBT : Hid (bn = false) := by unfold Hid; rw [HBN.out]; simp [q2]
        go_wp2_with fail
        go_meet
        case rel => exact ⟨by rw [HBT.out], rfl⟩
      ·have q1' : decide ((i : Int) < (ns.length : Int)) = false := by simp; omega
       have HBT : Hid (bn = false) := by unfold Hid; rw [HBN.out]; simp [q1]
       go_wp2_with fail
       go_meet
       case rel => exact ⟨by rw [HBT.out], rfl⟩
     case rest =>
      obtain ⟨rfl, rfl⟩ := hcut
      cases bn
      ·clear HBN HLB HLC HBc HBd
       have hcx : wc.cell? ⟨Xs, 1, none⟩ = some (.int .u32 (167772160 + (host : Int))) := box_cells HD19.out.box 1
       have hp := pHeard_any wc xb sb bb cb vr st (167772160 + (host : Int)) (str (packL A)) HD19.out.kb.at_ HLA.out HBb.out.cap HBb.out.lt HBb.out.bytes (fun e => HBb.out.no (by rw [e]; exact .inl rfl))
       unfold Speaks at hp
       rw [HHE.out] at hp
       go_wp2_with fail
       refine hp.mono ?_
       clear hp hcx
       rintro e w40 ⟨k40, t40, a40, l40, c40, rfl, H40⟩
       have HG40 := hide (HNX.out _ _ _ H40.out.1)
       obtain ⟨vr40, sp40⟩ := H40.out.2
       have T := HD19.out.turn (k' := k40) (tt' := t40) sp40
       have HT1 := hide T.1
       have HT2 := hide T.2
       clear T sp40 H40
       generalize (followsP st r ch A).1 = st40 at HG40 HT2
       have hcz := box_cells HT1.out
       have hfz := frozen_of_block HT1.out
       unfold stepX
       unfold put3 at HT2
       go_wp2_with fail
       go_roundw
       case rel => exact ⟨i + 1, st40, vr40, k40, t40, a40, l40, c40, rfl, congrArg _ (by omega), by omega, HT2, HG40⟩
       case measure => simp [intOf]; omega
      ·have hn1 : i < ns.length := by have := HBN.out.symm; simp at this; exact this.1
       have hn2 : i < 30 := by have := HBN.out.symm; simp at this; exact this.2
       clear HBN
       obtain ⟨bN, oN, nsi, haN, hnsi, hcnw⟩ : ∃ bN oN nsi, aN = some ⟨bN, oN, none⟩ ∧ (-9223372036854775808 ≤ nsi ∧ nsi ≤ 9223372036854775807) ∧ w.cell? ⟨bN, oN + i, none⟩ = some (.int .i64 nsi) := ns_at HN.out HNR.out hn1
       subst haN
       have HNC : Hid (∀ W, Below w.heap.size w W → W.cell? ⟨bN, oN + i, none⟩ = some (.int .i64 nsi)) := fun W hb => cell_of_heap (hb.block _ (cellk_lt hcnw)) hcnw
       clear hcnw
       have hc1 : wc.cell? ⟨Xs, 1, none⟩ = some (.int .u32 (167772160 + (host : Int))) := box_cells HD19.out.box 1
       have hwf : IntKind.u32.wrap (167772160 + (host : Int) + 1) = 167772160 + (host : Int) + 1 := by rw [IntKind.wrap_u32]; omega
       go_upto_region 28 with fail
       refine (noise_any HD19.out HBb.out HLA.out HF.out.n0).mono ?_
       rintro e w20 ⟨a20, c20, rfl, H20⟩
       obtain ⟨vr20, S20, ka20⟩ := H20.out
       have hbu := (Below.refl w20.heap.size w20).alloc (Nat.le_refl _) (.cells #[.int .i64 0, .int .u32 0, .slice a20 0 c20] 59)
       have HD20 := hide (S20.next hbu)
       have hka := ka20.trans (S20.ka hbu)
       have HBb20 := hide (HBb.out.ka hka)
       have HBc20 := hide (HBc.out.ka hka)
       have HBd20 := hide (HBd.out.ka hka)
       have HU20 := hide (And.intro (heap_new w20 (.cells #[.int .i64 0, .int .u32 0, .slice a20 0 c20] 59)) (S20.fresh (Nat.le_refl w20.heap.size)))
       clear H20 S20 ka20 hbu hka hc1 HD19 HBb HBc HBd
       clear hwf
       go_upto_region 28 with fail
       generalize World.alloc w20 _ = W20 at HD20 HBb20 HBc20 HBd20 HU20 ⊢
       generalize w20.heap.size = U20 at HU20 ⊢
       have hc1 : W20.cell? ⟨Xs, 1, none⟩ = some (.int .u32 (167772160 + (host : Int))) := box_cells HD20.out.box 1
       go_upto_region 29 with fail
       refine (noise_any HD20.out HBc20.out HLB.out HF.out.n1).mono ?_
       rintro e w21 ⟨a21, c21, rfl, H21⟩
       obtain ⟨vr21, S21, ka21⟩ := H21.out
       have hbu := (Below.refl w21.heap.size w21).alloc (Nat.le_refl _) (.cells #[.int .i64 0, .int .u32 0, .slice a21 0 c21] 59)
       have HD21 := hide (S21.next hbu)
       have hka := ka21.trans (S21.ka hbu)
       have HBb21 := hide (HBb20.out.ka hka)
       have HBc21 := hide (HBc20.out.ka hka)
       have HBd21 := hide (HBd20.out.ka hka)
       have HU2021 := hide (hka.block HU20.out.1 HU20.out.2)
       have HU21 := hide (And.intro (heap_new w21 (.cells #[.int .i64 0, .int .u32 0, .slice a21 0 c21] 59)) (S21.fresh (Nat.le_refl w21.heap.size)))
       clear H21 S21 ka21 hbu hka hc1 HD20 HBb20 HBc20 HBd20 HU20
       go_upto_region 29 with fail
       generalize World.alloc w21 _ = W21 at HD21 HBb21 HBc21 HBd21 HU2021 HU21 ⊢
       generalize w21.heap.size = U21 at HU21 ⊢
       have hc1 : W21.cell? ⟨Xs, 1, none⟩ = some (.int .u32 (167772160 + (host : Int))) := box_cells HD21.out.box 1
       go_upto_region 30 with fail
       refine (noise_any HD21.out HBd21.out HLC.out HF.out.n2).mono ?_
       rintro e w22 ⟨a22, c22, rfl, H22⟩
       obtain ⟨vr22, S22, ka22⟩ := H22.out
       have hbu := (Below.refl w22.heap.size w22).alloc (Nat.le_refl _) (.cells #[.int .i64 0, .int .u32 0, .slice a22 0 c22] 59)
       have HD22 := hide (S22.next hbu)
       have hka := ka22.trans (S22.ka hbu)
       have HBb22 := hide (HBb21.out.ka hka)
       have HBc22 := hide (HBc21.out.ka hka)
       have HBd22 := hide (HBd21.out.ka hka)
       have HU202122 := hide (hka.block HU2021.out.1 HU2021.out.2)
       have HU2122 := hide (hka.block HU21.out.1 HU21.out.2)
       have HU22 := hide (And.intro (heap_new w22 (.cells #[.int .i64 0, .int .u32 0, .slice a22 0 c22] 59)) (S22.fresh (Nat.le_refl w22.heap.size)))
       clear H22 S22 ka22 hbu hka hc1 HD21 HBb21 HBc21 HBd21 HU2021 HU21
       go_upto_region 30 with fail
       generalize World.alloc w22 _ = W22 at HD22 HBb22 HBc22 HBd22 HU202122 HU2122 HU22 ⊢
       generalize w22.heap.size = U22 at HU22 ⊢
       have hkU20 : W22.cell? ⟨U20, 0, none⟩ = some (.int .i64 0) := box_cells HU202122.out.1 0
       have hkU21 : W22.cell? ⟨U21, 0, none⟩ = some (.int .i64 0) := box_cells HU2122.out.1 0
       have hkU22 : W22.cell? ⟨U22, 0, none⟩ = some (.int .i64 0) := box_cells HU22.out.1 0
       go_upto_region 32 with fail
       clear hkU20 HU202122 hkU21 HU2122 hkU22 HU22 HBc22 HBd22
       obtain ⟨Wo, co, hcv, hbo, hbyo⟩ := odd_by HD22.out odd
       have HDo := hide (HD22.out.next hbo)
       have HBo := hide hbyo
       have HBbo := hide (HBb22.out.ka (HD22.out.ka hbo))
       clear hbo hbyo HD22 HBb22
       go_upto_region 33 with fail
       have hu := tUnpack2 Wo W22.heap.size co odd (by omega) HBo.out.cap HBo.out.lt HBo.out.bytes
       refine hu.mono ?_
       clear hu hcv
       rintro e w23 ⟨aq3, cq3, aa3, ca3, au3, cu3, ax3, cx3, rfl, H23⟩
       have halc := H23.out.1.trans (((Below.refl w23.heap.size w23).alloc (Nat.le_refl _) (.cells (msgCells (unM odd) (.slice aq3 (unM odd).qs.length cq3) (.slice aa3 (unM odd).an.length ca3) (.slice au3 (unM odd).au.length cu3) (.slice ax3 (unM odd).ex.length cx3)) 30)).mono H23.out.1.size)
       have HD24 := hide (HDo.out.next halc)
       have HBb24 := hide (HBbo.out.ka (HDo.out.ka halc))
       clear halc H23 HDo HBo HBbo
       unfold msgCells at HD24 HBb24 ⊢
       go_upto_region 33 with fail
       generalize World.alloc w23 _ = W24 at HD24 HBb24 ⊢
       clear HLB HLC
       generalize hue : unE odd = ue
       have HUE := hide hue
       clear hue
       go_upto_if 219 with fail
       go_cut [21, 40, 41] from 218 to 231 (fun v21 v40 v41 wx => v21 = .int .i64 (i : Int) ∧ ∃ vr5, Hid (SB W6 wx xb sb Xs vr5 st 1 (167772160 + (host : Int)) (.slice (some ⟨bl, 0, none⟩) l.length c) l) ∧ Hid (By wx xb sb vr5 bb cb (str (packL A))))
       case first =>
        cases hun : unpack odd with
        | some mo =>
         have hue : (ue == 0) = true := by rw [← HUE.out, (unM_of hun).2]; rfl
         clear hun
         go_wp2_with fail
         go_meet
         case rel => exact ⟨rfl, vr22, HD24, HBb24⟩
        | none =>
         have hue : (ue == 0) = false := by rw [← HUE.out]; unfold unE; rw [hun]; rfl
         have HNO := hide (HF.out.no odd hun)
         clear hun
         obtain ⟨Wp, cp, hcv, hbp, hbyp⟩ := odd_by HD24.out odd
         have HDp := hide (HD24.out.next hbp)
         have HBp := hide hbyp
         have HBbp := hide (HBb24.out.ka (HD24.out.ka hbp))
         have hc1 : W24.cell? ⟨Xs, 1, none⟩ = some (.int .u32 (167772160 + (host : Int))) := box_cells HD24.out.box 1
         clear hbp hbyp HD24 HBb24
         go_upto_region 35 with fail
         refine (noise_any HDp.out HBp.out (by omega) HNO.out).mono ?_
         rintro e w25 ⟨a25, c25, rfl, H25⟩
         obtain ⟨vr25, S25, ka25⟩ := H25.out
         have hbu := (Below.refl w25.heap.size w25).alloc (Nat.le_refl _) (.cells #[.int .i64 0, .int .u32 0, .slice a25 0 c25] 59)
         have HD25 := hide (S25.next hbu)
         have HBb25 := hide (HBbp.out.ka (ka25.trans (S25.ka hbu)))
         have HU25 := hide (heap_new w25 (.cells #[.int .i64 0, .int .u32 0, .slice a25 0 c25] 59))
         clear H25 S25 ka25 hbu hc1 hcv HDp HBp HBbp
         go_upto_region 35 with fail
         generalize World.alloc w25 _ = W25 at HD25 HBb25 HU25 ⊢
         generalize w25.heap.size = U25 at HU25 ⊢
         have hk25 : W25.cell? ⟨U25, 0, none⟩ = some (.int .i64 0) := box_cells HU25.out 0
         go_wp2_with fail
         go_meet
         case rel => exact ⟨rfl, vr25, HD25, HBb25⟩
       case rest =>
        obtain ⟨rfl, vr5, HD5, HB5⟩ := hcut
        clear HD24 HBb24
        obtain ⟨bL, hbL⟩ : ∃ bL, bL = (decide (i % 2 = 0) && decide (pkN nsi 3 = 0)) := ⟨_, rfl⟩
        have HBL := hide hbL
        clear hbL
        have HPK := hide (fun W => kPick_any nsi 3 (by decide) (by decide) hnsi.1 hnsi.2 W)
        generalize pkN nsi 3 = pz at HBL HPK
        go_upto_region 37 with fail
        go_cut [242] from 232 to 242 (fun v242 wx => v242 = .bool bL ∧ wx = wc)
        case first =>
         by_cases hev : i % 2 = 0
         ·have hev1 : (i : Int) % 2 = 0 := by omega
          have hev2 : (i : Int).tmod 2 = 0 := by rw [Int.tmod_eq_emod_of_nonneg (by omega)]; omega
          have hcn : wc.cell? ⟨bN, oN + i, none⟩ = some (.int .i64 nsi) := HNC.out _ (HB6.out.trans (HD5.out.old.mono HB6.out.size))
          go_wp2_with fail
          refine (HPK.out _).mono ?_
          rintro e w39 ⟨rfl, hw⟩
          have hw := hw.symm
          subst hw
          clear hcn
          by_cases hpz : pz = 0
          ·have hpz' : ((pz : Int) == 0) = true := by simp; omega
           have HBT : Hid (bL = true) := by unfold Hid; rw [HBL.out]; simp [hev, hpz]
           clear hpz
           go_wp2_with fail
           go_meet
           case rel => exact ⟨by rw [HBT.out], rfl⟩
          ·have hpz' : ((pz : Int) == 0) = false := by simp; omega
           have HBT : Hid (bL = false) := by unfold Hid; rw [HBL.out]; simp [hpz]
           go_wp2_with fail
           go_meet
           case rel => exact ⟨by rw [HBT.out], rfl⟩
         ·have hev1 : ((i : Int) % 2 == 0) = false := by simp; omega
          have hev3 : (i : Int) % 2 = 1 := by omega
          have hev2 : (i : Int).tmod 2 = 1 := by rw [Int.tmod_eq_emod_of_nonneg (by omega)]; omega
          have HBT : Hid (bL = false) := by unfold Hid; rw [HBL.out]; simp [hev]
          go_wp2_with fail
          go_meet
          case rel => exact ⟨by rw [HBT.out], rfl⟩
        case rest =>
         obtain ⟨rfl, rfl⟩ := hcut
         clear HPK HNC
         cases bL
         ·skip
          have hcx : wc.cell? ⟨Xs, 1, none⟩ = some (.int .u32 (167772160 + (host : Int))) := box_cells HD5.out.box 1
          have hp := pHeard_any wc xb sb bb cb vr5 st (167772160 + (host : Int)) (str (packL A)) HD5.out.kb.at_ HLA.out HB5.out.cap HB5.out.lt HB5.out.bytes (fun e => HB5.out.no (by rw [e]; exact .inl rfl))
          unfold Speaks at hp
          rw [HHE.out] at hp
          go_wp2_with fail
          refine hp.mono ?_
          clear hp hcx
          rintro e w40 ⟨k40, t40, a40, l40, c40, rfl, H40⟩
          have HG40 := hide (HNX.out _ _ _ H40.out.1)
          obtain ⟨vr40, sp40⟩ := H40.out.2
          have T := HD5.out.turn (k' := k40) (tt' := t40) sp40
          have HT1 := hide T.1
          have HT2 := hide T.2
          clear T sp40 H40
          generalize (followsP st r ch A).1 = st40 at HG40 HT2
          have hcz := box_cells HT1.out
          have hfz := frozen_of_block HT1.out
          unfold stepX
          unfold put3 at HT2
          go_wp2_with fail
          go_roundw
          case rel => exact ⟨i + 1, st40, vr40, k40, t40, a40, l40, c40, rfl, congrArg _ (by omega), by omega, HT2, HG40⟩
          case measure => simp [intOf]; omega
         ·have hev : i % 2 = 0 := by have := HBL.out.symm; simp at this; exact this.1
          have hp := pLate_any wc xb sb vr5 st HD5.out.kb.at_
          unfold Speaks at hp
          rw [(comes_late ⟨HS.out.live.ok, fun _ => HS.out.live⟩ HS.out.busy).2] at hp
          go_wp2_with fail
          refine hp.mono ?_
          clear hp
          rintro e w41 ⟨k41, t41, a41, l41, c41, rfl, H41⟩
          have HG41 := hide (snd_late HS.out hev hn2 H41.out.1).2
          obtain ⟨vr41, sp41⟩ := H41.out.2
          have T := HD5.out.turn (k' := k41) (tt' := t41) sp41
          have HT1 := hide T.1
          have HT2 := hide T.2
          clear T sp41 H41
          generalize (lateS st).1 = st41 at HG41 HT2
          have hcz := box_cells HT1.out
          have hfz := frozen_of_block HT1.out
          unfold stepX
          unfold put3 at HT2
          go_wp2_with fail
          go_roundw
          case rel => exact ⟨i + 1, st41, vr41, k41, t41, a41, l41, c41, rfl, congrArg _ (by omega), by omega, HT2, HG41⟩
          case measure => simp [intOf]; omega
    ·obtain ⟨hl1, hl2, hun, hlk⟩ := hO.un hx24 hk0 hk1
     have HIDLE := hide hO.idle
     clear HG hO
     generalize hR : lkd t k 12 [] [] (nn x0) = R at hun hlk
     have HUN := hide hun
     have HR := hide hR
     clear hun hR
     obtain ⟨b9, rfl, hby9, hcap9, hlt9⟩ := own_bytes HD.out.own hl1
     have HBY9 := hide hby9
     clear hby9 hl1
     have hcx := box_cells HD.out.box
     have hil' : (i : Int) < 250 := by omega
     go_upto_region 43 with fail
     have hu := tUnpack2 wr b9 c (str l) (by show l.length ≤ _; omega) hcap9 hlt9 HBY9.out
     rw [(unM_of HUN.out).1, (unM_of HUN.out).2] at hu
     refine hu.mono ?_
     clear hu hcx
     rintro e w10 ⟨aq, cq, aa, ca, au, cu, ax, cx, rfl, H10⟩
     have HB10 := hide H10.out.1
     have HM10 := hide (Rows4.at H10.out.2.2).a
     clear H10
     have halc := (Below.refl w10.heap.size w10).alloc (Nat.le_refl _) (.cells (msgCells ⟨9, true, 0, false, false, true, true, R.1, [⟨nn x0, k, 1⟩], R.2, [], []⟩ (.slice aq 1 cq) (.slice aa R.2.length ca) (.slice au 0 cu) (.slice ax 0 cx)) 30)
     have HD11 := hide (HD.out.next (HB10.out.trans (halc.mono HB10.out.size)))
     have HM11 := hide (HM10.out.below halc)
     have HB42 := hide (heap_new w10 (.cells (msgCells ⟨9, true, 0, false, false, true, true, R.1, [⟨nn x0, k, 1⟩], R.2, [], []⟩ (.slice aq 1 cq) (.slice aa R.2.length ca) (.slice au 0 cu) (.slice ax 0 cx)) 30))
     clear halc HB10 HM10 HD HBY9
     unfold msgCells at HD11 HM11 HB42 ⊢
     dsimp only [List.length_cons, List.length_nil] at HD11 HM11 HB42 ⊢
     go_upto_region 43 with fail
     generalize World.alloc w10 _ = W11 at HD11 HM11 HB42 ⊢
     generalize w10.heap.size = M42 at HB42 ⊢
     have HT11 := hide (HT6.out.below HD11.out.old)
     go_upto_region 44 with (refine wpList_load_cells _ rfl 49 _ rfl ⟨X, 0, none⟩ rfl (trA t (.slice (some ⟨g, 0, none⟩) 12 c0)) _ undTr rfl (trI' HT.out _) HT11.out.all ?_)
     have hkl := kLooked_any W11 t (.slice (some ⟨g, 0, none⟩) 12 c0) x0 k HT.out HT11.out.names (by omega)
     rw [HR.out] at hkl
     refine hkl.mono ?_
     clear hkl
     rintro e w12 ⟨a12, c12, rfl, H12⟩
     have HD12 := hide (HD11.out.next H12.out.1)
     have HA12 := hide (HM11.out.below H12.out.1)
     have HW12 := hide H12.out.2
     have HB12 := hide ((H12.out.1.block _ (heap_lt HB42.out)).trans HB42.out)
     clear H12 HD11 HM11 HB42 HT11
     have hm0 : w12.cell? ⟨M42, 0, none⟩ = some (.int .u16 9) := box_cells HB12.out 0
     have hm1 : w12.cell? ⟨M42, 1, none⟩ = some (.bool true) := box_cells HB12.out 1
     have hm5 : w12.cell? ⟨M42, 5, none⟩ = some (.bool true) := box_cells HB12.out 5
     have hm6 : w12.cell? ⟨M42, 6, none⟩ = some (.bool true) := box_cells HB12.out 6
     have hm7 : w12.cell? ⟨M42, 7, none⟩ = some (.int .i64 R.1) := box_cells HB12.out 7
     have hm9 : w12.cell? ⟨M42, 9, none⟩ = some (.slice aa R.2.length ca) := box_cells HB12.out 9
     generalize R.1 = code at hm7 ⊢
     generalize R.2 = want at hm9 hlk HA12 HW12 ⊢
     clear HB12 HR HUN
     have HM9 := hide hm9
     go_wp2_with fail
     clear hm0 hm1 hm5 hm6 hm7 hm9
     go_loopw [46] (fun vi wr => ∃ j : Nat, vi = .int .i64 j ∧ j ≤ want.length ∧ Hid (Below w12.heap.size w12 wr)) (fun vi _ => want.length - (intOf vi).toNat)
     case atStart => exact ⟨0, rfl, Nat.zero_le _, Below.refl _ _⟩
     case round =>
      obtain ⟨j, rfl, hj, HBW⟩ := hrel
      by_cases hlt : j < want.length
      ·obtain ⟨rc, hrc⟩ : ∃ rc, want[j]? = some rc := ⟨_, List.getElem?_eq_getElem hlt⟩
       obtain ⟨ba, oa, rfl, p0, p1, p2, p3, p4⟩ := rec_at (HA12.out.below HBW.out) hrc
       obtain ⟨bw, ow, rfl, q0, q1, q2, q3, q4⟩ := rec_at (HW12.out.below HBW.out) hrc
       have hm9 : wr.cell? ⟨M42, 9, none⟩ = some (.slice (some ⟨ba, oa, none⟩) want.length ca) := cell_of_heap (HBW.out.block _ (cellk_lt HM9.out)) HM9.out
       have hlt' : (j : Int) < (want.length : Int) := by omega
       clear hrc
       go_wp2_with fail
       go_quiet (fail)
       have HBX := hide (below_drewN HBW.out nq)
       go_wp2_with fail
       exact ⟨⟨j + 1, by go_num, by omega, HBX.out⟩, by simp [intOf]; omega⟩
      ·have hje : j = want.length := by omega
       subst hje
       have HDw := hide (HD12.out.next HBW.out)
       have hp := pLate_any wr xb sb vr st HDw.out.kb.at_
       unfold Speaks at hp
       have hlz : lateS st = (st, stepV 0 0 ⟨#[]⟩, 3) := by unfold lateS; rw [if_neg (by rw [HIDLE.out]; simp)]
       rw [hlz] at hp
       go_wp2_with fail
       refine hp.mono ?_
       clear hp hlz
       rintro e w41 ⟨k41, t41, a41, l41, c41, rfl, H41⟩
       obtain ⟨vr41, sp41⟩ := H41.out.2
       have S41 := hide (HDw.out.kb.spoke sp41)
       have HBZ := hide (HB6.out.trans ((HDw.out.old.trans S41.out.below).mono HB6.out.size))
       have HBY := hide (HBZ.out.trans (((Below.refl w41.heap.size w41).alloc (Nat.le_refl _) (.cells #[.int .i64 k41, .int .u32 t41, .slice a41 l41.length c41] 59)).mono HBZ.out.size))
       clear H41 sp41 S41 HBZ
       unfold stepX
       go_wp2_with fail
       go_ret
       exact ⟨rfl, HBY.out⟩
end Go.Proofs.YtafoepfhepdcoaaGreat
