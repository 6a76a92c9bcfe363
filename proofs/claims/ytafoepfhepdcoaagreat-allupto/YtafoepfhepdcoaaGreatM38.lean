import Derived.Test.YtafoepfhepdcoaaGreatM37
set_option maxRecDepth 100000
set_option maxHeartbeats 8000000
namespace Go.Proofs.YtafoepfhepdcoaaGreat
open Go.RowKit Go.Trawl
structure DL (W wr : World) (ns : List ByteArray) (sv : List Int) (v1 v2 : Value) : Prop where
 below : Below W.heap.size W wr
 o1 : wr.ownsRow 0 9 1 v1 ns.length (strV ns)
 o2 : wr.ownsRow 0 54 1 v2 sv.length (wV sv)
 n1 : ∀ g, v1.ownBlock = some g → W.heap.size ≤ g
 n2 : ∀ g, v2.ownBlock = some g → W.heap.size ≤ g
theorem DL.next {W wr w' : World} {ns : List ByteArray} {sv : List Int} {v1 v2 : Value} (h : DL W wr ns sv v1 v2) (hb : Below wr.heap.size wr w') : DL W w' ns sv v1 v2 :=
 ⟨h.below.trans (hb.mono h.below.size), own_below h.o1 hb, own_below h.o2 hb, h.n1, h.n2⟩
theorem DL.pushN {W wr w3 : World} {ns : List ByteArray} {sv : List Int} {v1 v2 v3 : Value} {d : ByteArray} {o : Obj} (h : DL W wr ns sv v1 v2) (g : Grew 9 1 (wr.alloc o) w3 v1 v3 (ns.length + 1) (strV ns ++ [.string d])) : DL W w3 (ns ++ [d]) sv v3 v2 := by
 have hb : Below wr.heap.size wr (wr.alloc o) := (Below.refl _ _).alloc (Nat.le_refl _) _
 have hg := g.below (B := W.heap.size) (Nat.le_trans h.below.size hb.size) h.n1
 refine ⟨(h.below.trans (hb.mono h.below.size)).trans hg.1, ?_, own_same_at (own_below h.o2 hb) (fun k hk => g.grown.block k ((own_below h.o2 hb).lt k hk).2 (fun e => rows_far h.o1 h.o2 (by decide) e.symm hk)), hg.2, h.n2⟩
 have e1 : (ns ++ [d]).length = ns.length + 1 := by simp
 have e2 : strV (ns ++ [d]) = strV ns ++ [.string d] := by simp [strV]
 rw [e1, e2]
 exact g.own
theorem DL.pushS {W wr w3 : World} {ns : List ByteArray} {sv xs : List Int} {v1 v2 v3 : Value} {n : Nat} {z : List Value} (h : DL W wr ns sv v1 v2) (g : Grew 54 1 wr w3 v2 v3 n z) (hn : n = (sv ++ xs).length) (hz : z = wV (sv ++ xs)) : DL W w3 ns (sv ++ xs) v1 v3 := by
 have hg := g.below (B := W.heap.size) h.below.size h.n2
 refine ⟨h.below.trans hg.1, own_same_at h.o1 (fun k hk => g.grown.block k (h.o1.lt k hk).2 (fun e => rows_far h.o1 h.o2 (by decide) hk e.symm)), ?_, h.n1, hg.2⟩
 rw [← hn, ← hz]
 exact g.own
theorem words_flatV (l : List Int) : (wordsV l).flatten = wV l := by
 unfold wordsV wV
 induction l with
 | nil => rfl
 | cons y r ih => rw [List.map_cons, List.flatten_cons, ih]; rfl
theorem texts_flat (l : List ByteArray) : (textsV l).flatten = strV l := by
 unfold textsV strV
 induction l with
 | nil => rfl
 | cons y r ih => rw [List.map_cons, List.flatten_cons, ih]; rfl
theorem own_cap {w : World} {e : TypeId} {sz : Nat} {a : Option Addr} {n m c : Nat} {x : List Value} (h : w.ownsRow 0 e sz (.slice a n c) m x) : capOk (.slice a n c) := by
 intro a' n' c' e'
 cases e'
 rcases h.2 with ⟨e, _⟩ | ⟨g, cap, cur, e, _, _, hnc, _⟩
 ·cases e; exact Nat.le_refl _
 ·cases e; exact hnc
theorem rec_data {w : World} {a : Option Addr} {n c : Nat} {l : List Rc} (h : w.ownsRow 0 69 5 (.slice a n c) l.length ((l.map Rc.cells).flatten)) {i : Nat} {r : Rc} (hi : l[i]? = some r) : ∃ g, a = some ⟨g, 0, none⟩ ∧ w.cell? ⟨g, i * 5 + 4, none⟩ = some (.string r.data) := by
 rcases h.2 with ⟨_, h0⟩ | ⟨g, cap, cur, e, _⟩
 ·have : l = [] := List.eq_nil_of_length_eq_zero h0
  subst this
  simp at hi
 ·cases e
  have := h.cells (g := g) rfl (i * 5 + 4) (.string r.data) (by
   have := flat_at (l.map Rc.cells) (fun x hx => (rcells_ok l x hx).1) i r.cells 4 (.string r.data) (by rw [List.getElem?_map, hi]; rfl) rfl
   exact this)
  refine ⟨g, rfl, ?_⟩
  have e : (⟨g, 0, none⟩ : Addr).add (i * 5 + 4) = ⟨g, i * 5 + 4, none⟩ := by
   unfold Addr.add
   rw [if_neg (by omega)]
   simp
  rw [e] at this
  exact this
theorem down_any (w : World) (rb : Nat) (st : RSt) (V : RV) (cs : List ChV) (c : ChV) (zone : ByteArray) (m : Msg) (vq va vu vx : Value) (h : RefAt w rb st V (cs ++ [c])) (hok : StOk st) (hm : MsgAt w m vq va vu vx) (hnm : NamedM m) (hul : m.au.length ≤ 65535) (hxl : m.ex.length ≤ 65535)
  (hds : ∀ r ∈ m.au, r.kind = 2 → r.data.size ≤ 255) (hdx : ∀ r ∈ m.ex, r.data.size ≤ 2097152) (hzn : zone.size ≤ 255) :
  Calls Tryz.prog 139 #[.pointer (some ⟨rb, 0, none⟩), .string zone, .agg (mc_ m vq va vu vx)] w (Says w rb V (cs ++ [c]) (downP st (cs.map ChV.ch) c.ch zone m)) := by
 have HLT := hide h.lt
 have hba := (Below.refl w.heap.size w).alloc (Nat.le_refl _) (.cells (mc_ m vq va vu vx) 30)
 have hx0 := hn_ w (.cells (mc_ m vq va vu vx) 30)
 have hz0 := as_ w (.cells (mc_ m vq va vu vx) 30)
 generalize hWa : w.alloc (.cells (mc_ m vq va vu vx) 30) = Wa at hba hx0 hz0
 have hbb := (Below.refl Wa.heap.size Wa).alloc (Nat.le_refl _) (.cells #[.int .i64 0, .int .u32 0, .string ⟨#[]⟩] 111)
 have hxb := heap_old hx0 (.cells #[.int .i64 0, .int .u32 0, .string ⟨#[]⟩] 111)
 have hzb := hn_ Wa (.cells #[.int .i64 0, .int .u32 0, .string ⟨#[]⟩] 111)
 rw [hz0] at hzb
 have hBb := hba.trans (hbb.mono hba.size)
 generalize hWb : Wa.alloc (.cells #[.int .i64 0, .int .u32 0, .string ⟨#[]⟩] 111) = Wb at hbb hxb hzb hBb
 have HBB := hide hBb
 have HXB := hide hxb
 have HZB := hide hzb
 have HRB := hide (h.keep hBb)
 have HMB := hide (hm.below hBb)
 have hrl : rb < w.heap.size := hl_ h.box
 have HWA := hide hWa
 have HWB := hide hWb
 have HOK := hide hok
 have HNM := hide hnm
 obtain ⟨au, cu, hvu, _⟩ := hm.u
 obtain ⟨ax, cx, hvx, _⟩ := hm.x
 obtain ⟨aq, cq, hvq, _⟩ := hm.q
 obtain ⟨aa, ca, hva, _⟩ := hm.a
 rw [List.length_map] at hvu hvx hvq hva
 subst hvu hvx hvq hva
 clear hba hbb hxb hzb hBb h hm hWa hWb hok hnm hx0 hz0
 unfold Says
 simp only [mc_] at HXB HWA ⊢
 obtain ⟨g, cap, cur, hvL, hg, k1, k2, k3, k4⟩ := row_at HRB.out
 obtain ⟨vR, vq, va, vu, vx, vK, vS, vL⟩ := V
 obtain ⟨ch, vs, vn⟩ := c
 obtain ⟨nm, kd, zn, sv, sn, ns⟩ := ch
 dsimp only at hvL
 subst hvL
 have hc0 := bc_ HRB.out.box
 simp only [refCells] at hc0
 have hg2 := ch_cells hg k4 2 (by decide)
 simp only [ChV.cells, List.getElem?_cons_zero, List.getElem?_cons_succ] at hg2
 have hcl : cs.length ≤ 1000 := by
  have := HOK.out.len
  rw [← HRB.out.chs] at this
  simp at this
  omega
 go_enter Tryz.func139, Tryz.ntmps139
 go_wp2_with fail
 rw [HWA.out, HWB.out]
 go_quiet (fail)
 go_wp2_with fail
 have hbc := below_drewN (Below.refl Wb.heap.size Wb) nq
 have HBC := hide (HBB.out.trans (hbc.mono HBB.out.size))
 have HXC := hide ((hbc.block _ (hl_ HXB.out)).trans HXB.out)
 have HZC := hide ((hbc.block _ (hl_ HZB.out)).trans HZB.out)
 have HRC := hide (HRB.out.keep hbc)
 have HMC := hide (HMB.out.below hbc)
 have HGC := hide ((hbc.block _ (hl_ hg)).trans hg)
 have HK4 := hide k4
 clear hbc HBB HXB HZB HRB HMB HWA HWB hg hc0 hg2 k4
 generalize Wb.drewN nq = Wc at HBC HXC HZC HRC HMC HGC ⊢
 have hg2 := ch_cells HGC.out HK4.out 2 (by decide)
 simp only [ChV.cells, List.getElem?_cons_zero, List.getElem?_cons_succ] at hg2
 have hcm := bc_ HXC.out
 have HD : Hid (Below Wc.heap.size Wc Wc.drew) := below_drewN (Below.refl _ Wc) 1
 have HUD := hide (HMC.out.u.below HD.out)
 have HS : Hid (∀ w', Below Wc.heap.size Wc w' → w'.cell? ⟨w.heap.size, 10, none⟩ = some (.slice au m.au.length cu) ∧ w'.cell? ⟨g, cs.length * 6 + 2, none⟩ = some (.string zn)) := fun w' hb => by
  refine ⟨(bc_ ((hb.block _ (hl_ HXC.out)).trans HXC.out) 10).trans rfl, ?_⟩
  have := ch_cells ((hb.block _ (hl_ HGC.out)).trans HGC.out) HK4.out 2 (by decide)
  simpa only [ChV.cells, List.getElem?_cons_zero, List.getElem?_cons_succ] using this
 go_region_held3 (fun w' => w'.cell? ⟨w.heap.size, 10, none⟩ = some (.slice au m.au.length cu) ∧ w'.cell? ⟨g, cs.length * 6 + 2, none⟩ = some (.string zn)) (first | (go_keep; done) | exact hs1) (first | (go_at_call 134; refine (of_any Wc.drew (.slice au m.au.length cu) m.au zn zone 2 hul (fun r hr => (HNM.out.u r hr).1) HUD.out).mono ?_; rintro e W ⟨al, cl, rfl, HO⟩; have hs1 := HS.out W (HD.out.trans (HO.out.below.mono HD.out.size))))
 have hbW : Below Wc.heap.size Wc W := HD.out.trans (HO.out.below.mono HD.out.size)
 obtain ⟨l, hl⟩ : ∃ l, l = m.au.filter (ofB zn zone 2) := ⟨_, rfl⟩
 have hll : l.length ≤ 65535 := by rw [hl]; exact Nat.le_trans (List.length_filter_le _ _) hul
 have HDS : Hid (∀ r ∈ l, r.data.size ≤ 255) := fun r hr => by
  rw [hl] at hr
  obtain ⟨h1, h2⟩ := List.mem_filter.1 hr
  refine hds r h1 ?_
  unfold ofB at h2
  simp only [Bool.and_eq_true, decide_eq_true_eq] at h2
  exact h2.1.2
 rw [← hl] at HO ⊢
 have HL := hide hl
 have HBW := hide (HBC.out.trans (hbW.mono HBC.out.size))
 have HXW := hide ((hbW.block _ (hl_ HXC.out)).trans HXC.out)
 have HZW := hide ((hbW.block _ (hl_ HZC.out)).trans HZC.out)
 have HRW := hide (HRC.out.keep hbW)
 have HMW := hide (HMC.out.below hbW)
 have HGW := hide ((hbW.block _ (hl_ HGC.out)).trans HGC.out)
 have HOW := hide HO.out.own
 clear hcm hg2 hs1 hl hbW HO HBC HXC HZC HRC HMC HGC HS HUD HD
 have HD0 : Hid (DL W W [] [] (.slice none 0 0) (.slice none 0 0)) := ⟨Below.refl _ _, World.ownsRow_nil _ _ _ _, World.ownsRow_nil _ _ _ _, (fun g hg => by cases hg), (fun g hg => by cases hg)⟩
 go_wp2_with fail
 go_loopw [9, 10, 11] (fun u1 u2 i wr => ∃ (k : Nat) (ns' : List ByteArray) (sv' : List Int) (a1 : Option Addr) (c1 : Nat) (a2 : Option Addr) (c2 : Nat), u1 = .slice a1 ns'.length c1 ∧ u2 = .slice a2 sv'.length c2 ∧ i = .int .i64 k ∧ k ≤ l.length ∧ ns'.length ≤ k ∧ sv'.length ≤ 65535 * k ∧ Hid (∀ n ∈ ns', n.size ≤ 255) ∧ Hid ((ns', sv') = downL m zn (l.take k)) ∧ Hid (DL W wr ns' sv' (.slice a1 ns'.length c1) (.slice a2 sv'.length c2))) (fun _ _ i _ => l.length - (intOf i).toNat)
 case atStart => exact ⟨0, [], [], none, 0, none, 0, rfl, rfl, rfl, Nat.zero_le _, Nat.le_refl _, by simp, (fun n hn => by cases hn), rfl, HD0.out⟩
 case round =>
  obtain ⟨k, ns', sv', a1, c1, a2, c2, rfl, rfl, rfl, hk, hn1, hn2, HSZ, HEQ, HDL⟩ := hrel
  by_cases hin : k < l.length
  ·obtain ⟨r, hr⟩ : ∃ r, l[k]? = some r := ⟨_, List.getElem?_eq_getElem hin⟩
   obtain ⟨gl, rfl, hcd⟩ := rec_data HOW.out hr
   have hdr := HDS.out r (List.mem_of_getElem? hr)
   have HTK : Hid (downL m zn (l.take (k + 1)) = downStep m zn (ns', sv') r) := by
    unfold Hid downL
    rw [take_snoc l k r hr, List.foldl_append, List.foldl_cons, List.foldl_nil]
    show downStep m zn (downL m zn (l.take k)) r = _
    rw [← HEQ.out]
   have hglt : gl < W.heap.size := (HOW.out.lt gl rfl).2
   have HCD : Hid (∀ w', Below W.heap.size W w' → w'.cell? ⟨gl, k * 5 + 4, none⟩ = some (.string r.data)) := fun w' hb => cell_of_heap (hb.block gl hglt) hcd
   have hdn := hdr
   generalize hrd : r.data = dt at *
   clear hcd
   have hcd := HCD.out wr HDL.out.below
   go_wp2_with fail
   clear hcd
   have HW0 : Hid (∃ n, wr = wr.drewN n) := ⟨0, rfl⟩
   obtain ⟨wo, hwo⟩ : ∃ wo : World, wo = wr := ⟨_, rfl⟩
   rw [← hwo]
   have HDO : Hid (DL W wo ns' sv' (.slice a1 ns'.length c1) (.slice a2 sv'.length c2)) := by rw [hwo]; exact HDL.out
   have HWO : Hid (∃ n, wo = wo.drewN n) := ⟨0, rfl⟩
   clear HW0 HDL hwo
   go_loopw [12, 13] (fun ob j wi => ∃ (i : Nat) (o : Bool), ob = .bool o ∧ j = .int .i64 i ∧ i ≤ ns'.length ∧ Hid (o = ((ns'.take i).any fun n => sameB n dt)) ∧ Hid (∃ n, wi = wo.drewN n)) (fun _ j _ => ns'.length - (intOf j).toNat)
   case atStart => exact ⟨0, false, rfl, rfl, Nat.zero_le _, rfl, HWO.out⟩
   case round =>
    obtain ⟨i, o, rfl, rfl, hi, HA, HW⟩ := hrel
    have hbi : Below wo.heap.size wo wr := by
     obtain ⟨n, hn⟩ := HW.out
     rw [hn]
     exact below_drewN (Below.refl _ _) n
    have HDI := hide (HDO.out.next hbi)
    clear hbi
    have hcd := HCD.out wr HDI.out.below
    by_cases hlt : i < ns'.length
    ·obtain ⟨n0, hn0⟩ : ∃ n0, ns'[i]? = some n0 := ⟨_, List.getElem?_eq_getElem hlt⟩
     obtain ⟨g1, rfl, hcn⟩ := seen_at HDI.out.o1 hn0
     have hns := HSZ.out n0 (List.mem_of_getElem? hn0)
     have HTI : Hid ((ns'.take (i + 1)).any (fun n => sameB n dt) = ((ns'.take i).any (fun n => sameB n dt) || sameB n0 dt)) := by
      unfold Hid
      rw [take_snoc ns' i n0 hn0]
      simp
     clear hn0
     go_wp2_with fail
     go_region_held3 (fun w' => w'.cell? ⟨g1, i, none⟩ = some (.string n0) ∧ w'.cell? ⟨gl, k * 5 + 4, none⟩ = some (.string dt)) (first | (go_keep; done) | (rw [hw7]; exact ⟨hcn, hcd⟩)) (first | (go_at_call 90; refine (refSame_any n0 dt (by omega) wr.drew).mono ?_; rintro e w7 ⟨rfl, n7, hw7⟩))
     have HWN : Hid (∃ n, wr.drewN (1 + n7) = wo.drewN n) := by obtain ⟨n, hn⟩ := HW.out; exact ⟨n + (1 + n7), by rw [hn, World.drewN_drewN]⟩
     clear hcn hcd hw7
     generalize sameB n0 dt = sv0 at HTI ⊢
     generalize wr.drewN (1 + n7) = wn at HWN ⊢
     cases o
     ·go_wp2_with fail
      exact ⟨⟨i + 1, sv0, rfl, by go_num, by omega, by unfold Hid; rw [HTI.out, ← HA.out, Bool.false_or], HWN.out⟩, by simp [intOf]; omega⟩
     ·go_wp2_with fail
      exact ⟨⟨i + 1, true, rfl, by go_num, by omega, by unfold Hid; rw [HTI.out, ← HA.out, Bool.true_or], HWN.out⟩, by simp [intOf]; omega⟩
    ·have hia : i = ns'.length := by omega
     have HAB : Hid (o = (ns'.any fun n => sameB n dt)) := by
      unfold Hid
      rw [HA.out, hia, List.take_length]
     clear hia HA HW HDO
     cases o
     ·have HDN : Hid (downStep m zn (ns', sv') r = (ns' ++ [dt], sv' ++ glueL m zn dt)) := by
       unfold downStep Hid
       rw [if_neg (by rw [hrd, ← HAB.out]; simp), hrd]
      obtain ⟨j1, hj1, hj0, hj2, hj3⟩ := info_parts sI1
      have HO1 := hide (HDI.out.o1.alloc (.cells #[.string dt] 9))
      go_wp2_with (at_builtin; (refine wpList_append_grew _ rfl _ _ 39 rfl 9 j1 _ 1 16 uS1 hj1 hj0 hj2 hj3 rfl (by decide) (.slice a1 ns'.length c1) _ _ rfl ⟨wr.heap.size, 0, none⟩ 1 1 [Value.string dt] rfl rfl (fun u hu => by simp at hu; subst hu; rfl) HO1.out (cells_new wr #[Value.string dt] _) (by unfold maxLen; omega) (by omega) ?_; intro v3 w3 g3; obtain ⟨a3, c3, rfl⟩ := os_ g3.own; have HD3 := hide (HDI.out.pushN g3); clear hcd; have hcd := HCD.out w3 HD3.out.below; clear g3))
      have hb3 := HD3.out.below
      have hcm3 := (bc_ ((hb3.block _ (hl_ HXW.out)).trans HXW.out) 11).trans rfl
      have hg3 := ch_cells ((hb3.block _ (hl_ HGW.out)).trans HGW.out) HK4.out 2 (by decide)
      simp only [ChV.cells, List.getElem?_cons_zero, List.getElem?_cons_succ] at hg3
      have HD4 : Hid (Below w3.heap.size w3 w3.drew) := below_drewN (Below.refl _ w3) 1
      have HXD := hide (HMW.out.x.below (hb3.trans (HD4.out.mono hb3.size)))
      have HS4 : Hid (∀ w', Below w3.heap.size w3 w' → w'.cell? ⟨w.heap.size, 11, none⟩ = some (.slice ax m.ex.length cx) ∧ w'.cell? ⟨g, cs.length * 6 + 2, none⟩ = some (.string zn) ∧ w'.cell? ⟨gl, k * 5 + 4, none⟩ = some (.string dt)) := fun w' hb => by
       have hbw := HD3.out.below.trans (hb.mono HD3.out.below.size)
       refine ⟨(bc_ ((hbw.block _ (hl_ HXW.out)).trans HXW.out) 11).trans rfl, ?_, HCD.out w' hbw⟩
       have := ch_cells ((hbw.block _ (hl_ HGW.out)).trans HGW.out) HK4.out 2 (by decide)
       simpa only [ChV.cells, List.getElem?_cons_zero, List.getElem?_cons_succ] using this
      clear hb3
      go_region_held3 (fun w' => w'.cell? ⟨w.heap.size, 11, none⟩ = some (.slice ax m.ex.length cx) ∧ w'.cell? ⟨g, cs.length * 6 + 2, none⟩ = some (.string zn) ∧ w'.cell? ⟨gl, k * 5 + 4, none⟩ = some (.string dt)) (first | (go_keep; done) | exact hs4) (first | (go_at_call 134; refine (of_any w3.drew (.slice ax m.ex.length cx) m.ex zn dt 1 hxl (fun r hr => (HNM.out.x r hr).1) HXD.out).mono ?_; rintro e w4 ⟨a4, c4, rfl, HO4⟩; have hs4 := HS4.out w4 (HD4.out.trans (HO4.out.below.mono HD4.out.size))))
      have hb4 : Below w3.heap.size w3 w4 := HD4.out.trans (HO4.out.below.mono HD4.out.size)
      obtain ⟨l4, hl4⟩ : ∃ l4, l4 = m.ex.filter (ofB zn dt 1) := ⟨_, rfl⟩
      have hll4 : l4.length ≤ 65535 := by rw [hl4]; exact Nat.le_trans (List.length_filter_le _ _) hxl
      have HDX4 : Hid (∀ r ∈ l4, r.data.size ≤ 2097152) := fun r hr => by rw [hl4] at hr; have := hdx r (List.mem_filter.1 hr).1; omega
      have HGL : Hid (glueL m zn dt = addrs l4) := by rw [hl4]; rfl
      rw [← hl4] at HO4 ⊢
      have HD5 := hide (HD3.out.next hb4)
      have HL4 := hide (own_lies HO4.out.own (fun x hx => (rcells_ok l4 x hx).1) (by simp))
      clear hl4 hcm3 hg3 hcd hs4 HS4 HXD HD4 hb4 HO4 HD3
      go_wp2_with fail
      refine (addresses_any w4 (.slice a4 l4.length c4) l4 hll4 HDX4.out HL4.out).mono ?_
      rintro e w5 ⟨a5, c5, rfl, HO5⟩
      have HD6 := hide (HD5.out.next HO5.out.below)
      have hal : (addrs l4).length ≤ 65535 := by
       unfold addrs
       rw [List.length_map]
       exact Nat.le_trans (List.length_filter_le _ _) hll4
      generalize addrs l4 = as4 at HO5 HGL hal ⊢
      have hlw : (wordsV as4).length = as4.length := by simp [wordsV]
      have HL6 : Hid (Lies w5 1 (.slice a5 as4.length c5) (wordsV as4)) := own_lies (by
       have := HO5.out.own
       rw [← words_flatV] at this
       exact this) (fun x hx => (words_ok as4 x hx).1) hlw.symm
      obtain ⟨iw, hiw, hw0, hw1, hw2⟩ := info_parts wI0
      clear HO5
      go_wp2_with (at_builtin; (refine Go.Trawl.wpList_append_lies w5 rfl _ _ 55 rfl 54 iw _ 1 4 uWs hiw hw0 hw1 hw2 rfl (by decide) (.slice a2 sv'.length c2) sv'.length _ rfl (.slice a5 as4.length c5) (wordsV as4) rfl (words_ok _) HD6.out.o2 HL6.out (by rw [hlw]; unfold maxLen; omega) (by rw [hlw]; omega) ?_; intro v6 w6 g6; rw [hlw] at g6; obtain ⟨a6, c6, rfl⟩ := os_ g6.own; have HG6 := hide g6; clear g6))
      have e1 : (ns' ++ [dt]).length = ns'.length + 1 := by simp
      have e2 : (sv' ++ as4).length = sv'.length + as4.length := by simp
      have hD := HD6.out.pushS (xs := as4) HG6.out e2.symm (by rw [words_flatV]; simp [wV])
      refine ⟨⟨k + 1, ns' ++ [dt], sv' ++ as4, a3, c3, a6, c6, by rw [e1], by rw [e2], by go_num, by omega, by omega, by omega, ?_, ?_, ?_⟩, by simp [intOf]; omega⟩
      ·intro n hn
       rcases List.mem_append.1 hn with hn | hn
       ·exact HSZ.out n hn
       ·simp at hn
        subst hn
        exact hdn
      ·unfold Hid
       rw [HTK.out, HDN.out, HGL.out]
      ·unfold Hid
       rw [e1, e2]
       exact hD
     ·have HDN : Hid (downStep m zn (ns', sv') r = (ns', sv')) := by
       unfold downStep Hid
       rw [if_pos (by rw [hrd, ← HAB.out])]
      clear hcd
      go_wp2_with fail
      exact ⟨⟨k + 1, ns', sv', a1, c1, a2, c2, rfl, rfl, by go_num, by omega, by omega, by omega, HSZ.out, by unfold Hid; rw [HTK.out, HDN.out], HDI.out⟩, by simp [intOf]; omega⟩
  ·have hka : k = l.length := by omega
   have HEQ2 : Hid ((ns', sv') = downL m zn l) := by
    unfold Hid
    rw [HEQ.out, hka, List.take_length]
   have hbr := HDL.out.below
   have hR1 := HRW.out.keep hbr
   have hF1 := Fr.of_below (HBW.out.trans (hbr.mono HBW.out.size)) (RV.owns ⟨vR, vq, va, vu, vx, vK, vS, .slice (some ⟨g, 0, none⟩) (cs.length + 1) cap⟩ (cs ++ [⟨⟨nm, kd, zn, sv, sn, ns⟩, vs, vn⟩]) rb)
   have hZ1 := (hbr.block _ (hl_ HZW.out)).trans HZW.out
   have hgr := (hbr.block g (hl_ HGW.out)).trans HGW.out
   have hzs := HBW.out.size
   have hgl : g < w.heap.size := HLT.out g (.inl (.inr (.inr (.inr rfl))))
   have hsrv := hR1.srv ⟨⟨nm, kd, zn, sv, sn, ns⟩, vs, vn⟩ (by simp)
   have hcaps := hR1.caps ⟨⟨nm, kd, zn, sv, sn, ns⟩, vs, vn⟩ (by simp)
   have hold : ∀ k, vs.ownBlock = some k ∨ vn.ownBlock = some k → k < w.heap.size ∧ ¬ RV.writes ⟨vR, vq, va, vu, vx, vK, vS, .slice (some ⟨g, 0, none⟩) (cs.length + 1) cap⟩ rb k := fun k hk => by
    rcases hk with hk | hk
    ·exact ⟨HLT.out k (.inr ⟨vs, (rs_ _ _ _ _).2 (.inr (.inl rfl)), hk⟩), hR1.free vs ((rs_ _ _ _ _).2 (.inr (.inl rfl))) k hk⟩
    ·exact ⟨HLT.out k (.inr ⟨vn, (rs_ _ _ _ _).2 (.inr (.inr rfl)), hk⟩), hR1.free vn ((rs_ _ _ _ _).2 (.inr (.inr rfl))) k hk⟩
   have hwr : ∀ k, w.heap.size ≤ k → ¬ RV.writes ⟨vR, vq, va, vu, vx, vK, vS, .slice (some ⟨g, 0, none⟩) (cs.length + 1) cap⟩ rb k := fun k hk e => by have := HLT.out k (.inl e); omega
   have l1 : Lies wr 1 (.slice a1 ns'.length c1) (textsV ns') := own_lies (by rw [texts_flat]; exact HDL.out.o1) (fun x hx => by obtain ⟨y, _, rfl⟩ := List.mem_map.1 hx; rfl) (by simp [textsV])
   have l2 : Lies wr 1 (.slice a2 sv'.length c2) (wordsV sv') := own_lies (by rw [words_flatV]; exact HDL.out.o2) (fun x hx => (words_ok sv' x hx).1) (by simp [wordsV])
   have b1 : ∀ k, (Value.slice a1 ns'.length c1).ownBlock = some k → w.heap.size ≤ k ∧ k < wr.heap.size := fun k hk => ⟨Nat.le_trans hzs (HDL.out.n1 k hk), (HDL.out.o1.lt k hk).2⟩
   have b2 : ∀ k, (Value.slice a2 sv'.length c2).ownBlock = some k → w.heap.size ≤ k ∧ k < wr.heap.size := fun k hk => ⟨Nat.le_trans hzs (HDL.out.n2 k hk), (HDL.out.o2.lt k hk).2⟩
   have over : ∀ {wa : World} {v : Value} {es : List (List Value)} (j : Nat) (u : Value), Lies wa 1 v es → (∀ k, v.ownBlock = some k → k ≠ g) → Lies (wa.setCell ⟨g, cs.length * 6 + j, none⟩ u) 1 v es := fun j u hl hn => hl.keep (gs_ _ _ _ _).size (fun b hb hlt => Below.heap_setCell _ _ _ b (hn b hb))
   have sz : ∀ (wa : World) (j : Nat) (u : Value), (wa.setCell ⟨g, cs.length * 6 + j, none⟩ u).heap.size = wa.heap.size := fun wa j u => by simp [World.setCell]
   have og : ∀ k, vs.ownBlock = some k ∨ vn.ownBlock = some k → k ≠ g := fun k hk e => (hold k hk).2 (.inr (.inr (.inr (by rw [e]; rfl))))
   have hzr := hbr.size
   have t1 := hR1.top (c' := ⟨⟨nm, kd, zone, sv, sn, ns⟩, vs, vn⟩) rfl 2 (.string zone) (by decide) rfl hsrv.1 hsrv.2 (fun k hk => ⟨by have := (hold k hk).1; omega, (hold k hk).2⟩) hcaps
   have f1 := hF1.top (c' := ⟨⟨nm, kd, zone, sv, sn, ns⟩, vs, vn⟩) rfl 2 (.string zone) (fun k hk => by
    rcases hk with hk | hk
    ·exact .inl (.inr ⟨vs, (rs_ _ _ _ _).2 (.inr (.inl rfl)), hk⟩)
    ·exact .inl (.inr ⟨vn, (rs_ _ _ _ _).2 (.inr (.inr rfl)), hk⟩))
   have t2 := t1.top (c' := ⟨⟨nm, kd, zone, sv, 0, ns⟩, vs, vn⟩) rfl 4 (.int .i64 0) (by decide) rfl (over 2 _ hsrv.1 (fun k hk => og k (.inl hk))) (over 2 _ hsrv.2 (fun k hk => og k (.inr hk))) (fun k hk => ⟨by rw [sz]; have := (hold k hk).1; omega, (hold k hk).2⟩) hcaps
   have f2 := f1.top (c' := ⟨⟨nm, kd, zone, sv, 0, ns⟩, vs, vn⟩) rfl 4 (.int .i64 0) (fun k hk => by
    rcases hk with hk | hk
    ·exact .inl (.inr ⟨vs, (rs_ _ _ _ _).2 (.inr (.inl rfl)), hk⟩)
    ·exact .inl (.inr ⟨vn, (rs_ _ _ _ _).2 (.inr (.inr rfl)), hk⟩))
   have t3 := t2.top (c' := ⟨⟨nm, kd, zone, sv', 0, ns⟩, .slice a2 sv'.length c2, vn⟩) rfl 3 (.slice a2 sv'.length c2) (by decide) rfl (over 4 _ (over 2 _ l2 (fun k hk => by have := b2 k hk; omega)) (fun k hk => by have := b2 k hk; omega)) (over 4 _ (over 2 _ hsrv.2 (fun k hk => og k (.inr hk))) (fun k hk => og k (.inr hk))) (fun k hk => by
    rw [sz, sz]
    rcases hk with hk | hk
    ·exact ⟨(b2 k hk).2, hwr k (b2 k hk).1⟩
    ·exact ⟨by have := (hold k (.inr hk)).1; omega, (hold k (.inr hk)).2⟩) hcaps
   have f3 := f2.top (c' := ⟨⟨nm, kd, zone, sv', 0, ns⟩, .slice a2 sv'.length c2, vn⟩) rfl 3 (.slice a2 sv'.length c2) (fun k hk => by
    rcases hk with hk | hk
    ·exact .inr (b2 k hk).1
    ·exact .inl (.inr ⟨vn, (rs_ _ _ _ _).2 (.inr (.inr rfl)), hk⟩))
   have t4 := t3.top (c' := ⟨⟨nm, kd, zone, sv', 0, ns'⟩, .slice a2 sv'.length c2, .slice a1 ns'.length c1⟩) rfl 5 (.slice a1 ns'.length c1) (by decide) rfl (over 3 _ (over 4 _ (over 2 _ l2 (fun k hk => by have := b2 k hk; omega)) (fun k hk => by have := b2 k hk; omega)) (fun k hk => by have := b2 k hk; omega)) (over 3 _ (over 4 _ (over 2 _ l1 (fun k hk => by have := b1 k hk; omega)) (fun k hk => by have := b1 k hk; omega)) (fun k hk => by have := b1 k hk; omega)) (fun k hk => by
    rw [sz, sz, sz]
    rcases hk with hk | hk
    ·exact ⟨(b2 k hk).2, hwr k (b2 k hk).1⟩
    ·exact ⟨(b1 k hk).2, hwr k (b1 k hk).1⟩) (own_cap HDL.out.o1)
   have f4 := f3.top (c' := ⟨⟨nm, kd, zone, sv', 0, ns'⟩, .slice a2 sv'.length c2, .slice a1 ns'.length c1⟩) rfl 5 (.slice a1 ns'.length c1) (fun k hk => by
    rcases hk with hk | hk
    ·exact .inr (b2 k hk).1
    ·exact .inr (b1 k hk).1)
   have hZ4 : ((((wr.setCell ⟨g, cs.length * 6 + 2, none⟩ (.string zone)).setCell ⟨g, cs.length * 6 + 4, none⟩ (.int .i64 0)).setCell ⟨g, cs.length * 6 + 3, none⟩ (.slice a2 sv'.length c2)).setCell ⟨g, cs.length * 6 + 5, none⟩ (.slice a1 ns'.length c1)).heap[w.heap.size + 1]? = some (.cells #[.int .i64 0, .int .u32 0, .string ⟨#[]⟩] 111) := by
    have ne : w.heap.size + 1 ≠ g := by omega
    rw [Below.heap_setCell _ _ _ _ (show w.heap.size + 1 ≠ (⟨g, cs.length * 6 + 5, none⟩ : Addr).block from ne), Below.heap_setCell _ _ _ _ (show w.heap.size + 1 ≠ (⟨g, cs.length * 6 + 3, none⟩ : Addr).block from ne), Below.heap_setCell _ _ _ _ (show w.heap.size + 1 ≠ (⟨g, cs.length * 6 + 4, none⟩ : Addr).block from ne), Below.heap_setCell _ _ _ _ (show w.heap.size + 1 ≠ (⟨g, cs.length * 6 + 2, none⟩ : Addr).block from ne)]
    exact hZ1
   have HT4 := hide t4
   have HF4 := hide f4
   have HZ4 := hide hZ4
   have g2 := ch_cells hgr HK4.out 2 (by decide)
   have g3 := ch_cells hgr HK4.out 3 (by decide)
   have g4 := ch_cells hgr HK4.out 4 (by decide)
   have g5 := ch_cells hgr HK4.out 5 (by decide)
   simp only [ChV.cells, List.getElem?_cons_zero, List.getElem?_cons_succ] at g2 g3 g4 g5
   have hfz := fz_ hgr
   clear t1 t2 t3 t4 f1 f2 f3 f4 hZ4 hR1 hF1 hZ1 hgr hsrv hcaps hold hwr l1 l2 b1 b2 over sz og hbr HEQ
   have HDC : Hid (downC m ⟨nm, kd, zn, sv, sn, ns⟩ zone = ⟨nm, kd, zone, sv', 0, ns'⟩) := by
    have e := HEQ2.out
    rw [HL.out] at e
    unfold Hid downC
    dsimp only
    rw [← e]
   have HNO : Hid (¬ RV.owns ⟨vR, vq, va, vu, vx, vK, vS, .slice (some ⟨g, 0, none⟩) (cs.length + 1) cap⟩ (cs ++ [⟨⟨nm, kd, zone, sv', 0, ns'⟩, .slice a2 sv'.length c2, .slice a1 ns'.length c1⟩]) rb (w.heap.size + 1)) := fun e => by
    have hzw := hl_ HZW.out
    rcases e with e | ⟨v, hv, hk⟩
    ·have := HLT.out _ (.inl e); omega
    ·rcases (rs_ _ _ _ _).1 hv with hv | rfl | rfl
     ·have := HLT.out _ (.inr ⟨v, (rs_ _ _ _ _).2 (.inl hv), hk⟩); omega
     ·have := HDL.out.n2 _ hk; omega
     ·have := HDL.out.n1 _ hk; omega
   have HOK4 : Hid (StOk { st with l := cs.map ChV.ch ++ [⟨nm, kd, zone, sv', 0, ns'⟩] }) := by
    have hch := HRW.out.chs
    have ho := HOK.out.chs ⟨nm, kd, zn, sv, sn, ns⟩ (by rw [← hch]; simp)
    have hlen := HOK.out.len
    rw [← hch] at hlen
    simp only [List.length_map, List.length_append, List.length_singleton] at hlen
    refine HOK.out.withL _ (by simp only [List.length_map, List.length_append, List.length_singleton]; omega) (fun c hc => ?_)
    rcases List.mem_append.1 hc with hc | hc
    ·exact HOK.out.chs c (by rw [← hch, List.map_append]; exact List.mem_append_left _ hc)
    ·simp at hc
     subst hc
     exact ⟨ho.name, ho.kind0, ho.kind1, by show zone.size ≤ _; omega, by show sv'.length ≤ _; omega, Nat.zero_le _, by show ns'.length ≤ _; omega, fun n hn => by have := HSZ.out n hn; omega⟩
   by_cases h0 : sv' = []
   ·have hz : ((sv'.length : Int) == 0) = true := by subst h0; rfl
    have HSP : Hid (downP st (cs.map ChV.ch) ⟨nm, kd, zn, sv, sn, ns⟩ zone m = lookP { st with l := cs.map ChV.ch ++ [⟨nm, kd, zone, sv', 0, ns'⟩] } (⟨nm, kd, zone, sv', 0, ns'⟩ :: (cs.map ChV.ch).reverse)) := by
     unfold downP Hid
     rw [HDC.out, if_pos h0]
    clear h0
    obtain ⟨p, hp⟩ : ∃ p, p = lookP { st with l := cs.map ChV.ch ++ [⟨nm, kd, zone, sv', 0, ns'⟩] } (⟨nm, kd, zone, sv', 0, ns'⟩ :: (cs.map ChV.ch).reverse) := ⟨_, rfl⟩
    have HPP := hide hp
    clear hp
    go_wp2_with fail
    clear g2 g3 g4 g5 hfz
    refine ((goes_all rb cs.length).2 _ _ _ cs _ rfl HT4.out HOK4.out).mono ?_
    rintro e w10 ⟨he, H10⟩
    have he2 : e = .returned p.2 := by rw [he, HPP.out]
    subst he2
    clear he
    obtain ⟨k', t', s', hst⟩ : ∃ k t s, p.2 = stepV k t s := by rw [HPP.out]; exact lookP_step _ _
    rw [hst]
    obtain ⟨V', cs', h10, f10⟩ := H10.out
    have H11 : Hid (RefAt w10 rb p.1 V' cs') := by show RefAt _ _ _ _ _; rw [HPP.out]; exact h10
    have HF11 := hide (HF4.out.trans f10)
    have HZ11 := hide ((f10.block _ (hl_ HZ4.out) HNO.out).trans HZ4.out)
    have HNO11 : Hid (¬ V'.owns cs' rb (w.heap.size + 1)) := fun e => by
     rcases f10.new _ e with e | e
     ·exact HNO.out e
     ·have := hl_ HZ4.out; omega
    clear h10 f10 H10
    have HST := hide hst
    clear hst
    unfold stepV
    have hcz := bc_ HZ11.out
    have hfz := fz_ HZ11.out
    go_wp2_with fail
    clear hcz hfz
    refine bodyPost_ret (results_cell_row rfl _ _ (w.heap.size + 1) _ _ _ _ rfl (pb_ (.int .i64 k') (.int .u32 t') (.string s') HZ11.out) undSt rfl (by kernel_rfl)) rfl ?_
    have hG := pg_ w10 (w.heap.size + 1) (.int .i64 k') (.int .u32 t') (.string s')
    rw [HSP.out, ← HPP.out]
    exact ⟨by rw [HST.out]; rfl, V', cs', H11.out.aside hG HNO11.out, HF11.out.write hG (by omega)⟩
   ·have hz : ((sv'.length : Int) == 0) = false := by
     cases sv' with
     | nil => exact absurd rfl h0
     | cons y t => simp; omega
    have HSP : Hid (downP st (cs.map ChV.ch) ⟨nm, kd, zn, sv, sn, ns⟩ zone m = sendP { st with l := cs.map ChV.ch ++ [⟨nm, kd, zone, sv', 0, ns'⟩] } (cs.map ChV.ch) ⟨nm, kd, zone, sv', 0, ns'⟩) := by
     unfold downP Hid
     rw [HDC.out, if_neg h0]
    have HNE : Hid (sv' ≠ []) := h0
    clear h0
    obtain ⟨p, hp⟩ : ∃ p, p = sendP { st with l := cs.map ChV.ch ++ [⟨nm, kd, zone, sv', 0, ns'⟩] } (cs.map ChV.ch) ⟨nm, kd, zone, sv', 0, ns'⟩ := ⟨_, rfl⟩
    have HPP := hide hp
    clear hp
    go_wp2_with fail
    clear g2 g3 g4 g5 hfz
    refine (send_any _ rb _ _ cs ⟨⟨nm, kd, zone, sv', 0, ns'⟩, .slice a2 sv'.length c2, .slice a1 ns'.length c1⟩ HT4.out HOK4.out HNE.out).mono ?_
    rintro e w10 ⟨he, H10⟩
    have he2 : e = .returned p.2 := by rw [he, HPP.out]
    subst he2
    clear he
    obtain ⟨k', t', s', hst⟩ : ∃ k t s, p.2 = stepV k t s := by rw [HPP.out]; exact sendP_step _ _ _
    rw [hst]
    obtain ⟨V', cs', h10, f10⟩ := H10.out
    have H11 : Hid (RefAt w10 rb p.1 V' cs') := by show RefAt _ _ _ _ _; rw [HPP.out]; exact h10
    have HF11 := hide (HF4.out.trans f10)
    have HZ11 := hide ((f10.block _ (hl_ HZ4.out) HNO.out).trans HZ4.out)
    have HNO11 : Hid (¬ V'.owns cs' rb (w.heap.size + 1)) := fun e => by
     rcases f10.new _ e with e | e
     ·exact HNO.out e
     ·have := hl_ HZ4.out; omega
    clear h10 f10 H10
    have HST := hide hst
    clear hst
    unfold stepV
    have hcz := bc_ HZ11.out
    have hfz := fz_ HZ11.out
    go_wp2_with fail
    clear hcz hfz
    refine bodyPost_ret (results_cell_row rfl _ _ (w.heap.size + 1) _ _ _ _ rfl (pb_ (.int .i64 k') (.int .u32 t') (.string s') HZ11.out) undSt rfl (by kernel_rfl)) rfl ?_
    have hG := pg_ w10 (w.heap.size + 1) (.int .i64 k') (.int .u32 t') (.string s')
    rw [HSP.out, ← HPP.out]
    exact ⟨by rw [HST.out]; rfl, V', cs', H11.out.aside hG HNO11.out, HF11.out.write hG (by omega)⟩
end Go.Proofs.YtafoepfhepdcoaaGreat
