import Derived.Test.YtafoepfhepdcoaaGreatM21
import Derived.Test.YtafoepfhepdcoaaGreatM23
import Derived.Test.YtafoepfhepdcoaaGreatM24
import Derived.Test.YtafoepfhepdcoaaGreatM12
set_option maxRecDepth 100000
set_option maxHeartbeats 8000000
namespace Go.Proofs.YtafoepfhepdcoaaGreat
open Go.RowKit Go.Trawl
attribute [local go_sem] buildH0 buildH2 buildH3
def zMsg : Msg := ⟨0, false, 0, false, false, false, false, 0, [], [], [], []⟩
def unM (s : ByteArray) : Msg := (unpack s).getD zMsg
def unE (s : ByteArray) : Int := if (unpack s).isSome then 0 else 1
theorem zMsg_wf : WfM zMsg := ⟨by decide, by decide, by decide, by decide, by decide, by decide, by decide, by decide, by decide, by decide, (fun q hq => by cases hq), (fun r hr => by cases hr)⟩
theorem liesNil (w : World) (sz : Nat) : Lies w sz (.slice none 0 0) [] := ⟨none, 0, rfl, fun _ => rfl, .inl rfl⟩
theorem tUnpack2 (w : World) (b c : Nat) (s : ByteArray) (hsm : s.size ≤ 2097152) (hsc : s.size ≤ c) (hbl : b < w.heap.size) (hc : Bytes w b s) :
  Calls Tryz.prog 16 #[.slice (some ⟨b, 0, none⟩) s.size c] w fun e w' => ∃ (aq : Option Addr) (cq : Nat) (aa : Option Addr) (ca : Nat) (au : Option Addr) (cu : Nat) (ax : Option Addr) (cx : Nat),
   e = .returned (.tuple #[.agg (mc_ (unM s) (.slice aq (unM s).qs.length cq) (.slice aa (unM s).an.length ca) (.slice au (unM s).au.length cu) (.slice ax (unM s).ex.length cx)), .int .i64 (unE s)]) ∧
   Hid (Below w.heap.size w w' ∧ WfM (unM s) ∧ Rows4 (w.heap.size + 1) w' (unM s) (.slice aq (unM s).qs.length cq) (.slice aa (unM s).an.length ca) (.slice au (unM s).au.length cu) (.slice ax (unM s).ex.length cx)) := by
 cases hu : unpack s with
 | none =>
  have e1 : unM s = zMsg := by unfold unM; rw [hu]; rfl
  have e2 : unE s = 1 := by unfold unE; rw [hu]; rfl
  rw [e1, e2]
  refine (tUnpack_no w b c s hsm hsc hbl hc hu).mono ?_
  rintro e w' ⟨rfl, H⟩
  exact ⟨none, 0, none, 0, none, 0, none, 0, rfl, H.out, zMsg_wf, ⟨World.ownsRow_nil _ _ _ _, World.ownsRow_nil _ _ _ _, World.ownsRow_nil _ _ _ _, World.ownsRow_nil _ _ _ _, nf_, nf_, nf_, nf_, nf_, nf_, nf_, nf_, nf_, nf_⟩⟩
 | some m =>
  have e1 : unM s = m := by unfold unM; rw [hu]; rfl
  have e2 : unE s = 0 := by unfold unE; rw [hu]; rfl
  rw [e1, e2]
  refine (tUnpack_yes w b c s hsm hsc hbl hc m hu).mono ?_
  rintro e w' ⟨vq, va, vu, vx, rfl, H⟩
  obtain ⟨hb, hwf, hr⟩ := H.out
  obtain ⟨aq, cq, rfl⟩ := os_ hr.q
  obtain ⟨aa, ca, rfl⟩ := os_ hr.a
  obtain ⟨au, cu, rfl⟩ := os_ hr.u
  obtain ⟨ax, cx, rfl⟩ := os_ hr.x
  exact ⟨aq, cq, aa, ca, au, cu, ax, cx, rfl, hb, hwf, hr⟩
theorem rUnpack2 (w : World) (s : ByteArray) (hsm : s.size ≤ 2097152) :
  Calls Tryz.prog 84 #[.string s] w fun e w' => ∃ (aq : Option Addr) (cq : Nat) (aa : Option Addr) (ca : Nat) (au : Option Addr) (cu : Nat) (ax : Option Addr) (cx : Nat),
   e = .returned (.tuple #[.agg (mc_ (unM s) (.slice aq (unM s).qs.length cq) (.slice aa (unM s).an.length ca) (.slice au (unM s).au.length cu) (.slice ax (unM s).ex.length cx)), .int .i64 (unE s)]) ∧
   Hid (Below w.heap.size w w' ∧ MsgAt w' (unM s) (.slice aq (unM s).qs.length cq) (.slice aa (unM s).an.length ca) (.slice au (unM s).au.length cu) (.slice ax (unM s).ex.length cx) ∧ New4 w w' (.slice aq (unM s).qs.length cq) (.slice aa (unM s).an.length ca) (.slice au (unM s).au.length cu) (.slice ax (unM s).ex.length cx)) := by
 refine (rUnpack_any w s hsm).mono ?_
 intro e w' H
 obtain ⟨hb, hno, hyes⟩ := H.out
 cases hu : unpack s with
 | none =>
  have e1 : unM s = zMsg := by unfold unM; rw [hu]; rfl
  have e2 : unE s = 1 := by unfold unE; rw [hu]; rfl
  rw [e1, e2]
  exact ⟨none, 0, none, 0, none, 0, none, 0, hno hu, hb, ⟨liesNil _ _, liesNil _ _, liesNil _ _, liesNil _ _⟩, fun k hk => by rcases hk with hk | hk | hk | hk <;> cases hk⟩
 | some m =>
  have e1 : unM s = m := by unfold unM; rw [hu]; rfl
  have e2 : unE s = 0 := by unfold unE; rw [hu]; rfl
  rw [e1, e2]
  obtain ⟨vq, va, vu, vx, he, hat, hnw⟩ := hyes m hu
  have hat2 := hat
  obtain ⟨⟨aq, cq, rfl, _⟩, ⟨aa, ca, rfl, _⟩, ⟨au, cu, rfl, _⟩, ⟨ax, cx, rfl, _⟩⟩ := hat2
  rw [List.length_map, List.length_map, List.length_map, List.length_map] at he hat hnw
  exact ⟨aq, cq, aa, ca, au, cu, ax, cx, he, hb, hat, hnw⟩
theorem lent_bytes {w : World} {g : Nat} {s : ByteArray} (h : w.heap[g]? = some (.cells (lentC s 8).toArray 5)) : Bytes w g s := fun k hk => by
 rw [bc_ h k, List.getElem?_toArray, lentC_byte s 8 k hk]
theorem lent_own {w : World} {g : Nat} {s : ByteArray} (hs : s.size ≤ 2097152) (h : w.heap[g]? = some (.cells (lentC s 8).toArray 5)) : w.ownsRow 0 5 1 (newV g (s.size + 8)) (s.size + 8) (lentC s 8) := by
 have hl := lentC_length s 8 (Nat.le_refl _)
 refine ⟨by rw [hl]; omega, .inr ⟨g, s.size + 8, (lentC s 8).toArray, rfl, Nat.zero_le _, h, Nat.le_refl _, by unfold maxLen; omega, by rw [List.size_toArray, hl]; omega, ?_⟩⟩
 rw [List.take_of_length_le (by simp [hl])]
def OpBox (w : World) (N : Nat) (s : ByteArray) : Prop := ∃ cs t, w.heap[N]? = some (.cells cs t) ∧ cs[14]? = some (.string s)
theorem OpBox.cell {w : World} {N : Nat} {s : ByteArray} (h : OpBox w N s) : w.cell? ⟨N, 14, none⟩ = some (.string s) := by
 obtain ⟨cs, t, h1, h2⟩ := h
 rw [bc_ h1 14, h2]
theorem OpBox.lt {w : World} {N : Nat} {s : ByteArray} (h : OpBox w N s) : N < w.heap.size := by
 obtain ⟨cs, t, h1, h2⟩ := h
 exact hl_ h1
theorem OpBox.below {w w' : World} {N : Nat} {s : ByteArray} (h : OpBox w N s) (hb : Below w.heap.size w w') : OpBox w' N s := by
 have hl := h.lt
 obtain ⟨cs, t, h1, h2⟩ := h
 exact ⟨cs, t, (hb.block N hl).trans h1, h2⟩
theorem Rows4.below {B : Nat} {w w' : World} {m : Msg} {vq va vu vx : Value} (h : Rows4 B w m vq va vu vx) (hb : Below w.heap.size w w') : Rows4 B w' m vq va vu vx :=
 { h with q := own_below h.q hb, a := own_below h.a hb, u := own_below h.u hb, x := own_below h.x hb }
theorem Rows4.at {B : Nat} {w : World} {m : Msg} {vq va vu vx : Value} (h : Rows4 B w m vq va vu vx) : MsgAt w m vq va vu vx :=
 ⟨own_lies h.q (qcells_len _) (by simp), own_lies h.a (rcells_len _) (by simp), own_lies h.u (rcells_len _) (by simp), own_lies h.x (rcells_len _) (by simp)⟩
theorem box_row {w : World} {M : Nat} {m : Msg} {vq va vu vx : Value} (h : w.heap[M]? = some (.cells (mc_ m vq va vu vx) 30)) : w.ownsRow 0 30 12 (newV M 1) 1 (mc_ m vq va vu vx).toList :=
 ⟨rfl, .inr ⟨M, 1, _, rfl, Nat.zero_le _, h, Nat.le_refl _, by unfold maxLen; omega, rfl, List.take_of_length_le (Nat.le_refl _)⟩⟩
theorem row_cells {w : World} {M : Nat} {m : Msg} {vq va vu vx : Value} (h : w.ownsRow 0 30 12 (newV M 1) 1 (mc_ m vq va vu vx).toList) : w.cell? ⟨M, 8, none⟩ = some vq ∧ w.cell? ⟨M, 9, none⟩ = some va ∧ w.cell? ⟨M, 10, none⟩ = some vu ∧ w.cell? ⟨M, 11, none⟩ = some vx := by
 have hc := fun j u hj => h.cells (g := M) rfl j u hj
 have e : ∀ j, 0 < j → (⟨M, 0, none⟩ : Addr).add j = ⟨M, j, none⟩ := fun j hj => by unfold Addr.add; rw [if_neg (by omega)]; simp
 exact ⟨by rw [← e 8 (by decide)]; exact hc 8 _ rfl, by rw [← e 9 (by decide)]; exact hc 9 _ rfl, by rw [← e 10 (by decide)]; exact hc 10 _ rfl, by rw [← e 11 (by decide)]; exact hc 11 _ rfl⟩
theorem free2 (w : World) (B ws : Nat) (U : Nat → Prop) (vps : Value) (hs : List Nat) (vh : Value) (o : OpV) (hk : o.kind = 2) (hl : hs.length ≤ 99999960) (hst : St B U w ws vps hs vh) (ho : OpAt w o) :
  Calls Tryz.prog 50 #[ptrV ws, .agg o.arr] w fun e w' => e = .returned (.bool true) ∧ Below B w w' ∧ ∃ U' hs' vh', St B U' w' ws vps hs' vh' ∧ hs'.length = hs.length + 20 ∧ Went w w' ws (fun _ => False) U U' vh vh' := by
 have HST := hide hst
 have HO := hide ho
 have hos := ho.s
 clear hst ho
 unfold ptrV OpV.arr
 rw [hk]
 go_enter Tryz.func50, Tryz.ntmps50
 go_wp2_with fail
 generalize hW1 : w.alloc _ = W1
 have HB1 : Hid (Below w.heap.size w W1) := by rw [← hW1]; exact (Below.refl _ _).alloc (Nat.le_refl _) _
 have HOB1 : Hid (OpBox W1 w.heap.size o.s) := by rw [← hW1]; exact ⟨_, _, hn_ _ _, rfl⟩
 clear hW1
 have hz1 := HOB1.out.lt
 refine (lent_any W1 o.s hos).mono ?_
 rintro e w2 ⟨rfl, H2⟩
 have HL2 := hide H2.out.1
 have HB12 := hide H2.out.2
 have HOB2 := hide (HOB1.out.below H2.out.2)
 have hz2 : W1.heap.size < w2.heap.size := hl_ H2.out.1
 clear H2
 generalize hg : W1.heap.size = g at hz1 hz2 HL2 HB12 ⊢
 have HB2 : Hid (Below w.heap.size w w2) := HB1.out.trans (HB12.out.mono (by omega))
 clear HB12 hg
 have hcs2 := HOB2.out.cell
 simp only [newV]
 go_wp2_with fail
 refine (tUnpack2 w2 g (o.s.size + 8) o.s hos (by omega) hz2 (lent_bytes HL2.out)).mono ?_
 rintro e w3 ⟨aq, cq, aa, ca, au, cu, ax, cx, rfl, H3⟩
 obtain ⟨hb3, hwf3, hr3⟩ := H3.out
 have HB3 := hide (HB2.out.trans (hb3.mono HB2.out.size))
 have HL3 := hide ((hb3.block g hz2).trans HL2.out)
 have HOB3 := hide (HOB2.out.below hb3)
 have HWF := hide hwf3
 have HR3 := hide hr3
 have LQ := hide (fun k hk => (⟨hr3.nq k hk, (hr3.q.lt k hk).2⟩ : w2.heap.size + 1 ≤ k ∧ k < w3.heap.size))
 have LA := hide (fun k hk => (⟨hr3.na k hk, (hr3.a.lt k hk).2⟩ : w2.heap.size + 1 ≤ k ∧ k < w3.heap.size))
 have LU := hide (fun k hk => (⟨hr3.nu k hk, (hr3.u.lt k hk).2⟩ : w2.heap.size + 1 ≤ k ∧ k < w3.heap.size))
 have LX := hide (fun k hk => (⟨hr3.nx k hk, (hr3.x.lt k hk).2⟩ : w2.heap.size + 1 ≤ k ∧ k < w3.heap.size))
 have hz3 := hb3.size
 clear H3 hb3 hwf3 hr3 hcs2
 have REF := hide (fun W => rUnpack2 W o.s hos)
 generalize unM o.s = m at HWF HR3 REF LQ LA LU LX ⊢
 generalize unE o.s = er at REF ⊢
 have hcs3 : ∀ ob, (w3.alloc ob).cell? ⟨w.heap.size, 14, none⟩ = some (.string o.s) := fun ob => (HOB3.out.below ((Below.refl _ _).alloc (Nat.le_refl _) ob)).cell
 simp only [mc_]
 go_wp2_with fail
 clear hcs3
 generalize hW3 : w3.alloc _ = W3
 have hB33 : Below w3.heap.size w3 W3 := by rw [← hW3]; exact (Below.refl _ _).alloc (Nat.le_refl _) _
 have HM3 : Hid (W3.heap[w3.heap.size]? = some (.cells (mc_ m (.slice aq m.qs.length cq) (.slice aa m.an.length ca) (.slice au m.au.length cu) (.slice ax m.ex.length cx)) 30)) := by rw [← hW3]; exact hn_ _ _
 have HB3' := hide (HB3.out.trans (hB33.mono (by have := HB3.out.size; omega)))
 have HL3' := hide ((hB33.block g (by omega)).trans HL3.out)
 have HOB3' := hide (HOB3.out.below hB33)
 have HR3' := hide (HR3.out.below hB33)
 have hz33 : w3.heap.size < W3.heap.size := hl_ HM3.out
 generalize hMM : w3.heap.size = M at hz33 hz3 HM3 LQ LA LU LX ⊢
 clear hW3 hB33 HB3 HL3 HOB3 HR3 hMM
 refine (REF.out W3).mono ?_
 rintro e w4 ⟨aq2, cq2, aa2, ca2, au2, cu2, ax2, cx2, rfl, H4⟩
 obtain ⟨hb4, hat4, -⟩ := H4.out
 have HB4 := hide (HB3'.out.trans (hb4.mono HB3'.out.size))
 have HL4 := hide ((hb4.block g (by omega)).trans HL3'.out)
 have HOB4 := hide (HOB3'.out.below hb4)
 have HR4 := hide (HR3'.out.below hb4)
 have HM4 := hide ((hb4.block M hz33).trans HM3.out)
 have HAT4 := hide hat4
 have hz4 := hb4.size
 clear H4 hb4 hat4 REF HB3' HL3' HOB3' HR3' HM3
 have hcs4 : ∀ ob, (w4.alloc ob).cell? ⟨w.heap.size, 14, none⟩ = some (.string o.s) := fun ob => (HOB4.out.below ((Below.refl _ _).alloc (Nat.le_refl _) ob)).cell
 simp only [mc_]
 go_wp2_with fail
 clear hcs4
 generalize hW4 : w4.alloc _ = W4
 have hB44 : Below w4.heap.size w4 W4 := by rw [← hW4]; exact (Below.refl _ _).alloc (Nat.le_refl _) _
 have HN4 : Hid (W4.heap[w4.heap.size]? = some (.cells (mc_ m (.slice aq2 m.qs.length cq2) (.slice aa2 m.an.length ca2) (.slice au2 m.au.length cu2) (.slice ax2 m.ex.length cx2)) 30)) := by rw [← hW4]; exact hn_ _ _
 have HB5 := hide (HB4.out.trans (hB44.mono (by have := HB4.out.size; omega)))
 have HL5 := hide ((hB44.block g (by omega)).trans HL4.out)
 have HR5 := hide (HR4.out.below hB44)
 have HM5 := hide ((hB44.block M (by omega)).trans HM4.out)
 have HAT5 := hide (HAT4.out.below hB44)
 have hz44 : w4.heap.size < W4.heap.size := hl_ HN4.out
 clear hW4 hB44 HB4 HL4 HOB4 HR4 HM4 HAT4
 refine (still_any W4 g o.s hos HL5.out).mono ?_
 rintro e w5 ⟨rfl, n5, rfl⟩
 have hcM := bc_ HM5.out
 have hcN := bc_ HN4.out
 simp only [mc_] at hcM hcN
 go_wp2_with fail
 have hB5 := below_drewN (Below.refl W4.heap.size W4) n5
 refine (same_any (W4.drewN n5) m (.slice aq m.qs.length cq) (.slice aa m.an.length ca) (.slice au m.au.length cu) (.slice ax m.ex.length cx) _ _ _ _ HWF.out (HR5.out.at.below hB5) (HAT5.out.below hB5)).mono ?_
 rintro e w6 ⟨rfl, hb6'⟩
 have hb6 : Below W4.heap.size W4 w6 := hB5.trans hb6'.out
 have HB6 := hide (HB5.out.trans (hb6.mono HB5.out.size))
 have HL6 := hide (lent_own hos ((hb6.block g (by omega)).trans HL5.out))
 have HR6 := hide (HR5.out.below hb6)
 have M6 : Hid (w6.ownsRow 0 30 12 (newV M 1) 1 (mc_ m (.slice aq m.qs.length cq) (.slice aa m.an.length ca) (.slice au m.au.length cu) (.slice ax m.ex.length cx)).toList) := box_row ((hb6.block M (by omega)).trans HM5.out)
 have hz6 := hb6.size
 clear hb6 hb6' hB5 hcM hcN HB5 HL5 HR5 HM5 HAT5
 have hnq : m.qs.length ≤ 2097152 := HWF.out.nq
 have hna : m.an.length ≤ 2097152 := HWF.out.na
 have hnu : m.au.length ≤ 2097152 := HWF.out.nu
 have hnx : m.ex.length ≤ 2097152 := HWF.out.nx
 have hsw : B ≤ w.heap.size := HST.out.sz
 have HU : Hid (∀ k, w.heap.size ≤ k → ¬ U k) := fun k hk hu => by have := HST.out.lt k hu; omega
 go_wp2_with fail
 refine (keepBox w6 B ws U vps hs _ _ _ _ vh (o.s.size + 8) 0 0 0 (by omega) (by omega) (by omega) (by omega) (by omega) (HST.out.below HB6.out) (.inl ⟨rfl, rfl, rfl⟩) ⟨_, HL6.out⟩ (own_nilx _ _ _) (own_nilx _ _ _) (own_nilx _ _ _) (new_free ⟨by omega, HU.out _ (by omega)⟩) nf_ nf_ nf_).mono ?_
 rintro e y1 ⟨rfl, U1, hs1, vh1, K1⟩
 have H1 := hide K1
 clear K1
 have M1 : Hid (y1.ownsRow 0 30 12 (newV M 1) 1 (mc_ m (.slice aq m.qs.length cq) (.slice aa m.an.length ca) (.slice au m.au.length cu) (.slice ax m.ex.length cx)).toList) := H1.out.own _ _ _ _ _ M6.out (by decide) (by decide) (new_free ⟨new_ne (by omega), nb_ _, nb_ _, nb_ _⟩)
 have Q1 : Hid (y1.ownsRow 0 41 3 (.slice aq m.qs.length cq) m.qs.length ((m.qs.map Qn.cells).flatten)) := H1.out.own _ _ _ _ _ HR6.out.q (by decide) (by decide) (fun k hk => ⟨new_ne (by have := HR6.out.nq k hk; omega), nb_ _, nb_ _, nb_ _⟩)
 have A1 : Hid (y1.ownsRow 0 69 5 (.slice aa m.an.length ca) m.an.length ((m.an.map Rc.cells).flatten)) := H1.out.own _ _ _ _ _ HR6.out.a (by decide) (by decide) (fun k hk => ⟨new_ne (by have := HR6.out.na k hk; omega), nb_ _, nb_ _, nb_ _⟩)
 have E1 : Hid (y1.ownsRow 0 69 5 (.slice au m.au.length cu) m.au.length ((m.au.map Rc.cells).flatten)) := H1.out.own _ _ _ _ _ HR6.out.u (by decide) (by decide) (fun k hk => ⟨new_ne (by have := HR6.out.nu k hk; omega), nb_ _, nb_ _, nb_ _⟩)
 have X1 : Hid (y1.ownsRow 0 69 5 (.slice ax m.ex.length cx) m.ex.length ((m.ex.map Rc.cells).flatten)) := H1.out.own _ _ _ _ _ HR6.out.x (by decide) (by decide) (fun k hk => ⟨new_ne (by have := HR6.out.nx k hk; omega), nb_ _, nb_ _, nb_ _⟩)
 have N1 : Hid (∀ k, g < k → k < w6.heap.size → ¬ U1 k) := fun k h1 h2 => H1.out.not (HU.out k (by omega)) (new_ne (by omega)) (nb_ _) (nb_ _) (nb_ _) (by omega)
 have z1 : w6.heap.size ≤ y1.heap.size := H1.out.below.size
 have l1 : hs1.length = hs.length + 4 := H1.out.len
 obtain ⟨c8, c9, c10, c11⟩ := row_cells M1.out
 clear c9 c10 c11
 have FA1 : Hid (∀ k, (Value.slice aa m.an.length ca).ownBlock = some k → ¬ U1 k) := fun k hk => N1.out k (by have := LA.out k hk; omega) (by have := LA.out k hk; omega)
 have FU1 : Hid (∀ k, (Value.slice au m.au.length cu).ownBlock = some k → ¬ U1 k) := fun k hk => N1.out k (by have := LU.out k hk; omega) (by have := LU.out k hk; omega)
 have FX1 : Hid (∀ k, (Value.slice ax m.ex.length cx).ownBlock = some k → ¬ U1 k) := fun k hk => N1.out k (by have := LX.out k hk; omega) (by have := LX.out k hk; omega)
 go_wp2_with fail
 clear c8
 refine (keepBox y1 B ws U1 vps hs1 _ _ _ _ vh1 0 0 m.qs.length 0 (by omega) (by omega) (by omega) (by omega) (by omega) H1.out.st (.inr (.inr (.inl ⟨rfl, rfl, rfl⟩))) (own_nilx _ _ _) (own_nilx _ _ _) ⟨_, Q1.out⟩ (own_nilx _ _ _) nf_ nf_ (fun k hk => ⟨by have := LQ.out k hk; omega, N1.out k (by have := LQ.out k hk; omega) (by have := LQ.out k hk; omega)⟩) nf_).mono ?_
 rintro e y2 ⟨rfl, U2, hs2, vh2, K2⟩
 have H2 := hide K2
 clear K2
 have M2 : Hid (y2.ownsRow 0 30 12 (newV M 1) 1 (mc_ m (.slice aq m.qs.length cq) (.slice aa m.an.length ca) (.slice au m.au.length cu) (.slice ax m.ex.length cx)).toList) := H2.out.own _ _ _ _ _ M1.out (by decide) (by decide) (new_free ⟨nb_ _, nb_ _, (fun e => by have := LQ.out _ e; omega), nb_ _⟩)
 have A2 : Hid (y2.ownsRow 0 69 5 (.slice aa m.an.length ca) m.an.length ((m.an.map Rc.cells).flatten)) := H2.out.own _ _ _ _ _ A1.out (by decide) (by decide) (fun k hk => ⟨nb_ _, nb_ _, (fun e => HR6.out.qa k e hk), nb_ _⟩)
 have E2 : Hid (y2.ownsRow 0 69 5 (.slice au m.au.length cu) m.au.length ((m.au.map Rc.cells).flatten)) := H2.out.own _ _ _ _ _ E1.out (by decide) (by decide) (fun k hk => ⟨nb_ _, nb_ _, (fun e => HR6.out.qu k e hk), nb_ _⟩)
 have X2 : Hid (y2.ownsRow 0 69 5 (.slice ax m.ex.length cx) m.ex.length ((m.ex.map Rc.cells).flatten)) := H2.out.own _ _ _ _ _ X1.out (by decide) (by decide) (fun k hk => ⟨nb_ _, nb_ _, (fun e => HR6.out.qx k e hk), nb_ _⟩)
 have z2 : y1.heap.size ≤ y2.heap.size := H2.out.below.size
 have l2 : hs2.length = hs1.length + 4 := H2.out.len
 have FA2 : Hid (∀ k, (Value.slice aa m.an.length ca).ownBlock = some k → ¬ U2 k) := fun k hk => H2.out.not (FA1.out k hk) (nb_ _) (nb_ _) (fun e => HR6.out.qa k e hk) (nb_ _) (by have := LA.out k hk; omega)
 have FU2 : Hid (∀ k, (Value.slice au m.au.length cu).ownBlock = some k → ¬ U2 k) := fun k hk => H2.out.not (FU1.out k hk) (nb_ _) (nb_ _) (fun e => HR6.out.qu k e hk) (nb_ _) (by have := LU.out k hk; omega)
 have FX2 : Hid (∀ k, (Value.slice ax m.ex.length cx).ownBlock = some k → ¬ U2 k) := fun k hk => H2.out.not (FX1.out k hk) (nb_ _) (nb_ _) (fun e => HR6.out.qx k e hk) (nb_ _) (by have := LX.out k hk; omega)
 obtain ⟨c8, c9, c10, c11⟩ := row_cells M2.out
 clear c8 c10 c11
 go_wp2_with fail
 clear c9
 refine (keepBox y2 B ws U2 vps hs2 _ _ _ _ vh2 0 0 0 m.an.length (by omega) (by omega) (by omega) (by omega) (by omega) H2.out.st (.inr (.inr (.inr ⟨rfl, rfl, rfl⟩))) (own_nilx _ _ _) (own_nilx _ _ _) (own_nilx _ _ _) ⟨_, A2.out⟩ nf_ nf_ nf_ (fun k hk => ⟨by have := LA.out k hk; omega, FA2.out k hk⟩)).mono ?_
 rintro e y3 ⟨rfl, U3, hs3, vh3, K3⟩
 have H3 := hide K3
 clear K3
 have M3 : Hid (y3.ownsRow 0 30 12 (newV M 1) 1 (mc_ m (.slice aq m.qs.length cq) (.slice aa m.an.length ca) (.slice au m.au.length cu) (.slice ax m.ex.length cx)).toList) := H3.out.own _ _ _ _ _ M2.out (by decide) (by decide) (new_free ⟨nb_ _, nb_ _, nb_ _, (fun e => by have := LA.out _ e; omega)⟩)
 have E3 : Hid (y3.ownsRow 0 69 5 (.slice au m.au.length cu) m.au.length ((m.au.map Rc.cells).flatten)) := H3.out.own _ _ _ _ _ E2.out (by decide) (by decide) (fun k hk => ⟨nb_ _, nb_ _, nb_ _, (fun e => HR6.out.au k e hk)⟩)
 have X3 : Hid (y3.ownsRow 0 69 5 (.slice ax m.ex.length cx) m.ex.length ((m.ex.map Rc.cells).flatten)) := H3.out.own _ _ _ _ _ X2.out (by decide) (by decide) (fun k hk => ⟨nb_ _, nb_ _, nb_ _, (fun e => HR6.out.ax k e hk)⟩)
 have z3 : y2.heap.size ≤ y3.heap.size := H3.out.below.size
 have l3 : hs3.length = hs2.length + 4 := H3.out.len
 have FU3 : Hid (∀ k, (Value.slice au m.au.length cu).ownBlock = some k → ¬ U3 k) := fun k hk => H3.out.not (FU2.out k hk) (nb_ _) (nb_ _) (nb_ _) (fun e => HR6.out.au k e hk) (by have := LU.out k hk; omega)
 have FX3 : Hid (∀ k, (Value.slice ax m.ex.length cx).ownBlock = some k → ¬ U3 k) := fun k hk => H3.out.not (FX2.out k hk) (nb_ _) (nb_ _) (nb_ _) (fun e => HR6.out.ax k e hk) (by have := LX.out k hk; omega)
 obtain ⟨c8, c9, c10, c11⟩ := row_cells M3.out
 clear c8 c9 c11
 go_wp2_with fail
 clear c10
 refine (keepBox y3 B ws U3 vps hs3 _ _ _ _ vh3 0 0 0 m.au.length (by omega) (by omega) (by omega) (by omega) (by omega) H3.out.st (.inr (.inr (.inr ⟨rfl, rfl, rfl⟩))) (own_nilx _ _ _) (own_nilx _ _ _) (own_nilx _ _ _) ⟨_, E3.out⟩ nf_ nf_ nf_ (fun k hk => ⟨by have := LU.out k hk; omega, FU3.out k hk⟩)).mono ?_
 rintro e y4 ⟨rfl, U4, hs4, vh4, K4⟩
 have H4 := hide K4
 clear K4
 have M4 : Hid (y4.ownsRow 0 30 12 (newV M 1) 1 (mc_ m (.slice aq m.qs.length cq) (.slice aa m.an.length ca) (.slice au m.au.length cu) (.slice ax m.ex.length cx)).toList) := H4.out.own _ _ _ _ _ M3.out (by decide) (by decide) (new_free ⟨nb_ _, nb_ _, nb_ _, (fun e => by have := LU.out _ e; omega)⟩)
 have X4 : Hid (y4.ownsRow 0 69 5 (.slice ax m.ex.length cx) m.ex.length ((m.ex.map Rc.cells).flatten)) := H4.out.own _ _ _ _ _ X3.out (by decide) (by decide) (fun k hk => ⟨nb_ _, nb_ _, nb_ _, (fun e => HR6.out.ux k e hk)⟩)
 have z4 : y3.heap.size ≤ y4.heap.size := H4.out.below.size
 have l4 : hs4.length = hs3.length + 4 := H4.out.len
 have FX4 : Hid (∀ k, (Value.slice ax m.ex.length cx).ownBlock = some k → ¬ U4 k) := fun k hk => H4.out.not (FX3.out k hk) (nb_ _) (nb_ _) (nb_ _) (fun e => HR6.out.ux k e hk) (by have := LX.out k hk; omega)
 obtain ⟨c8, c9, c10, c11⟩ := row_cells M4.out
 clear c8 c9 c10
 go_wp2_with fail
 clear c11
 refine (keepBox y4 B ws U4 vps hs4 _ _ _ _ vh4 0 0 0 m.ex.length (by omega) (by omega) (by omega) (by omega) (by omega) H4.out.st (.inr (.inr (.inr ⟨rfl, rfl, rfl⟩))) (own_nilx _ _ _) (own_nilx _ _ _) (own_nilx _ _ _) ⟨_, X4.out⟩ nf_ nf_ nf_ (fun k hk => ⟨by have := LX.out k hk; omega, FX4.out k hk⟩)).mono ?_
 rintro e y5 ⟨rfl, U5, hs5, vh5, K5⟩
 have H5 := hide K5
 clear K5
 have z5 : y4.heap.size ≤ y5.heap.size := H5.out.below.size
 have l5 : hs5.length = hs4.length + 4 := H5.out.len
 go_wp2_with fail
 go_ret
 exact ⟨rfl, (HB6.out.mono hsw).trans (H1.out.below.trans (H2.out.below.trans (H3.out.below.trans (H4.out.below.trans H5.out.below)))), U5, hs5, vh5, H5.out.st, by omega, (((((Went.of_below HB6.out).keep H1.out (new_free (by omega)) nf_ nf_ nf_).keep H2.out nf_ nf_ (fun k hk => by have := LQ.out k hk; omega) nf_).keep H3.out nf_ nf_ nf_ (fun k hk => by have := LA.out k hk; omega)).keep H4.out nf_ nf_ nf_ (fun k hk => by have := LU.out k hk; omega)).keep H5.out nf_ nf_ nf_ (fun k hk => by have := LX.out k hk; omega)⟩
end Go.Proofs.YtafoepfhepdcoaaGreat
namespace Go.Proofs.YtafoepfhepdcoaaGreat
open Go.RowKit Go.Trawl
def confOk (b d c t : Int) (rs : List Int) : Prop := (1 ≤ b ∧ b ≤ 200) ∧ (0 ≤ d ∧ d ≤ 6) ∧ (0 ≤ c ∧ c ≤ 10) ∧ (1 ≤ t ∧ t ≤ 8) ∧ 1 ≤ rs.length ∧ rs.length ≤ 8
instance (b d c t : Int) (rs : List Int) : Decidable (confOk b d c t rs) := by unfold confOk; infer_instance
def newSt (b d c t : Int) (rs : List Int) : RSt := ⟨b, d, c, t, rs, 0, false, zMsg, [], [], [], 0, 0, ⟨#[]⟩⟩
theorem newSt_ok {b d c t : Int} {rs : List Int} (h : confOk b d c t rs) : StOk (newSt b d c t rs) :=
 ⟨h.1.1, h.1.2, h.2.1.1, h.2.1.2, h.2.2.1.1, h.2.2.1.2, h.2.2.2.1.1, h.2.2.2.1.2, h.2.2.2.2.1, h.2.2.2.2.2, by simp [newSt], by simp [newSt], zMsg_wf, by simp [newSt], by simp [newSt], by simp [newSt], by simp [newSt], by simp [newSt], by simp [newSt], by simp [newSt]⟩
def refM (id code : Int) (qs : List Qn) : Msg := ⟨id, false, 0, false, false, false, false, code, qs, [], [], []⟩
def beginSt (st : RSt) (m : Msg) (q : Qn) : RSt := { st with busy := true, asked := m, kept := [], seen := [q.name], l := [freshCh st q.name q.kind], spent := 0 }
def askS (st : RSt) (s : ByteArray) : RSt × Value × Int :=
 if st.busy then (st, stepV 0 0 ⟨#[]⟩, 3)
 else if s.size < 12 then (st, stepV 2 0 ⟨#[]⟩, 0)
 else match unpack s with
  | none => (st, stepV 2 0 (str (replyL (refM (n2 s 0) 1 []))), 0)
  | some m =>
   if m.resp then (st, stepV 2 0 (str (replyL (refM (n2 s 0) 1 []))), 0)
   else match m.qs with
    | [q] => if m.op ≠ 0 ∨ q.cls ≠ 1 then (st, stepV 2 0 (str (replyL (refM m.id 4 [q]))), 0)
     else ((askP (beginSt st m q) [] (freshCh st q.name q.kind)).1, (askP (beginSt st m q) [] (freshCh st q.name q.kind)).2, 0)
    | _ => (st, stepV 2 0 (str (replyL (refM m.id 4 []))), 0)
theorem par_bind {α β : Type} {p : Par α} {f : α → Par β} {a : Nat} {r : β × Nat} (h : p.bind f a = some r) : ∃ q, p a = some q ∧ f q.1 q.2 = some r := by
 unfold Par.bind at h
 cases hp : p a with
 | none => rw [hp] at h; cases h
 | some q => rw [hp] at h; exact ⟨q, rfl, h⟩
theorem unpack_id {s : ByteArray} {m : Msg} (h : unpack s = some m) : m.id = n2 s 0 := by
 unfold unpack at h
 split at h
 ·cases hp : pM s 0 with
  | none => simp [hp] at h
  | some r =>
   simp only [hp, Option.bind_some] at h
   split at h
   ·cases h
    unfold pM at hp
    obtain ⟨q, h1, h2⟩ := par_bind hp
    have e : q.1 = (n2 s 0 : Int) := by
     unfold num2 at h1
     split at h1
     ·cases h1; rfl
     ·cases h1
    have key : ∀ id : Int, Always _ fun m : Msg => m.id = id := fun id =>
     (Always.any (num2 s)).bind fun f _ => (Always.any (num2 s)).bind fun q _ => (Always.any (num2 s)).bind fun a _ => (Always.any (num2 s)).bind fun u _ => (Always.any (num2 s)).bind fun x _ =>
      (Always.any ((pQ s).many q.toNat)).bind fun qs _ => (Always.any ((pR s).many a.toNat)).bind fun an _ => (Always.any ((pR s).many u.toNat)).bind fun au _ => (Always.any ((pR s).many x.toNat)).bind fun ex _ => Always.pure (x := flagged id f qs an au ex) rfl
    rw [← e]
    exact key q.1 q.2 r h2
   ·cases h
 ·cases h
inductive Ph where
 | idle
 | send
 | fail
 | failAll
 | seek
 | finish
structure QSt where
 b : Int
 d : Int
 c : Int
 t : Int
 roots : List Int
 id : Int
 ph : Ph
 ch : List Ch
 sent : Nat
 reply : Msg
abbrev QOut := Int × Int × List UInt8
def noOut : QOut := (0, 0, [])
def newQ (n : ByteArray) (k : Int) : Ch := ⟨n, k, ⟨#[]⟩, [], 0, []⟩
def startQ (s : QSt) (c : Ch) (r : List Ch) : QSt := { s with ph := .send, ch := { c with zone := rootN, servers := s.roots } :: r }
def settleQ (s : QSt) (code : Int) (l : List Rc) : QSt := { s with ph := .finish, reply := { s.reply with code := code, an := if code = 2 then [] else s.reply.an ++ l } }
def endQ (s : QSt) (code : Int) (l : List Rc) : QSt :=
 match s.ch with
 | _ :: a :: r => { s with ph := .seek, ch := { a with servers := addrs l } :: r }
 | _ => settleQ s code l
def sendQ (s : QSt) : QSt × QOut :=
 match s.ch with
 | [] => (s, noOut)
 | c :: r =>
  if (c.sent : Int) = s.t then ({ s with ph := .fail }, noOut)
  else if (s.sent : Int) = s.b then ({ s with ph := .failAll }, noOut)
  else ({ s with ch := { c with sent := c.sent + 1 } :: r, sent := s.sent + 1, id := nextId s.id }, (1, toOf c, packL (askM (nextId s.id) c)))
def seekQ (s : QSt) : QSt :=
 match s.ch with
 | [] => s
 | c :: r =>
  if c.servers ≠ [] then { s with ph := .send, ch := { c with names := [] } :: r }
  else match c.names with
   | [] => { s with ph := .fail }
   | n :: ns => if (r.length : Int) = s.d then { s with ph := .fail } else startQ s (newQ n 1) ({ c with names := ns } :: r)
def idleQ (s : QSt) : QSt := { s with ph := .idle, ch := [], sent := 0, reply := zMsg }
def stepQ (s : QSt) : QSt × QOut :=
 match s.ph with
 | .idle => (s, noOut)
 | .send => sendQ s
 | .fail => (endQ s 2 [], noOut)
 | .failAll => (settleQ s 2 [], noOut)
 | .seek => (seekQ s, noOut)
 | .finish => (idleQ s, (2, 0, replyL s.reply))
def goes : Nat → QSt → Option (QSt × QOut)
 | 0, _ => none
 | n + 1, s => if (stepQ s).2.1 = 0 then goes n (stepQ s).1 else some (stepQ s)
structure QcOk (t : Int) (c : Ch) : Prop where
 name : nameB c.name = true
 k0 : 0 ≤ c.kind
 k1 : c.kind ≤ 65535
 zone : nameB c.zone = true
 servers : c.servers.length ≤ 4294967295
 sent : (c.sent : Int) ≤ t
 names : c.names.length ≤ 2097152
 texts : ∀ x ∈ c.names, nameB x = true
structure QOk (s : QSt) : Prop where
 b0 : 1 ≤ s.b
 b1 : s.b ≤ 200
 d0 : 0 ≤ s.d
 d1 : s.d ≤ 6
 c0 : 0 ≤ s.c
 c1 : s.c ≤ 10
 t0 : 1 ≤ s.t
 t1 : s.t ≤ 8
 r0 : 1 ≤ s.roots.length
 r1 : s.roots.length ≤ 8
 id0 : 0 ≤ s.id
 id1 : s.id ≤ 65535
 sent : (s.sent : Int) ≤ s.b
 chs : ∀ c ∈ s.ch, QcOk s.t c
 len : (s.ch.length : Int) ≤ s.d + 1
 reply : WfM s.reply
 au : s.reply.au = []
 ex : s.reply.ex = []
 few : s.reply.an.length ≤ 1048576
 busy : s.ph ≠ .idle → s.ch ≠ [] ∧ s.reply.resp = true ∧ ∃ q, s.reply.qs = [q] ∧ NamedQ q
 an : s.ph ≠ .finish → (s.reply.an.length : Int) ≤ s.c
 srv : s.ph = .send → ∀ c r, s.ch = c :: r → c.servers ≠ []
theorem rootN_name : nameB rootN = true := by decide
theorem addrs_len (l : List Rc) : (addrs l).length ≤ l.length := by
 unfold addrs
 rw [List.length_map]
 exact List.length_filter_le _ _
theorem startQ_ok {s : QSt} (h : QOk s) (c : Ch) (r : List Ch) (hb : s.reply.resp = true ∧ ∃ q, s.reply.qs = [q] ∧ NamedQ q) (ha : (s.reply.an.length : Int) ≤ s.c) (hn : nameB c.name = true) (k0 : 0 ≤ c.kind) (k1 : c.kind ≤ 65535) (hs : c.sent = 0) (he : c.names = []) (hr : ∀ x ∈ r, QcOk s.t x) (hl : (r.length : Int) ≤ s.d) : QOk (startQ s c r) := by
 have hr0 := h.r0
 have hr1 := h.r1
 have ht := h.t0
 refine { h with chs := fun x hx => ?_, len := by simp only [startQ, List.length_cons]; omega, busy := fun _ => ⟨by simp [startQ], hb⟩, an := fun _ => ha, srv := fun _ x y e => ?_ }
 ·simp only [startQ, List.mem_cons] at hx
  rcases hx with rfl | hx
  ·exact ⟨hn, k0, k1, rootN_name, by dsimp only; omega, by dsimp only [startQ]; omega, by simp [he], by simp [he]⟩
  ·exact hr x hx
 ·simp only [startQ] at e
  injection e with e _
  rw [← e]
  intro e
  have : s.roots = [] := e
  rw [this] at hr0
  simp at hr0
theorem settleQ_ok {s : QSt} (h : QOk s) (hp : s.ph ≠ .idle) (code : Int) (hc : -9223372036854775808 ≤ code ∧ code ≤ 9223372036854775807) (l : List Rc) (hl : l.length ≤ 65535) (hw : ∀ r ∈ l, WfR r) (ha : (s.reply.an.length : Int) ≤ s.c) : QOk (settleQ s code l) := by
 have hc1 := h.c1
 have hm := h.reply
 have hlen : (if code = 2 then [] else s.reply.an ++ l).length ≤ 70000 := by
  split
  ·simp
  ·rw [List.length_append]; omega
 refine { h with reply := ?_, few := by simp only [settleQ]; omega, busy := fun _ => ⟨(h.busy hp).1, (h.busy hp).2⟩, an := fun e => absurd rfl e, srv := fun e => by cases e }
 refine { hm with code0 := hc.1, code1 := hc.2, na := by simp only [settleQ]; omega, rs := fun r hr => ?_ }
 simp only [settleQ, recs, List.mem_append] at hr
 rcases hr with (hr | hr) | hr
 ·split at hr
  ·cases hr
  ·rcases List.mem_append.1 hr with hr | hr
   ·exact hm.rs r (by simp [recs, hr])
   ·exact hw r hr
 ·exact hm.rs r (by simp [recs, hr])
 ·exact hm.rs r (by simp [recs, hr])
theorem endQ_ok {s : QSt} (h : QOk s) (hp : s.ph ≠ .idle) (code : Int) (hc : -9223372036854775808 ≤ code ∧ code ≤ 9223372036854775807) (l : List Rc) (hl : l.length ≤ 65535) (hw : ∀ r ∈ l, WfR r) (ha : (s.reply.an.length : Int) ≤ s.c) : QOk (endQ s code l) := by
 unfold endQ
 split
 ·rename_i c0 a r e
  have hlen := h.len
  have hch := h.chs
  rw [e] at hlen hch
  have hA := hch a (by simp)
  have := addrs_len l
  refine { h with chs := fun x hx => ?_, len := by simp only [List.length_cons] at hlen ⊢; omega, busy := fun _ => ⟨by simp, (h.busy hp).2⟩, an := fun _ => ha, srv := fun e => by cases e }
  simp only [List.mem_cons] at hx
  rcases hx with rfl | hx
  ·exact { hA with servers := by dsimp only; omega }
  ·exact hch x (by simp [hx])
 ·exact settleQ_ok h hp code hc l hl hw ha
theorem stepQ_ok {s : QSt} (h : QOk s) (hp : s.ph ≠ .idle) : QOk (stepQ s).1 := by
 have hb := h.busy hp
 unfold stepQ
 split
 ·rename_i e; exact absurd e hp
 ·rename_i e
  have ha := h.an (by rw [e]; simp)
  unfold sendQ
  split
  ·exact h
  ·rename_i c r ec
   have hch := h.chs
   have hlen := h.len
   rw [ec] at hch hlen
   have hC := hch c (by simp)
   have hs := hC.sent
   have hsb := h.sent
   split
   ·exact { h with busy := fun _ => hb, an := fun _ => ha, srv := fun e => by cases e }
   ·split
    ·exact { h with busy := fun _ => hb, an := fun _ => ha, srv := fun e => by cases e }
    ·refine { h with id0 := by show 0 ≤ nextId s.id; unfold nextId; omega, id1 := by show nextId s.id ≤ 65535; unfold nextId; omega, sent := by dsimp only; omega, chs := fun x hx => ?_, len := by simpa using hlen, busy := fun _ => ⟨by simp, hb.2⟩, an := fun _ => ha, srv := fun _ x y exy => ?_ }
     ·simp only [List.mem_cons] at hx
      rcases hx with rfl | hx
      ·exact { hC with sent := by dsimp only; omega }
      ·exact hch x (by simp [hx])
     ·injection exy with e1 _
      rw [← e1]
      exact h.srv e c r ec
 ·rename_i e
  exact endQ_ok h hp 2 (by decide) [] (by simp) (by simp) (h.an (by rw [e]; simp))
 ·rename_i e
  exact settleQ_ok h hp 2 (by decide) [] (by simp) (by simp) (h.an (by rw [e]; simp))
 ·rename_i e
  have ha := h.an (by rw [e]; simp)
  show QOk (seekQ s)
  unfold seekQ
  split
  ·exact h
  ·rename_i c r ec
   have hch := h.chs
   have hlen := h.len
   rw [ec] at hch hlen
   have hC := hch c (by simp)
   split
   ·rename_i hne
    refine { h with chs := fun x hx => ?_, len := by simpa using hlen, busy := fun _ => ⟨by simp, hb.2⟩, an := fun _ => ha, srv := fun _ x y exy => ?_ }
    ·simp only [List.mem_cons] at hx
     rcases hx with rfl | hx
     ·exact { hC with names := by simp, texts := by simp }
     ·exact hch x (by simp [hx])
    ·injection exy with e1 _
     rw [← e1]
     exact hne
   ·split
    ·exact { h with busy := fun _ => hb, an := fun _ => ha, srv := fun e => by cases e }
    ·rename_i n ns en
     split
     ·exact { h with busy := fun _ => hb, an := fun _ => ha, srv := fun e => by cases e }
     ·rename_i hd
      have h1 := hC.names
      have h2 := hC.texts
      rw [en] at h1 h2
      refine startQ_ok h _ _ hb.2 ha (h2 n (by simp)) (show (0 : Int) ≤ 1 by decide) (show (1 : Int) ≤ 65535 by decide) rfl rfl (fun x hx => ?_) (by simp only [List.length_cons] at hlen ⊢; omega)
      simp only [List.mem_cons] at hx
      rcases hx with rfl | hx
      ·exact { hC with names := by simp only [List.length_cons] at h1; dsimp only; omega, texts := fun x hx => h2 x (by simp [hx]) }
      ·exact hch x (by simp [hx])
 ·refine { h with sent := by have := h.b0; simp only [idleQ]; omega, chs := by simp [idleQ], len := by have := h.d0; simp only [idleQ, List.length_nil]; omega, reply := zMsg_wf, au := rfl, ex := rfl, few := by simp [idleQ, zMsg], busy := fun e => absurd rfl e, an := fun _ => by have := h.c0; simpa [idleQ, zMsg] using this, srv := fun e => by cases e }
end Go.Proofs.YtafoepfhepdcoaaGreat
