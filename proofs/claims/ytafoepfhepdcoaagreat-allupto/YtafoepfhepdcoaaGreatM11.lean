import Derived.Test.YtafoepfhepdcoaaGreatM10
import Derived.Test.YtafoepfhepdcoaaGreatM3
import Derived.Test.YtafoepfhepdcoaaGreatM6
set_option maxRecDepth 100000
set_option maxHeartbeats 8000000
namespace Go.Proofs.YtafoepfhepdcoaaGreat
open Go.RowKit Go.Trawl Go.Sort
theorem rec_info5 : (Tryz.prog.info? 69).map (fun i => (i.zero, i.size, i.bytes)) = some (some (.agg #[.string ⟨#[]⟩, .int .u16 0, .int .u16 0, .int .u32 0, .string ⟨#[]⟩]), 5, 40) := by kernel_rfl
theorem und_recs : Tryz.prog.underlying 28 = some (.slice 69) := by kernel_rfl
theorem two_size4 (a b : Int) : (str (two a ++ two b)).size = 4 := rfl
theorem rec_next {S : ByteArray} {m : Msg} {k : Nat} {r : Rc} (hS : S = str (head m ++ m.qs.flatMap qbytes ++ ((recs m).take k).flatMap rbytes)) (hk : (recs m)[k]? = some r) :
  S ++ r.name ++ str (two r.kind) ++ str (two r.cls) ++ str (two (r.ttl / 65536) ++ two (r.ttl % 65536)) ++ str (two r.data.size) ++ r.data = str (head m ++ m.qs.flatMap qbytes ++ ((recs m).take (k + 1)).flatMap rbytes) := by
 rw [take_snoc _ _ _ hk, hS]
 have h1 : r.name = str r.name.data.toList := by apply ByteArray.ext; simp [str]
 have h2 : r.data = str r.data.data.toList := by apply ByteArray.ext; simp [str]
 have h3 : rbytes r = r.name.data.toList ++ two r.kind ++ two r.cls ++ two (r.ttl / 65536) ++ two (r.ttl % 65536) ++ two r.data.size ++ r.data.data.toList := rfl
 generalize r.data.size = ds at *
 simp only [List.flatMap_append, List.flatMap_cons, List.flatMap_nil, List.append_nil, h3]
 generalize hn : r.name = nm at *
 generalize hd : r.data = dt at *
 rw [show nm = str nm.data.toList from h1]
 rw [show dt = str dt.data.toList from h2]
 simp only [str_append, List.append_assoc]
 rfl
theorem two_size (n : Int) : (str (two n)).size = 2 := rfl
theorem refPack_any (m : Msg) (vq va vu vx : Value) (w : World) (hwf : WfM m) (hat : MsgAt w m vq va vu vx) :
  Calls Tryz.prog 27 #[.agg (mc_ m vq va vu vx)] w fun e w' => Below w.heap.size w w' ∧
   (packOk m = false → e = .returned (.tuple #[.string (str []), .int .i64 1])) ∧
   (packOk m = true → e = .returned (.tuple #[.string (str (pack m)), .int .i64 0])) := by
 obtain ⟨aq, cq, hvq, -, hq⟩ := hat.q
 obtain ⟨aa, ca, hva, -, ha⟩ := hat.a
 obtain ⟨au, cu, hvu, -, hu⟩ := hat.u
 obtain ⟨ax, cx, hvx, -, hx⟩ := hat.x
 rw [List.length_map] at hvq hva hvu hvx
 subst hvq hva hvu hvx
 have hop0 := hwf.op0
 have hop1 := hwf.op1
 have hco0 := hwf.code0
 have hco1 := hwf.code1
 have hnq := hwf.nq
 have hna := hwf.na
 have hnu := hwf.nu
 have hnx := hwf.nx
 by_cases hr : 0 ≤ m.op ∧ m.op ≤ 15 ∧ 0 ≤ m.code ∧ m.code ≤ 15
 ·obtain ⟨r1, r2, r3, r4⟩ := hr
  have bb1 := bit_le m.resp 32768 (by omega)
  have bb2 := bit_le m.own 1024 (by omega)
  have bb3 := bit_le m.cut 512 (by omega)
  have bb4 := bit_le m.wanted 256 (by omega)
  have bb5 := bit_le m.able 128 (by omega)
  have hid0 := hwf.id0
  have hid1 := hwf.id1
  go_enter Tryz.func27, Tryz.ntmps27
  unfold mc_
  go_wp2_with fail
  go_quiet ((go_at_call 45; exact Calls.quiet_of_same (refFlag_any _ _ _)))
  go_wp2_with fail
  obtain ⟨w1, hw1⟩ : ∃ w1 : World, w1 = (w.alloc (.cells (mc_ m (.slice aq m.qs.length cq) (.slice aa m.an.length ca) (.slice au m.au.length cu) (.slice ax m.ex.length cx)) 30)).drewN nq := ⟨_, rfl⟩
  have hb1 : Below (w.heap.size + 1) (w.alloc (.cells (mc_ m (.slice aq m.qs.length cq) (.slice aa m.an.length ca) (.slice au m.au.length cu) (.slice ax m.ex.length cx)) 30)) w1 := by
   rw [hw1]; exact below_drewN (Below.refl _ _) _
  simp only [mc_] at hw1
  rw [← hw1]
  clear hw1
  have hs1 := bx2 hb1
  have hcell : ∀ d os o, (grow (redrawn w1 d) os).cell? ⟨w.heap.size, o, none⟩ = (mc_ m (.slice aq m.qs.length cq) (.slice aa m.an.length ca) (.slice au m.au.length cu) (.slice ax m.ex.length cx))[o]? := by
   intro d os o
   rw [(below_regrown w1 d os).cell (p := ⟨w.heap.size, o, none⟩) (by show w.heap.size < _; omega)]
   exact bc_ (bx0 hb1) o
  simp only [mc_] at hcell
  have hts : ∀ n, (str (two n)).size = 2 := two_size
  refine wp_region_quiet_below (by kernel_rfl) (by kernel_rfl) ?_
  repeat (first | go_big_quiet_step ((go_at_call 46; exact Calls.regrown_of (two_any _ (by omega) (by omega) _))) | quiet_step ((go_at_call 46; exact Calls.regrown_of (two_any _ (by omega) (by omega) _))))
  refine wpQuiet_nil ?_
  rintro _ ⟨⟨d, os⟩, rfl⟩
  obtain ⟨w2, hw2⟩ : ∃ w2 : World, w2 = grow (redrawn w1 d) os := ⟨_, rfl⟩
  have hb2 : Below (w.heap.size + 1) (w.alloc (.cells (mc_ m (.slice aq m.qs.length cq) (.slice aa m.an.length ca) (.slice au m.au.length cu) (.slice ax m.ex.length cx)) 30)) w2 := by
   rw [hw2]; exact hb1.trans ((below_regrown w1 d os).mono hs1)
  rw [← hw2]
  clear hw2 hcell hb1 hs1
  have hhead : str (two m.id) ++ str (two (flags m)) ++ str (two m.qs.length) ++ str (two m.an.length) ++ str (two m.au.length) ++ str (two m.ex.length) = str (head m) := by
   simp only [str_append]; rfl
  have HB2 := hide hb2
  clear hb2 hts
  obtain ⟨S0, hS0⟩ : ∃ S0 : ByteArray, S0 = str (two m.id) ++ str (two (flags m)) ++ str (two m.qs.length) ++ str (two m.an.length) ++ str (two m.au.length) ++ str (two m.ex.length) := ⟨_, rfl⟩
  have HS0 : Hid (S0 = str (head m)) := hS0.trans hhead
  unfold flags at hS0
  rw [← hS0]
  clear hS0 hhead
  have hS0s : S0.size = 12 := by rw [HS0.out]; rfl
  go_wp2_with fail
  go_loopw [5, 6] (fun s i wr => ∃ (k : Nat) (S : ByteArray), i = .int .i64 k ∧ k ≤ m.qs.length ∧ s = .string S ∧ Hid (S = str (head m ++ (m.qs.take k).flatMap qbytes)) ∧ Hid (S.size = 12 + qlen (m.qs.take k)) ∧ S.size ≤ 771 ∧ Below (w.heap.size + 1) (w.alloc (.cells (mc_ m (.slice aq m.qs.length cq) (.slice aa m.an.length ca) (.slice au m.au.length cu) (.slice ax m.ex.length cx)) 30)) wr ∧ Hid ((m.qs.take k).all okQ = true)) (fun _ i _ => m.qs.length - (intOf i).toNat)
  case atStart => exact ⟨0, S0, rfl, Nat.zero_le _, rfl, by show _ = _; simpa using HS0.out, by show _ = _; simpa [qlen] using hS0s, by omega, HB2.out, rfl⟩
  case round =>
   obtain ⟨k, S, rfl, hk, rfl, HS, HSz, hSl, hb, hall⟩ := hrel
   have hcb := bc_ (bx0 hb)
   simp only [mc_] at hcb
   have hsr := bx2 hb
   have HBr := hide hb
   have hbw := bx1 hb
   clear hb
   by_cases hlt : k < m.qs.length
   ·
    obtain ⟨q, hqk⟩ : ∃ q, m.qs[k]? = some q := ⟨_, List.getElem?_eq_getElem hlt⟩
    rcases hq with hq | ⟨b, off, rfl, hbq, hq⟩
    ·rw [List.map_eq_nil_iff] at hq; rw [hq] at hlt; simp at hlt
    ·have hwq := hwf.qs q (List.mem_of_getElem? hqk)
     have hqn := hwq.name
     have k0 := hwq.k0
     have k1 := hwq.k1
     have q0 := hwq.c0
     have q1 := hwq.c1
     obtain ⟨c0, c1, c2⟩ := Lies.qat hq hqk
     rw [← hbw.cell (p := ⟨b, off + k * 3, none⟩) hbq] at c0
     rw [← hbw.cell (p := ⟨b, off + k * 3 + 1, none⟩) hbq] at c1
     rw [← hbw.cell (p := ⟨b, off + k * 3 + 2, none⟩) hbq] at c2
     have HBW := hide hbw
     have HQK := hide hqk
     clear hbw hqk
     cases hn : nameB q.name with
     | false =>
      have hno : Hid (packOk m = false) := pack_q_no (split_at _ _ _ HQK.out) (.inl hn)
      go_wp2_with (go_at_call 47; refine (refIsName_any _ _ (by unfold maxLen; omega)).mono ?_; rintro e w3 ⟨rfl, rfl⟩)
      go_ret2
      exact ⟨HBW.out.alloc (by omega) _, fun _ => rfl, fun h => by rw [hno.out] at h; cases h⟩
     | true =>
      by_cases hbig : 512 < S.size
      ·have hno : Hid (packOk m = false) := pack_q_no (split_at _ _ _ HQK.out) (.inr (by have := HSz.out; omega))
       go_wp2_with (go_at_call 47; refine (refIsName_any _ _ (by unfold maxLen; omega)).mono ?_; rintro e w3 ⟨rfl, rfl⟩)
       go_ret2
       exact ⟨HBW.out.alloc (by omega) _, fun _ => rfl, fun h => by rw [hno.out] at h; cases h⟩
      ·have hns := (nameB_size hn).2
       go_wp2_with (go_at_call 47; refine (refIsName_any _ _ (by unfold maxLen; omega)).mono ?_; rintro e w3 ⟨rfl, rfl⟩)
       obtain ⟨w4, hw4⟩ : ∃ w4 : World, w4 = wr.alloc (.cells #[.string q.name, .int .u16 q.kind, .int .u16 q.cls] 41) := ⟨_, rfl⟩
       rw [← hw4]
       have hs4 : w4.heap.size = wr.heap.size + 1 := by rw [hw4, as_]
       have hb4 : Below wr.heap.size wr w4 := by rw [hw4]; exact (Below.refl _ _).alloc (Nat.le_refl _) _
       have hcell : ∀ d os o, (grow (redrawn w4 d) os).cell? ⟨wr.heap.size, o, none⟩ = (#[.string q.name, .int .u16 q.kind, .int .u16 q.cls] : Array Value)[o]? := by
        intro d os o
        rw [(below_regrown w4 d os).cell (p := ⟨wr.heap.size, o, none⟩) (by show wr.heap.size < _; omega), hw4]
        exact bc_ (hn_ wr _) o
       clear hw4 hcb c0 c1 c2
       have hts : ∀ n, (str (two n)).size = 2 := two_size
       refine wp_region_quiet_below (by kernel_rfl) (by kernel_rfl) ?_
       repeat (first | go_big_quiet_step ((go_at_call 46; exact Calls.regrown_of (two_any _ (by omega) (by omega) _))) | quiet_step ((go_at_call 46; exact Calls.regrown_of (two_any _ (by omega) (by omega) _))))
       refine wpQuiet_nil ?_
       rintro _ ⟨⟨d, os⟩, rfl⟩
       obtain ⟨w5, hw5⟩ : ∃ w5 : World, w5 = grow (redrawn w4 d) os := ⟨_, rfl⟩
       have hb5 : Below w4.heap.size w4 w5 := by rw [hw5]; exact below_regrown w4 d os
       rw [← hw5]
       clear hw5 hcell
       have HB5 := hide (hb4.trans (hb5.mono (by omega)))
       clear hb4 hb5
       go_wp2_with fail
       refine ⟨⟨k + 1, S ++ q.name ++ str (two q.kind) ++ str (two q.cls), by go_num, by omega, rfl, ?_, ?_, ?_, HBr.out.trans (HB5.out.mono (by omega)), ?_⟩, by simp [intOf]; omega⟩
       ·show _ = _
        rw [take_snoc _ _ _ HQK.out, HS.out]
        have : q.name = str q.name.data.toList := by apply ByteArray.ext; simp [str]
        conv => lhs; rw [this]
        simp only [str_append, qbytes, List.flatMap_append, List.flatMap_cons, List.flatMap_nil, List.append_nil, List.append_assoc]
       ·show _ = _
        rw [take_snoc _ _ _ HQK.out, qlen_append, qlen_one]
        have := HSz.out
        simp only [ByteArray.size_append, hts]; omega
       ·simp only [ByteArray.size_append, hts]; omega
       ·exact all_snoc hall.out HQK.out hn
   ·have hkl : k = m.qs.length := by omega
    subst hkl
    have HBW := hide hbw
    clear hbw
    rw [List.take_length] at HS HSz hall
    obtain ⟨i1, hi1, hy0, hy1, hy2⟩ := info_parts rec_info5
    have HQ1 := hide hq
    have HA1 := hide (hat.a.keepB (Nat.le_refl _) HBW.out)
    have hn1 : (m.an.map Rc.cells).length = m.an.length := List.length_map _
    have hn2 : (m.au.map Rc.cells).length = m.au.length := List.length_map _
    have hn3 : (m.ex.map Rc.cells).length = m.ex.length := List.length_map _
    have HAT := hide hat
    clear hq ha hu hx hat
    have HBX := hide (bx0 HBr.out)
    have tok1 : True := trivial
    go_wp2_with (first | (at_builtin; have _t := tok1; refine wpList_append_lies _ rfl _ _ 28 rfl 69 i1 _ 5 40 und_recs hi1 hy0 hy1 hy2 rfl (by decide) (.slice none 0 0) 0 [] rfl (.slice aa m.an.length ca) (m.an.map Rc.cells) rfl (rcells_ok _) (World.ownsRow_nil _ _ _ _) HA1.out (by rw [hn1]; unfold maxLen; omega) (by rw [hn1]; omega) ?_; intro v1 wx1 g1; clear tok1; have tok2 : True := trivial; have hx1 := g1.grown.size; have k1 := g1.keeps (b := w.heap.size) (by omega) (by simp [Value.ownBlock]); have KB1 := hide (k1.1.trans HBX.out); have hc1 := bc_ KB1.out; simp only [mc_] at hc1; have KN1 := hide k1.2.1; clear hcb k1; have HX1 := hide (HBW.out.trans (g1.below (B := w.heap.size) (by omega) (by simp [Value.ownBlock])).1); have HV1 := hide (g1.below (B := w.heap.size) (by omega) (by simp [Value.ownBlock])).2; have HU1 := hide (HAT.out.u.keepB (Nat.le_refl _) HX1.out)) | (at_builtin; have _t := tok2; refine wpList_append_lies _ rfl _ _ 28 rfl 69 i1 _ 5 40 und_recs hi1 hy0 hy1 hy2 rfl (by decide) v1 _ _ rfl (.slice au m.au.length cu) (m.au.map Rc.cells) rfl (rcells_ok _) g1.own HU1.out (by rw [hn1, hn2]; unfold maxLen; omega) (by rw [hn1, hn2]; omega) ?_; intro v2 wx2 g2; clear tok2; have tok3 : True := trivial; have hx2 := g2.grown.size; have k2 := g2.keeps (b := w.heap.size) (by omega) KN1.out; have KB2 := hide (k2.1.trans KB1.out); have hc2 := bc_ KB2.out; simp only [mc_] at hc2; have KN2 := hide k2.2.1; clear hc1 k2; have HX2 := hide (HX1.out.trans (g2.below (B := w.heap.size) (by omega) HV1.out).1); have HV2 := hide (g2.below (B := w.heap.size) (by omega) HV1.out).2; have HX2b := hide (HAT.out.x.keepB (Nat.le_refl _) HX2.out)) | (at_builtin; have _t := tok3; refine wpList_append_lies _ rfl _ _ 28 rfl 69 i1 _ 5 40 und_recs hi1 hy0 hy1 hy2 rfl (by decide) v2 _ _ rfl (.slice ax m.ex.length cx) (m.ex.map Rc.cells) rfl (rcells_ok _) g2.own HX2b.out (by rw [hn1, hn2, hn3]; unfold maxLen; omega) (by rw [hn1, hn2, hn3]; omega) ?_; intro v3 wx3 g3; clear tok3; have hx3 := g3.grown.size; have HX3 := hide (HX2.out.trans (g3.below (B := w.heap.size) (by omega) HV2.out).1); clear hc2))
    have hLr : Lies wx3 5 v3 ((recs m).map Rc.cells) := by
     have h := g3.own
     rw [recs_flat] at h
     exact own_lies h (fun x hx => (rcells_ok _ x hx).1) (recs_count m)
    have hN : (recs m).length ≤ 6291456 := by simp only [recs, List.length_append]; omega
    obtain ⟨aR, cR, hv3, -, hLr⟩ := hLr
    rw [List.length_map] at hv3
    have HX3' := HX3
    have HSZ3 : Hid (w.heap.size + 1 ≤ wx3.heap.size) := by show _ ≤ _; omega
    clear g1 g2 g3 hx1 hx2 hx3 hn1 hn2 hn3 KB1 KN1 HX1 HV1 HU1 KB2 KN2 HX2 HV2 HX2b HA1 HBX HQ1 HAT hlt hk hS0s hy0 hy1 hy2 hi1
    subst hv3
    go_loopw [5, 10] (fun s i wr => ∃ (k : Nat) (S : ByteArray), i = .int .i64 k ∧ k ≤ (recs m).length ∧ s = .string S ∧ Hid (S = str (head m ++ m.qs.flatMap qbytes ++ ((recs m).take k).flatMap rbytes)) ∧ Hid (S.size = 12 + qlen m.qs + rlen ((recs m).take k)) ∧ S.size ≤ 777 ∧ Below wx3.heap.size wx3 wr ∧ Hid (((recs m).take k).all okR = true)) (fun _ i _ => (recs m).length - (intOf i).toNat)
    case atStart => exact ⟨0, S, rfl, Nat.zero_le _, rfl, by show _ = _; simpa using HS.out, by show _ = _; simpa [rlen] using HSz.out, by omega, Below.refl _ _, rfl⟩
    case round =>
     clear HS HSz hSl
     obtain ⟨k, S, rfl, hk, rfl, HS, HSz, hSl, hb, hall2⟩ := hrel
     have hsz := hb.size
     have hs3 := HSZ3.out
     by_cases hlt : k < (recs m).length
     ·obtain ⟨r, hrk⟩ : ∃ r, (recs m)[k]? = some r := ⟨_, List.getElem?_eq_getElem hlt⟩
      rcases hLr with hLr | ⟨b, off, rfl, hbb, hLr⟩
      ·rw [List.map_eq_nil_iff] at hLr; rw [hLr] at hlt; simp at hlt
      ·have hwr := hwf.rs r (List.mem_of_getElem? hrk)
       have n0 := hwr.name
       have n1 := hwr.data
       have k0 := hwr.k0
       have k1 := hwr.k1
       have q0 := hwr.c0
       have q1 := hwr.c1
       have t0 := hwr.t0
       have HT1 := hide hwr.t1
       obtain ⟨c0, c1, c2, c3, c4⟩ := Lies.rat hLr hrk
       rw [← hb.cell (p := ⟨b, off + k * 5, none⟩) hbb] at c0
       rw [← hb.cell (p := ⟨b, off + k * 5 + 1, none⟩) hbb] at c1
       rw [← hb.cell (p := ⟨b, off + k * 5 + 2, none⟩) hbb] at c2
       rw [← hb.cell (p := ⟨b, off + k * 5 + 3, none⟩) hbb] at c3
       rw [← hb.cell (p := ⟨b, off + k * 5 + 4, none⟩) hbb] at c4
       have HRK := hide hrk
       have HBr := hide hb
       have HBW2 := hide (HX3.out.trans (hb.mono (by omega)))
       clear hrk hb hwr
       have hfin : ∀ (W : World), Below wr.heap.size wr W → Below w.heap.size w W := fun W h => HBW2.out.trans (h.mono (by omega))
       have HFIN := hide hfin
       clear hfin
       cases hn : nameB r.name with
       | false =>
        have hno : Hid (packOk m = false) := pack_r_no (split_at _ _ _ HRK.out) (.inl (by unfold okR; rw [hn]; rfl))
        go_wp2_with fail
        refine (refIsName_any _ _ (by unfold maxLen; omega)).mono ?_
        rintro e w3 ⟨rfl, rfl⟩
        go_wp2_with fail
        refine (refIsName_any _ _ (by unfold maxLen; omega)).mono ?_
        rintro e w3 ⟨rfl, rfl⟩
        go_wp2_with fail
        refine (isNamed_any _ _).mono ?_
        rintro e w3 ⟨rfl, rfl⟩
        go_wp2_with fail
        go_ret2
        exact ⟨HFIN.out _ ((Below.refl _ _).alloc (Nat.le_refl _) _), fun _ => rfl, fun h => by rw [hno.out] at h; cases h⟩
       | true =>
        cases hd : named r.kind with
        | true =>
         cases hf : nameB r.data with
         | false =>
          have hno : Hid (packOk m = false) := pack_r_no (split_at _ _ _ HRK.out) (.inl (by unfold okR; rw [hn, hd, hf]; rfl))
          go_wp2_with fail
          refine (refIsName_any _ _ (by unfold maxLen; omega)).mono ?_
          rintro e w3 ⟨rfl, rfl⟩
          go_wp2_with fail
          refine (refIsName_any _ _ (by unfold maxLen; omega)).mono ?_
          rintro e w3 ⟨rfl, rfl⟩
          go_wp2_with fail
          refine (isNamed_any _ _).mono ?_
          rintro e w3 ⟨rfl, rfl⟩
          go_wp2_with fail
          go_ret2
          exact ⟨HFIN.out _ ((Below.refl _ _).alloc (Nat.le_refl _) _), fun _ => rfl, fun h => by rw [hno.out] at h; cases h⟩
         | true =>
          have hokr : Hid (okR r = true) := by show _ = _; unfold okR; rw [hn, hd, hf]; rfl
          by_cases hbig : 512 < S.size + r.data.size
          ·have hno : Hid (packOk m = false) := pack_r_no (split_at _ _ _ HRK.out) (.inr (.inr (by have := HSz.out; omega)))
           go_wp2_with fail
           refine (refIsName_any _ _ (by unfold maxLen; omega)).mono ?_
           rintro e w3 ⟨rfl, rfl⟩
           go_wp2_with fail
           refine (refIsName_any _ _ (by unfold maxLen; omega)).mono ?_
           rintro e w3 ⟨rfl, rfl⟩
           go_wp2_with fail
           refine (isNamed_any _ _).mono ?_
           rintro e w3 ⟨rfl, rfl⟩
           go_wp2_with fail
           go_ret2
           exact ⟨HFIN.out _ ((Below.refl _ _).alloc (Nat.le_refl _) _), fun _ => rfl, fun h => by rw [hno.out] at h; cases h⟩
          ·have hns := (nameB_size hn).2
           go_wp2_with fail
           refine (refIsName_any _ _ (by unfold maxLen; omega)).mono ?_
           rintro e w3 ⟨rfl, rfl⟩
           go_wp2_with fail
           refine (refIsName_any _ _ (by unfold maxLen; omega)).mono ?_
           rintro e w3 ⟨rfl, rfl⟩
           go_wp2_with fail
           refine (isNamed_any _ _).mono ?_
           rintro e w3 ⟨rfl, rfl⟩
           go_wp2_with fail
           obtain ⟨w4, hw4⟩ : ∃ w4 : World, w4 = wr.alloc (.cells #[.string r.name, .int .u16 r.kind, .int .u16 r.cls, .int .u32 r.ttl, .string r.data] 69) := ⟨_, rfl⟩
           rw [← hw4]
           have hs4 : w4.heap.size = wr.heap.size + 1 := by rw [hw4, as_]
           have hb4 : Below wr.heap.size wr w4 := by rw [hw4]; exact (Below.refl _ _).alloc (Nat.le_refl _) _
           have hcell : ∀ d os o, (grow (redrawn w4 d) os).cell? ⟨wr.heap.size, o, none⟩ = (#[.string r.name, .int .u16 r.kind, .int .u16 r.cls, .int .u32 r.ttl, .string r.data] : Array Value)[o]? := by
            intro d os o
            rw [(below_regrown w4 d os).cell (p := ⟨wr.heap.size, o, none⟩) (by show wr.heap.size < _; omega), hw4]
            exact bc_ (hn_ wr _) o
           clear hw4 c0 c1 c2 c3 c4
           have hts : ∀ n, (str (two n)).size = 2 := two_size
           have hts4 : ∀ a b, (str (two a ++ two b)).size = 4 := two_size4
           refine wp_region_quiet_below (by kernel_rfl) (by kernel_rfl) ?_
           repeat (first | go_big_quiet_step ((first | (go_at_call 46; exact Calls.regrown_of (two_any _ (by omega) (by omega) _)) | (go_at_call 49; exact Calls.regrown_of (four_any _ t0 HT1.out _)))) | quiet_step ((first | (go_at_call 46; exact Calls.regrown_of (two_any _ (by omega) (by omega) _)) | (go_at_call 49; exact Calls.regrown_of (four_any _ t0 HT1.out _)))))
           refine wpQuiet_nil ?_
           rintro _ ⟨⟨d, os⟩, rfl⟩
           obtain ⟨w5, hw5⟩ : ∃ w5 : World, w5 = grow (redrawn w4 d) os := ⟨_, rfl⟩
           have hb5 : Below w4.heap.size w4 w5 := by rw [hw5]; exact below_regrown w4 d os
           rw [← hw5]
           clear hw5 hcell
           have HB5 := hide (hb4.trans (hb5.mono (by omega)))
           clear hb4 hb5
           go_wp2_with fail
           refine ⟨⟨k + 1, S ++ r.name ++ str (two r.kind) ++ str (two r.cls) ++ str (two (r.ttl / 65536) ++ two (r.ttl % 65536)) ++ str (two r.data.size) ++ r.data, by go_num, by omega, rfl, ?_, ?_, ?_, HBr.out.trans (HB5.out.mono (by omega)), ?_⟩, by simp [intOf]; omega⟩
           ·exact rec_next HS.out HRK.out
           ·show _ = _
            rw [take_snoc _ _ _ HRK.out, rlen_append, rlen_one]
            have := HSz.out
            simp only [ByteArray.size_append, hts, hts4]; omega
           ·simp only [ByteArray.size_append, hts, hts4]; omega
           ·exact all_snoc hall2.out HRK.out hokr.out
        | false =>
         have hokr : Hid (okR r = true) := by show _ = _; unfold okR; rw [hn, hd]; rfl
         by_cases hbig : 512 < S.size + r.data.size
         ·have hno : Hid (packOk m = false) := pack_r_no (split_at _ _ _ HRK.out) (.inr (.inr (by have := HSz.out; omega)))
          go_wp2_with fail
          refine (refIsName_any _ _ (by unfold maxLen; omega)).mono ?_
          rintro e w3 ⟨rfl, rfl⟩
          go_wp2_with fail
          refine (refIsName_any _ _ (by unfold maxLen; omega)).mono ?_
          rintro e w3 ⟨rfl, rfl⟩
          go_wp2_with fail
          refine (isNamed_any _ _).mono ?_
          rintro e w3 ⟨rfl, rfl⟩
          go_wp2_with fail
          go_ret2
          exact ⟨HFIN.out _ ((Below.refl _ _).alloc (Nat.le_refl _) _), fun _ => rfl, fun h => by rw [hno.out] at h; cases h⟩
         ·have hns := (nameB_size hn).2
          go_wp2_with fail
          refine (refIsName_any _ _ (by unfold maxLen; omega)).mono ?_
          rintro e w3 ⟨rfl, rfl⟩
          go_wp2_with fail
          refine (refIsName_any _ _ (by unfold maxLen; omega)).mono ?_
          rintro e w3 ⟨rfl, rfl⟩
          go_wp2_with fail
          refine (isNamed_any _ _).mono ?_
          rintro e w3 ⟨rfl, rfl⟩
          go_wp2_with fail
          obtain ⟨w4, hw4⟩ : ∃ w4 : World, w4 = wr.alloc (.cells #[.string r.name, .int .u16 r.kind, .int .u16 r.cls, .int .u32 r.ttl, .string r.data] 69) := ⟨_, rfl⟩
          rw [← hw4]
          have hs4 : w4.heap.size = wr.heap.size + 1 := by rw [hw4, as_]
          have hb4 : Below wr.heap.size wr w4 := by rw [hw4]; exact (Below.refl _ _).alloc (Nat.le_refl _) _
          have hcell : ∀ d os o, (grow (redrawn w4 d) os).cell? ⟨wr.heap.size, o, none⟩ = (#[.string r.name, .int .u16 r.kind, .int .u16 r.cls, .int .u32 r.ttl, .string r.data] : Array Value)[o]? := by
           intro d os o
           rw [(below_regrown w4 d os).cell (p := ⟨wr.heap.size, o, none⟩) (by show wr.heap.size < _; omega), hw4]
           exact bc_ (hn_ wr _) o
          clear hw4 c0 c1 c2 c3 c4
          have hts : ∀ n, (str (two n)).size = 2 := two_size
          have hts4 : ∀ a b, (str (two a ++ two b)).size = 4 := two_size4
          refine wp_region_quiet_below (by kernel_rfl) (by kernel_rfl) ?_
          repeat (first | go_big_quiet_step ((first | (go_at_call 46; exact Calls.regrown_of (two_any _ (by omega) (by omega) _)) | (go_at_call 49; exact Calls.regrown_of (four_any _ t0 HT1.out _)))) | quiet_step ((first | (go_at_call 46; exact Calls.regrown_of (two_any _ (by omega) (by omega) _)) | (go_at_call 49; exact Calls.regrown_of (four_any _ t0 HT1.out _)))))
          refine wpQuiet_nil ?_
          rintro _ ⟨⟨d, os⟩, rfl⟩
          obtain ⟨w5, hw5⟩ : ∃ w5 : World, w5 = grow (redrawn w4 d) os := ⟨_, rfl⟩
          have hb5 : Below w4.heap.size w4 w5 := by rw [hw5]; exact below_regrown w4 d os
          rw [← hw5]
          clear hw5 hcell
          have HB5 := hide (hb4.trans (hb5.mono (by omega)))
          clear hb4 hb5
          go_wp2_with fail
          refine ⟨⟨k + 1, S ++ r.name ++ str (two r.kind) ++ str (two r.cls) ++ str (two (r.ttl / 65536) ++ two (r.ttl % 65536)) ++ str (two r.data.size) ++ r.data, by go_num, by omega, rfl, ?_, ?_, ?_, HBr.out.trans (HB5.out.mono (by omega)), ?_⟩, by simp [intOf]; omega⟩
          ·exact rec_next HS.out HRK.out
          ·show _ = _
           rw [take_snoc _ _ _ HRK.out, rlen_append, rlen_one]
           have := HSz.out
           simp only [ByteArray.size_append, hts, hts4]; omega
          ·simp only [ByteArray.size_append, hts, hts4]; omega
          ·exact all_snoc hall2.out HRK.out hokr.out
     ·have HK : Hid (k = (recs m).length) := by show _ = _; omega
      have HBW2 := hide (HX3.out.trans (hb.mono (by omega)))
      clear hb
      by_cases hbig : 512 < S.size
      ·have hno : Hid (packOk m = false) := by
        show _ = _
        unfold packOk
        have : ¬ 12 + (body m).length ≤ 512 := by
         have h1 := HSz.out
         rw [HK.out, List.take_length] at h1
         rw [body_length]; omega
        simp [this]
       go_wp2_with fail
       go_ret2
       exact ⟨HBW2.out, fun _ => rfl, fun h => by rw [hno.out] at h; cases h⟩
      ·have hyes : Hid (packOk m = true) := by
        refine pack_yes (by unfold inRange; exact decide_eq_true ⟨r1, r2, r3, r4⟩) hall.out ?_ ?_
        ·have := hall2.out; rw [HK.out, List.take_length] at this; exact this
        ·have h1 := HSz.out
         rw [HK.out, List.take_length] at h1; omega
       have HSS : Hid (S = str (pack m)) := by
        show _ = _
        have h1 := HS.out
        rw [HK.out, List.take_length] at h1
        rw [h1]; unfold pack body; rw [List.append_assoc]
       go_wp2_with fail
       go_ret2
       exact ⟨HBW2.out, (fun h => by rw [hyes.out] at h; cases h), fun _ => by rw [← HSS.out]; rfl⟩
 ·
  have hno : Hid (packOk m = false) := pack_range_no (by unfold inRange; exact decide_eq_false hr)
  have hr' : m.op < 0 ∨ 15 < m.op ∨ m.code < 0 ∨ 15 < m.code := by omega
  clear hr
  go_enter Tryz.func27, Tryz.ntmps27
  unfold mc_
  go_wp2_with fail
  all_goals first | (exfalso; omega) | skip
  all_goals go_ret2
  all_goals exact ⟨(Below.refl _ _).alloc (Nat.le_refl _) _, fun _ => rfl, fun h => by rw [hno.out] at h; cases h⟩
end Go.Proofs.YtafoepfhepdcoaaGreat
