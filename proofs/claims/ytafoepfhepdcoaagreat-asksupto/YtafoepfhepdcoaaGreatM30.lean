import Derived.Test.YtafoepfhepdcoaaGreatM29
import Derived.Test.YtafoepfhepdcoaaGreatM23
import Derived.Test.YtafoepfhepdcoaaGreatM24
/- The reference: a chase that has not been tried out sends, or all fails. -/
namespace Go.Proofs.YtafoepfhepdcoaaGreat
open Go.RowKit Go.Trawl

def failP (st : RSt) : RSt × Value := ({ st with busy := false }, stepV 2 0 (str (replyL (doneM st 2 []))))
def askP (st : RSt) (r : List Ch) (c : Ch) : RSt × Value := if st.b ≤ (st.spent : Int) then failP { st with l := r ++ [c] } else (askSt st r c, askStep st c)
theorem wf_fail {st : RSt} (h : StOk st) : WfM (doneM st 2 []) := by
  have ha := h.asked
  exact ⟨ha.id0, ha.id1, by simp [doneM], by simp [doneM], by simp [doneM], by simp [doneM], ha.nq, by simp [doneM], by simp [doneM], by simp [doneM], ha.qs, by simp [doneM, recs]⟩
/-- What a resolver says and is behind a call. -/
def Says (w : World) (rb : Nat) (V : RV) (cs : List ChV) (p : RSt × Value) (e : Ending) (w' : World) : Prop := e = .returned p.2 ∧ Hid (∃ V' cs', RefAt w' rb p.1 V' cs' ∧ Fr w w' (V.owns cs rb) (V'.owns cs' rb))

set_option maxRecDepth 10000 in
set_option maxHeartbeats 4000000 in
theorem send_low (w : World) (rb : Nat) (st : RSt) (V : RV) (cs : List ChV) (c : ChV) (h : RefAt w rb st V (cs ++ [c])) (hok : StOk st) (hne : c.ch.servers ≠ []) (ht : (c.ch.sent : Int) < st.t) :
    Calls Tryz.prog 89 #[.pointer (some ⟨rb, 0, none⟩)] w (Says w rb V (cs ++ [c]) (askP st (cs.map ChV.ch) c.ch)) := by
  by_cases hb : (st.spent : Int) < st.b
  · have e : askP st (cs.map ChV.ch) c.ch = (askSt st (cs.map ChV.ch) c.ch, askStep st c.ch) := by unfold askP; rw [if_neg (by omega)]
    rw [e]
    refine (send_asks w rb st V cs c h hok hne ht hb).mono ?_
    rintro e w' ⟨h1, h2⟩
    obtain ⟨V', c', h3, _, h4⟩ := h2.out
    exact ⟨h1, V', _, h3, h4⟩
  have e : askP st (cs.map ChV.ch) c.ch = failP st := by
    unfold askP
    rw [if_pos (by omega)]
    have : st.l = cs.map ChV.ch ++ [c.ch] := by rw [← h.chs]; simp
    rw [← this]
  rw [e]
  clear e
  have HLT := hide h.lt
  have hB1 := (Below.refl w.heap.size w).alloc (Nat.le_refl _) (.cells #[Value.int IntKind.i64 0, Value.int IntKind.u32 0, Value.string { data := #[] }] 111)
  have H1 := hide (h.keep hB1)
  have HF1 := hide (Fr.of_below hB1 (V.owns (cs ++ [c]) rb))
  have HZ1 := hide (heap_new w (.cells #[Value.int IntKind.i64 0, Value.int IntKind.u32 0, Value.string { data := #[] }] 111))
  clear h hB1
  unfold Says
  go_enter Tryz.func89, Tryz.ntmps89
  go_wp2_with fail
  generalize w.alloc (.cells #[Value.int IntKind.i64 0, Value.int IntKind.u32 0, Value.string { data := #[] }] 111) = W1 at H1 HF1 HZ1 ⊢
  obtain ⟨g, cap, cur, hvL, hg, k1, k2, k3, k4⟩ := row_at H1.out
  obtain ⟨vR, vq, va, vu, vx, vK, vS, vL⟩ := V
  obtain ⟨ch, vs, vn⟩ := c
  obtain ⟨nm, kd, zn, sv, sn, ns⟩ := ch
  dsimp only at hvL hne ht
  subst hvL
  have hc0 := box_cells H1.out.box
  simp only [refCells] at hc0
  have hg4 := ch_cells hg k4 4 (by decide)
  simp only [ChV.cells, List.getElem?_cons_zero, List.getElem?_cons_succ] at hg4
  have HOK := hide hok
  have hb1 := hok.b1
  have hb0 := hok.b0
  have ht1 := hok.t1
  have hsp := hok.spent
  have hcl : cs.length ≤ 1000 := by
    have := hok.len
    rw [← H1.out.chs] at this
    simp at this
    omega
  have hsn := (hok.chs ⟨nm, kd, zn, sv, sn, ns⟩ (by rw [← H1.out.chs]; simp)).sent
  dsimp only at hsn
  clear hok
  have hti : ¬ (st.t ≤ (sn : Int)) := by omega
  have hbi : st.b ≤ (st.spent : Int) := by omega
  go_quiet (fail)
  go_wp2_with fail
  go_quiet (fail)
  go_wp2_with fail
  go_quiet (fail)
  go_wp2_with fail
  generalize hW2 : W1.drewN _ = W2
  have hb2 : Below W1.heap.size W1 W2 := by rw [← hW2]; exact below_drewN (Below.refl _ _) _
  have H2 := hide (H1.out.keep hb2)
  have HF2 := hide (HF1.out.trans (Fr.of_below hb2 _))
  have HZ2 := hide ((hb2.block _ (heap_lt HZ1.out)).trans HZ1.out)
  clear hW2 hb2 H1 HF1 HZ1 hg hc0 hg4 k4
  refine (done_any W2 rb st _ _ 2 (.slice none 0 0) [] H2.out ⟨none, 0, rfl, fun _ => rfl, .inl rfl⟩ (fun k hk => by cases hk) (wf_fail HOK.out) (by have := HOK.out.kept; simp; omega)).mono ?_
  rintro e w3 ⟨rfl, h3⟩
  have H3 := hide h3.out.1
  have HF3 := hide (HF2.out.trans h3.out.2)
  have HZ3 := hide ((h3.out.2.block _ (heap_lt HZ2.out) (fun e => by have := HLT.out _ e; omega)).trans HZ2.out)
  clear h3 H2 HF2 HZ2
  unfold stepV
  generalize hbs : str (replyL (doneM st 2 [])) = bs
  have hcz := box_cells HZ3.out
  have hfz := frozen_of_block HZ3.out
  go_wp2_with fail
  clear hcz hfz
  refine bodyPost_ret (results_cell_row rfl _ _ w.heap.size _ _ _ _ rfl (put3_box (.int .i64 2) (.int .u32 0) (.string bs) HZ3.out) undSt rfl (by kernel_rfl)) rfl ?_
  have hG := put3_grown w3 w.heap.size (.int .i64 2) (.int .u32 0) (.string bs)
  refine ⟨by unfold failP; rw [hbs]; rfl, _, _, H3.out.aside hG (fun e => by have := HLT.out _ e; omega), HF3.out.write hG (Nat.le_refl _)⟩
end Go.Proofs.YtafoepfhepdcoaaGreat

/- trawl.Unpack. -/
namespace Go.Proofs.YtafoepfhepdcoaaGreat
open Go.RowKit Go.Trawl

theorem Rows4.grow {B r : Nat} {w w' : World} {m : Msg} {vq va vu vx : Value} (h : Rows4 B w m vq va vu vx) (hw : w.grownBy w' (some r)) (hr : r < B) : Rows4 B w' m vq va vu vx := by
  have ap : ∀ v : Value, (∀ g, v.ownBlock = some g → B ≤ g) → v.ownBlock = none ∨ v.ownBlock ≠ some r := by
    intro v hv
    cases h1 : v.ownBlock with
    | none => exact .inl rfl
    | some g =>
      have := hv g h1
      exact .inr (fun e => by have := Option.some.inj e; omega)
  exact { h with q := h.q.kept hw (ap _ h.nq), a := h.a.kept hw (ap _ h.na), u := h.u.kept hw (ap _ h.nu), x := h.x.kept hw (ap _ h.nx) }
theorem Rows4.lower {B C : Nat} {w : World} {m : Msg} {vq va vu vx : Value} (h : Rows4 B w m vq va vu vx) (hc : C ≤ B) : Rows4 C w m vq va vu vx :=
  { h with nq := fun g hg => Nat.le_trans hc (h.nq g hg), na := fun g hg => Nat.le_trans hc (h.na g hg), nu := fun g hg => Nat.le_trans hc (h.nu g hg), nx := fun g hg => Nat.le_trans hc (h.nx g hg) }

set_option maxRecDepth 10000 in
set_option maxHeartbeats 1000000 in
theorem tUnpack_no (w : World) (b c : Nat) (s : ByteArray) (hsm : s.size ≤ 2097152) (hsc : s.size ≤ c) (hbl : b < w.heap.size) (hc : Bytes w b s) (hn : unpack s = none) :
    Calls Tryz.prog 16 #[.slice (some ⟨b, 0, none⟩) s.size c] w fun e w' => e = .returned (.tuple #[.agg zM0, .int .i64 1]) ∧ Hid (Below w.heap.size w w') := by
  have hB : Below w.heap.size w (w.alloc (Obj.cells #[Value.int IntKind.u16 0, Value.bool false, Value.int IntKind.i64 0, Value.bool false, Value.bool false, Value.bool false, Value.bool false, Value.int IntKind.i64 0, Value.slice none 0 0, Value.slice none 0 0, Value.slice none 0 0, Value.slice none 0 0] 30)) := (Below.refl _ _).alloc (Nat.le_refl _) _
  have HB := hide hB
  have HC := hide (hc.below hbl hB)
  have HN := hide hn
  clear hc hn hB
  go_enter Tryz.func16, Tryz.ntmps16
  go_wp2_with fail
  refine (wUnpack_any _ b c s hsm hsc (Nat.lt_of_lt_of_le hbl HB.out.size) HC.out).mono ?_
  intro e w1 H1
  obtain ⟨hb1, hno, _⟩ := H1.out
  obtain rfl := hno HN.out
  have HB1 := hide (HB.out.trans (hb1.mono HB.out.size))
  have HZ1 : Hid (w1.heap[w.heap.size]? = some (.cells zM0 30)) := (hb1.block _ (by rw [alloc_size]; omega)).trans (heap_new _ _)
  clear H1 hb1 hno
  have hcz := box_cells HZ1.out
  have hfz := frozen_of_block HZ1.out
  simp only [zM0] at hcz ⊢
  go_wp2_with fail
  clear hcz hfz
  refine bodyPost_ret (results_cell_row2 rfl _ _ w.heap.size _ _ _ _ rfl (put12_box (.int .u16 0) (.bool false) (.int .i64 0) (.bool false) (.bool false) (.bool false) (.bool false) (.int .i64 0) (.slice none 0 0) (.slice none 0 0) (.slice none 0 0) (.slice none 0 0) HZ1.out) undMsg rfl (by kernel_rfl)) rfl ?_
  exact ⟨rfl, below_of_grown HB1.out (Nat.le_refl _) (put12_grown w1 w.heap.size (.int .u16 0) (.bool false) (.int .i64 0) (.bool false) (.bool false) (.bool false) (.bool false) (.int .i64 0) (.slice none 0 0) (.slice none 0 0) (.slice none 0 0) (.slice none 0 0))⟩

set_option maxRecDepth 10000 in
set_option maxHeartbeats 1000000 in
theorem tUnpack_yes (w : World) (b c : Nat) (s : ByteArray) (hsm : s.size ≤ 2097152) (hsc : s.size ≤ c) (hbl : b < w.heap.size) (hc : Bytes w b s) (m : Msg) (hn : unpack s = some m) :
    Calls Tryz.prog 16 #[.slice (some ⟨b, 0, none⟩) s.size c] w fun e w' => ∃ vq va vu vx, e = .returned (.tuple #[.agg (msgCells m vq va vu vx), .int .i64 0]) ∧ Hid (Below w.heap.size w w' ∧ WfM m ∧ Rows4 (w.heap.size + 1) w' m vq va vu vx) := by
  have hB : Below w.heap.size w (w.alloc (Obj.cells #[Value.int IntKind.u16 0, Value.bool false, Value.int IntKind.i64 0, Value.bool false, Value.bool false, Value.bool false, Value.bool false, Value.int IntKind.i64 0, Value.slice none 0 0, Value.slice none 0 0, Value.slice none 0 0, Value.slice none 0 0] 30)) := (Below.refl _ _).alloc (Nat.le_refl _) _
  have HB := hide hB
  have HC := hide (hc.below hbl hB)
  have HN := hide hn
  clear hc hn hB
  go_enter Tryz.func16, Tryz.ntmps16
  go_wp2_with fail
  refine (wUnpack_any _ b c s hsm hsc (Nat.lt_of_lt_of_le hbl HB.out.size) HC.out).mono ?_
  intro e w1 H1
  obtain ⟨hb1, _, hyes⟩ := H1.out
  obtain ⟨vq, va, vu, vx, rfl, hwf, hrows⟩ := hyes m HN.out
  rw [alloc_size] at hrows
  have HRW := hide hrows
  have HWF := hide hwf
  have HB1 := hide (HB.out.trans (hb1.mono HB.out.size))
  have HZ1 : Hid (w1.heap[w.heap.size]? = some (.cells zM0 30)) := (hb1.block _ (by rw [alloc_size]; omega)).trans (heap_new _ _)
  obtain ⟨aq, cq, rfl⟩ := own_slice hrows.q
  obtain ⟨aa, ca, rfl⟩ := own_slice hrows.a
  obtain ⟨au, cu, rfl⟩ := own_slice hrows.u
  obtain ⟨ax, cx, rfl⟩ := own_slice hrows.x
  clear H1 hb1 hyes hrows hwf
  have hcz := box_cells HZ1.out
  have hfz := frozen_of_block HZ1.out
  simp only [zM0] at hcz
  simp only [msgCells]
  go_wp2_with fail
  clear hcz hfz
  refine bodyPost_ret (results_cell_row2 rfl _ _ w.heap.size _ _ _ _ rfl (put12_box (.int .u16 m.id) (.bool m.resp) (.int .i64 m.op) (.bool m.own) (.bool m.cut) (.bool m.wanted) (.bool m.able) (.int .i64 m.code) (.slice aq m.qs.length cq) (.slice aa m.an.length ca) (.slice au m.au.length cu) (.slice ax m.ex.length cx) HZ1.out) undMsg rfl (by kernel_rfl)) rfl ?_
  have hG := put12_grown w1 w.heap.size (.int .u16 m.id) (.bool m.resp) (.int .i64 m.op) (.bool m.own) (.bool m.cut) (.bool m.wanted) (.bool m.able) (.int .i64 m.code) (.slice aq m.qs.length cq) (.slice aa m.an.length ca) (.slice au m.au.length cu) (.slice ax m.ex.length cx)
  exact ⟨_, _, _, _, rfl, below_of_grown HB1.out (Nat.le_refl _) hG, HWF.out, HRW.out.grow hG (by omega)⟩
end Go.Proofs.YtafoepfhepdcoaaGreat

/- The reference's names. -/
namespace Go.Proofs.YtafoepfhepdcoaaGreat
open Go.RowKit Go.Trawl

theorem whole_len {s : ByteArray} {k : Nat} {r : List UInt8 × Nat} (h : whole s k = some r) : behind s k + 1 ≤ r.1.length + k ∧ behind s k < s.size := by
  have hk := le_behind s k
  by_cases hh : behind s k < s.size ∧ (at8 s (behind s k) = 0 ∨ 192 ≤ at8 s (behind s k) ∧ behind s k + 1 < s.size ∧ ptr s (behind s k) < k)
  · obtain ⟨h1, h2 | ⟨h2, h3, h4⟩⟩ := hh
    · rw [whole_end h1 h2] at h
      cases h
      rw [List.length_append, cut_length (by omega)]
      simp only [List.length_cons, List.length_nil]
      omega
    · rw [whole_on h1 h2 h3 h4] at h
      cases hr : whole s (ptr s (behind s k)) with
      | none => rw [hr] at h; cases h
      | some q =>
        have := whole_ends hr
        rw [hr] at h
        cases h
        rw [List.length_append, cut_length (by omega)]
        omega
  · rw [whole_no hh] at h
    cases h
theorem drewN_two (w : World) (n m : Nat) : (w.drewN n).drewN m = w.drewN (n + m) := by
  show ({ w with drawn := w.drawn + n + m } : World) = { w with drawn := w.drawn + (n + m) }
  rw [Nat.add_assoc]
theorem In.after {w w1 : World} {r : Nat} {s : ByteArray} {a : Nat} {bad : Bool} {n : Nat} (h : In w r s a bad) (e : w1 = w.drew.drewN n) : In w1 r s a bad := by
  rw [e]
  exact (h.grow (grownBy_drew w none) (by simp)).drewN n
theorem grown_after {w w1 : World} {n : Nat} (e : w1 = w.drew.drewN n) (r : Option Nat) : w.grownBy w1 r := by
  rw [e]
  exact grownBy_trans (grownBy_drew _ _) (grownBy_drewN _ n _)
/-- It is no name, or a longer one. -/
def Long (s : ByteArray) (a : Nat) : Prop := ∀ r, whole s a = some r → 255 < r.1.length
theorem long_no {s : ByteArray} {a : Nat} (h : whole s a = none) : Long s a := fun r hr => by rw [h] at hr; cases hr
theorem ext_join {s : ByteArray} {a k j : Nat} (h1 : a ≤ k) (h2 : k ≤ j) : (⟨(cut s a k).toArray⟩ : ByteArray) ++ s.extract k j = ⟨(cut s a j).toArray⟩ := by
  rw [ext_cut, ← cut_join h1 h2]
  apply ByteArray.ext
  simp
structure Lab (s : ByteArray) (a : Nat) (t : ByteArray) (k : Nat) (ok : Bool) : Prop where
  yes : ok = true → whole s a = some (t.data.toList, k)
  no : ok = false → Long s a
  size : t.size ≤ 600 * (a + 1)
  le : k ≤ s.size
theorem Lab.bad {s : ByteArray} {a : Nat} (h : Long s a) : Lab s a ⟨#[]⟩ 0 false := ⟨(fun h => by cases h), fun _ => h, Nat.zero_le _, Nat.zero_le _⟩

set_option maxRecDepth 10000 in
set_option maxHeartbeats 4000000 in
theorem labels_any (s : ByteArray) (hs : s.size ≤ 512) (a : Nat) : a ≤ s.size → ∀ w, Calls Tryz.prog 164 #[.string s, .int .i64 a] w fun e w' =>
    ∃ (t : ByteArray) (k : Nat) (ok : Bool), e = .returned (.tuple #[.string t, .int .i64 k, .bool ok]) ∧ Hid (Lab s a t k ok ∧ ∃ n, w' = w.drewN n) := by
  induction a using Nat.strongRecOn with
  | _ a ih =>
    intro ha w
    have IH := hide ih
    clear ih
    go_enter Tryz.func164, Tryz.ntmps164
    go_wp2_with fail
    go_loopw [7, 8] (fun v i wr => ∃ (k : Nat) (o : ByteArray), v = .string o ∧ i = .int .i64 k ∧ a ≤ k ∧ k ≤ s.size ∧ o.size = k - a ∧ k - a ≤ 255 ∧ Hid (o = ⟨(cut s a k).toArray⟩) ∧ Hid (behind s a = behind s k) ∧ wr = w) (fun _ i _ => 1000 - (intOf i).toNat)
    case atStart => exact ⟨a, ⟨#[]⟩, rfl, rfl, Nat.le_refl _, ha, by rw [Nat.sub_self]; rfl, by omega, by unfold Hid; rw [cut_nil], rfl, rfl⟩
    case round =>
      obtain ⟨k, o, rfl, rfl, hak, hk, hos, ho255, HO, HB, rfl⟩ := hrel
      by_cases hlt : k < s.size
      · have hidx := idx s k hlt
        have hl8 := at8_lt s k
        by_cases h1 : 0 < at8 s k
        · by_cases h2 : at8 s k ≤ 63
          · have HE : Hid (behind s k = behind s (k + 1 + at8 s k)) := behind_next s k hlt h1 h2
            by_cases h3 : k + 1 + at8 s k ≤ s.size
            · have hmin : min (k + (1 + at8 s k)) s.size = k + (1 + at8 s k) := by omega
              go_wp2_with fail
              · go_ret3
                refine ⟨_, _, _, rfl, Lab.bad (fun r hr => ?_), 0, rfl⟩
                have h7 := whole_len hr
                have h8 := le_behind s (k + 1 + at8 s k)
                rw [HB.out, HE.out] at h7
                omega
              · refine ⟨⟨k + (1 + at8 s k), _, rfl, by go_num, by omega, by omega, ?_, by omega, ?_, ?_, trivial⟩, by simp [intOf]; omega⟩
                · rw [ByteArray.size_append, hos, ByteArray.size_extract, hmin]
                  omega
                · unfold Hid
                  rw [HO.out, ext_join hak (by omega)]
                · unfold Hid
                  rw [HB.out, HE.out, Nat.add_assoc]
            · go_wp2_with fail
              go_ret3
              refine ⟨_, _, _, rfl, Lab.bad (fun r hr => ?_), 0, rfl⟩
              have h7 := whole_len hr
              have h8 := le_behind s (k + 1 + at8 s k)
              rw [HB.out, HE.out] at h7
              omega
          · have HE : Hid (behind s a = k) := HB.out.trans (behind_stop s k (by omega))
            by_cases h3 : at8 s k < 192
            · go_wp2_with fail
              go_ret3
              exact ⟨_, _, _, rfl, Lab.bad (long_no (whole_no (by rw [HE.out]; omega))), 0, rfl⟩
            · by_cases h4 : k + 1 < s.size
              · have hidx2 := idx s (k + 1) h4
                have hl9 := at8_lt s (k + 1)
                obtain ⟨t, ht⟩ : ∃ t, t = ptr s k := ⟨_, rfl⟩
                have ht2 : (t : Int) = ((at8 s k : Int) - 192) * 256 + (at8 s (k + 1) : Int) := by rw [ht]; unfold ptr; omega
                have HT := hide ht
                clear ht
                have hidx3 : ∀ W, (Instr.index 9 (.string s) (.int .i64 ((k : Int) + 1))).run Tryz.prog W = .ok (.int .u8 (at8 s (k + 1))) W := fun W => by
                  have := idx s (k + 1) h4 W
                  rwa [Int.natCast_add] at this
                clear hidx2
                have hw1 : IntKind.i64.wrap ((k : Int) + 1) = (k : Int) + 1 := by rw [IntKind.wrap_i64]; omega
                have hw2 : IntKind.i64.wrap ((at8 s k : Int) - 192) = (at8 s k : Int) - 192 := by rw [IntKind.wrap_i64]; omega
                have hw3 : IntKind.i64.wrap (((at8 s k : Int) - 192) * 256) = ((at8 s k : Int) - 192) * 256 := by rw [IntKind.wrap_i64]; omega
                have hw4 : IntKind.i64.wrap (((at8 s k : Int) - 192) * 256 + (at8 s (k + 1) : Int)) = (t : Int) := by rw [IntKind.wrap_i64]; omega
                clear ht2
                go_wp2_with fail
                go_quiet (fail)
                by_cases h5 : t < a
                · go_wp2_with fail
                  refine (IH.out t h5 (by omega) _).mono ?_
                  rintro e w2 ⟨t2, k2, ok, rfl, H2⟩
                  have ht2 := H2.out.1.size
                  go_wp2_with fail
                  go_ret3
                  obtain ⟨L2, n2', hw2'⟩ := H2.out
                  have h7 := HE.out
                  have hon := whole_on (s := s) (k := a) (by omega) (by rw [h7]; omega) (by omega) (by rw [h7, ← HT.out]; exact h5)
                  rw [h7, ← HT.out] at hon
                  refine ⟨o ++ t2, k + 2, ok, rfl, ⟨fun hok => ?_, fun hok r hr => ?_, ?_, by omega⟩, nq + n2', by rw [hw2']; exact drewN_two _ _ _⟩
                  · rw [hon, L2.yes hok, HO.out]
                    simp
                  · rw [hon] at hr
                    cases hq : whole s t with
                    | none => rw [hq] at hr; cases hr
                    | some q =>
                      have := L2.no hok q hq
                      rw [hq] at hr
                      cases hr
                      rw [List.length_append]
                      omega
                  · rw [ByteArray.size_append, hos]
                    omega
                · go_wp2_with fail
                  go_ret3
                  exact ⟨_, _, _, rfl, Lab.bad (long_no (whole_no (by rw [HE.out, ← HT.out]; omega))), nq, rfl⟩
              · go_wp2_with fail
                go_ret3
                exact ⟨_, _, _, rfl, Lab.bad (long_no (whole_no (by rw [HE.out]; omega))), 0, rfl⟩
        · have HE : Hid (behind s a = k) := HB.out.trans (behind_stop s k (by omega))
          have h0 : at8 s k = 0 := by omega
          have hidx0 : ∀ W, (Instr.index 9 (.string s) (.int .i64 (k : Int))).run Tryz.prog W = .ok (.int .u8 0) W := fun W => by rw [hidx W, h0]; rfl
          clear hidx
          go_wp2_with fail
          go_ret3
          refine ⟨o ++ ⟨#[0]⟩, k + 1, true, rfl, ⟨fun _ => ?_, (fun h => by cases h), ?_, by omega⟩, 0, rfl⟩
          · rw [whole_end (by rw [HE.out]; exact hlt) (by rw [HE.out]; exact h0), HE.out, HO.out]
            simp
          · rw [ByteArray.size_append, hos]
            have : (⟨#[0]⟩ : ByteArray).size = 1 := rfl
            omega
      · have HE : Hid (behind s a = k) := HB.out.trans (behind_stop s k (by omega))
        go_wp2_with fail
        go_ret3
        exact ⟨_, _, _, rfl, Lab.bad (long_no (whole_no (by rw [HE.out]; omega))), 0, rfl⟩

theorem pName_yes {s : ByteArray} {a : Nat} {t : ByteArray} {k : Nat} {ok : Bool} (h : Lab s a t k ok) (h1 : ok = true) (h2 : t.size ≤ 255) : pName s a = some (t, k) := by
  unfold pName
  rw [h.yes h1]
  simp only [Option.bind_some]
  rw [if_pos (by rw [Array.length_toList]; exact h2)]
theorem pName_no {s : ByteArray} {a : Nat} {t : ByteArray} {k : Nat} {ok : Bool} (h : Lab s a t k ok) (h1 : ok = false ∨ ¬ t.size ≤ 255) : pName s a = none := by
  unfold pName
  cases ok with
  | true =>
    rcases h1 with h1 | h1
    · cases h1
    · rw [h.yes rfl]
      simp only [Option.bind_some]
      rw [if_neg (by rw [Array.length_toList]; exact h1)]
  | false =>
    cases hw : whole s a with
    | none => rfl
    | some r =>
      have := h.no rfl r hw
      simp only [Option.bind_some]
      rw [if_neg (by omega)]

set_option maxRecDepth 10000 in
set_option maxHeartbeats 1000000 in
theorem nameI (w : World) (r : Nat) (s : ByteArray) (a : Nat) (bad : Bool) (h : In w r s a bad) :
    Calls Tryz.prog 128 #[.pointer (some ⟨r, 0, none⟩)] w fun e w' => ∃ x : ByteArray, e = .returned (.string x) ∧ Hid (x.size ≤ 255 ∧ OutI (pName s) w w' r s a bad x) := by
  have HR := hide h
  have hs := h.small
  have ha := h.le
  have hcl := h.cell
  have hfr := h.frozen
  clear h
  cases bad
  · go_enter Tryz.func128, Tryz.ntmps128
    go_wp2_with fail
    go_region_held3 (fun w' => w'.cell? ⟨r, 0, none⟩ = some (.string s) ∧ w'.cell? ⟨r, 1, none⟩ = some (.int .i64 a)) (go_keep)
      (first | (go_at_call 164; refine (labels_any s hs a ha w.drew).mono ?_; rintro e w1 ⟨t, k, ok, rfl, H1⟩; obtain ⟨L1, n1, hw1⟩ := H1.out; have HL := hide L1; have hks := L1.le; have HI1 := hide (HR.out.after hw1); have HG1 := hide (grown_after hw1 (some r)); have hcl1 := HI1.out.cell; have hfr1 := HI1.out.frozen; clear H1 L1 hw1))
    have hts : t.size ≤ 307800 := by have := HL.out.size; omega
    cases ok
    · go_wp2_with fail
      go_ret
      exact ⟨⟨#[0]⟩, rfl, by decide, a, true, HI1.out.setBad true, grownBy_trans HG1.out (grownBy_setCell _ _ _ _), Ran.fail (pName_no HL.out (.inl rfl)) _⟩
    · by_cases ht : t.size ≤ 255
      · go_wp2_with fail
        go_ret
        exact ⟨t, rfl, ht, k, false, HI1.out.setAt hks, grownBy_trans HG1.out (grownBy_setCell _ _ _ _), Ran.good (r := (t, k)) (pName_yes HL.out rfl ht)⟩
      · go_wp2_with fail
        go_ret
        exact ⟨⟨#[0]⟩, rfl, by decide, a, true, HI1.out.setBad true, grownBy_trans HG1.out (grownBy_setCell _ _ _ _), Ran.fail (pName_no HL.out (.inr ht)) _⟩
  · go_enter Tryz.func128, Tryz.ntmps128
    go_wp2_with fail
    go_region_held3 (fun w' => w'.cell? ⟨r, 0, none⟩ = some (.string s) ∧ w'.cell? ⟨r, 1, none⟩ = some (.int .i64 a)) (go_keep)
      (first | (go_at_call 164; refine (labels_any s hs a ha w.drew).mono ?_; rintro e w1 ⟨t, k, ok, rfl, H1⟩; obtain ⟨L1, n1, hw1⟩ := H1.out; have HL := hide L1; have hks := L1.le; have HI1 := hide (HR.out.after hw1); have HG1 := hide (grown_after hw1 (some r)); have hcl1 := HI1.out.cell; have hfr1 := HI1.out.frozen; clear H1 L1 hw1))
    have hts : t.size ≤ 307800 := by have := HL.out.size; omega
    go_wp2_with fail
    go_ret
    exact ⟨⟨#[0]⟩, rfl, by decide, a, true, HI1.out.setBad true, grownBy_trans HG1.out (grownBy_setCell _ _ _ _), Ran.bad _ _⟩
end Go.Proofs.YtafoepfhepdcoaaGreat
