import Derived.Test.YtpahhgalhhbhjaaGreatM35
/- The program: a search begins. -/
namespace Go.Proofs.YtpahhgalhhbhjaaGreat
open Go.RowKit Go.Trawl

theorem word_one {w : World} {v : Value} {x : Int} {rs : List Int} (h : Lies w 1 v (wordsV (x :: rs))) : ∃ b off n c, v = .slice (some ⟨b, off, none⟩) (n + 1) c ∧ w.cell? ⟨b, off, none⟩ = some (.int .u32 x) := by
  obtain ⟨a, c, hv, _, hc⟩ := h
  rcases hc with he | ⟨b, off, he, _, hc⟩
  · cases he
  · subst he
    exact ⟨b, off, rs.length, c, by rw [hv]; simp [wordsV], hc 0 [.int .u32 x] rfl 0 _ rfl⟩
def firstM (st : RSt) (q : Qn) : Msg := askM (nextId st.id) ⟨q.name, q.kind, rootN, [], 0, []⟩
def askedSt (st : RSt) : RSt := { st with busy := true, id := nextId st.id }

set_option maxRecDepth 10000 in
set_option maxHeartbeats 4000000 in
theorem begin_new (w : World) (sb : Nat) (vr : Value) (st : RSt) (q : Qn) (x : Int) (rs : List Int) (h : SAt w sb vr st) (hid0 : 0 ≤ st.id) (hid1 : st.id ≤ 65535) (hr : st.roots = x :: rs) (hwf : WfM (firstM st q)) :
    Calls Tryz.prog 60 #[.pointer (some ⟨sb, 0, none⟩), .agg #[.string q.name, .int .u16 q.kind, .int .u16 q.cls]] w fun e w' => ∃ a c,
      e = .returned (stepX 1 x (.slice a (packL (firstM st q)).length c)) ∧ Hid (Told w w' sb vr (askedSt st) (.slice a (packL (firstM st q)).length c) (packL (firstM st q))) := by
  have hsl : sb < w.heap.size := heap_lt h.box
  have hvl := h.lt
  have HS := hide h
  have HWF := hide hwf
  have hc1 := box_cells ((h.below ((Below.refl w.heap.size w).alloc (Nat.le_refl _) (.cells #[.string q.name, .int .u16 q.kind, .int .u16 q.cls] 28))).box)
  have hf1 := frozen_of_block ((h.below ((Below.refl w.heap.size w).alloc (Nat.le_refl _) (.cells #[.string q.name, .int .u16 q.kind, .int .u16 q.cls] 28))).box)
  clear h hwf
  simp only [stCells] at hc1
  go_enter Tryz.func60, Tryz.ntmps60
  go_wp2_with fail
  clear hc1 hf1
  obtain ⟨W1, hW1⟩ : ∃ x : World, x = w.setCell ⟨sb, 6, none⟩ (.bool true) := ⟨_, rfl⟩
  have hz1 : W1.heap.size = w.heap.size := by rw [hW1]; simp [World.setCell]
  have hs1 : SAt W1 sb vr { st with busy := true } := by rw [hW1]; exact HS.out.set 6 _ rfl rfl
  have hg1 : w.grownBy W1 (some sb) := by rw [hW1]; exact grownBy_setCell w sb 6 _
  rw [← hW1]
  clear hW1
  have hb2 := (Below.refl W1.heap.size W1).alloc (Nat.le_refl _) (.cells #[Value.string q.name, Value.int IntKind.u16 q.kind, Value.int IntKind.u16 q.cls] 28)
  have hs2 := hs1.below hb2
  have hx2 := heap_new W1 (.cells #[Value.string q.name, Value.int IntKind.u16 q.kind, Value.int IntKind.u16 q.cls] 28)
  have hz2 := alloc_size W1 (.cells #[Value.string q.name, Value.int IntKind.u16 q.kind, Value.int IntKind.u16 q.cls] 28)
  have hg2 : w.grownBy (W1.alloc (.cells #[Value.string q.name, Value.int IntKind.u16 q.kind, Value.int IntKind.u16 q.cls] 28)) (some sb) := grownBy_trans hg1 (grown_alloc _ _ _)
  generalize W1.alloc (.cells #[Value.string q.name, Value.int IntKind.u16 q.kind, Value.int IntKind.u16 q.cls] 28) = W2 at hs2 hx2 hz2 hg2 ⊢
  have hb3 := (Below.refl W2.heap.size W2).alloc (Nat.le_refl _) (.cells #[Value.int IntKind.i64 0, Value.int IntKind.u32 0, Value.slice none 0 0] 61)
  have HS3 := hide (hs2.below hb3)
  have HQ3 := hide (heap_old hx2 (.cells #[Value.int IntKind.i64 0, Value.int IntKind.u32 0, Value.slice none 0 0] 61))
  have HX3 := hide (heap_new W2 (.cells #[Value.int IntKind.i64 0, Value.int IntKind.u32 0, Value.slice none 0 0] 61))
  have HG3 := hide (grownBy_trans hg2 (grown_alloc W2 (.cells #[Value.int IntKind.i64 0, Value.int IntKind.u32 0, Value.slice none 0 0] 61) (some sb)))
  generalize W2.alloc (.cells #[Value.int IntKind.i64 0, Value.int IntKind.u32 0, Value.slice none 0 0] 61) = W3 at HS3 HX3 HQ3 HG3 ⊢
  rw [hz2, hz1] at HX3
  rw [hz1] at HQ3
  clear hs1 hg1 hb2 hs2 hx2 hz2 hz1 hg2 hb3 HS
  have hrt := HS3.out.roots
  rw [show ({ st with busy := true } : RSt).roots = x :: rs from hr] at hrt
  obtain ⟨b, off, n, c, hvr, hx0⟩ := word_one hrt
  have hc3 := box_cells HS3.out.box
  simp only [stCells] at hc3
  rw [hvr] at hc3
  have hq3 := box_cells HQ3.out
  obtain ⟨W4, hW4⟩ : ∃ x : World, x = W3.drew := ⟨_, rfl⟩
  have hb4 : Below W3.heap.size W3 W4 := by rw [hW4]; exact below_drewN (Below.refl _ _) 1
  have HS4 := hide (HS3.out.below hb4)
  have HX4 := hide ((hb4.block _ (heap_lt HX3.out)).trans HX3.out)
  have HQ4 := hide ((hb4.block _ (heap_lt HQ3.out)).trans HQ3.out)
  have HG4 : Hid (w.grownBy W4 (some sb)) := by rw [hW4]; exact grownBy_trans HG3.out (grownBy_drew _ _)
  have HW4 := hide hW4
  have HVR := hide hvr
  have HR := hide hr
  have hns : ¬ w.heap.size + 1 = sb := by omega
  have hns' : ¬ sb = w.heap.size + 1 := by omega
  have hbl : b < w.heap.size := hvl b (by rw [hvr]; rfl)
  have hnb : ¬ w.heap.size + 1 = b := by omega
  have hnb' : ¬ b = w.heap.size + 1 := by omega
  have HC4 : Hid (∀ w5 st5, st5.roots = x :: rs → SAt w5 sb vr st5 → W4.grownBy w5 (some sb) → w5.cell? ⟨sb, 4, none⟩ = some (.slice (some ⟨b, off, none⟩) (n + 1) c) ∧ w5.cell? ⟨b, off, none⟩ = some (.int .u32 x) ∧ w5.cell? ⟨w.heap.size, 0, none⟩ = some (.string q.name) ∧ w5.cell? ⟨w.heap.size, 1, none⟩ = some (.int .u16 q.kind)) := by
    intro w5 st5 hr5 hs5 hg5
    have e1 := box_cells hs5.box
    have e2 := box_cells ((hg5.block w.heap.size (heap_lt HQ4.out) (by simp; omega)).trans HQ4.out)
    have h5 := hs5.roots
    rw [hr5] at h5
    obtain ⟨b5, off5, n5, c5, hv5, hx5⟩ := word_one h5
    rw [HVR.out] at hv5
    cases hv5
    exact ⟨(e1 4).trans (by rw [HVR.out]; rfl), hx5, (e2 0).trans rfl, (e2 1).trans rfl⟩
  clear hb4 hW4 hvr hr hrt
  go_region_held3 (fun w' => w'.cell? ⟨sb, 4, none⟩ = some (.slice (some ⟨b, off, none⟩) (n + 1) c) ∧ w'.cell? ⟨b, off, none⟩ = some (.int .u32 x) ∧ w'.cell? ⟨w.heap.size, 0, none⟩ = some (.string q.name) ∧ w'.cell? ⟨w.heap.size, 1, none⟩ = some (.int .u16 q.kind)) (first | (go_keep; done) | exact hs5) (first | (go_at_call 91; rw [← HW4.out]; refine (send_new W4 sb vr { st with busy := true } x q.kind q.name HS4.out hid0 hid1 HWF.out).mono ?_; rintro e w5 ⟨a5, c5, rfl, H5⟩; have hs5 := HC4.out w5 (askedSt st) HR.out H5.out.at_ H5.out.grown; have HX5 := hide ((H5.out.grown.block _ (heap_lt HX4.out) (by simp; omega)).trans HX4.out); have hcz := box_cells HX5.out; have hfz := frozen_of_block HX5.out; unfold stepX))
  all_goals
    clear hc3 hq3 hcz hfz hs5 hns hns' hnb hnb' hx0
    have hf : askM (nextId ({ st with busy := true } : RSt).id) ⟨q.name, q.kind, rootN, [], 0, []⟩ = firstM st q := rfl
    rw [hf] at H5
    generalize hps : packL (firstM st q) = ps at H5 ⊢
    go_wp2_with fail
    refine bodyPost_ret (results_cell_row rfl _ _ (w.heap.size + 1) _ _ _ _ rfl (put3_box (.int .i64 1) (.int .u32 x) (.slice a5 ps.length c5) HX5.out) undXs rfl (by kernel_rfl)) rfl ?_
    have hG := put3_grown w5 (w.heap.size + 1) (.int .i64 1) (.int .u32 x) (.slice a5 ps.length c5)
    have hz4 := heap_lt HX4.out
    subst hps
    refine ⟨a5, c5, rfl, ⟨SAt.grown (H5.out.at_ : SAt w5 sb vr (askedSt st)) hG (by omega) (fun e => by have := hvl _ e; omega), own_grown H5.out.own hG (fun e => by have := H5.out.new _ e; omega), fun k hk => by have := H5.out.new k hk; omega, ?_⟩⟩
    exact grownBy_trans' (grownBy_trans HG4.out H5.out.grown) hG (.inr ⟨_, rfl, by omega⟩)
end Go.Proofs.YtpahhgalhhbhjaaGreat

/- The reference: New. -/
namespace Go.Proofs.YtpahhgalhhbhjaaGreat
open Go.RowKit Go.Trawl

def confV (b d c t : Int) (vr : Value) : Value := .agg #[.int .i64 b, .int .i64 d, .int .i64 c, .int .i64 t, vr]
/-- Why a configuration is none: the first bound that it breaks. -/
theorem conf_cases {b d c t : Int} {rs : List Int} (h : ¬ confOk b d c t rs) :
    b < 1 ∨ (¬ b < 1 ∧ 200 < b) ∨ (¬ b < 1 ∧ ¬ 200 < b ∧ d < 0) ∨ (¬ b < 1 ∧ ¬ 200 < b ∧ ¬ d < 0 ∧ 6 < d) ∨ (¬ b < 1 ∧ ¬ 200 < b ∧ ¬ d < 0 ∧ ¬ 6 < d ∧ c < 0) ∨ (¬ b < 1 ∧ ¬ 200 < b ∧ ¬ d < 0 ∧ ¬ 6 < d ∧ ¬ c < 0 ∧ 10 < c) ∨
    (¬ b < 1 ∧ ¬ 200 < b ∧ ¬ d < 0 ∧ ¬ 6 < d ∧ ¬ c < 0 ∧ ¬ 10 < c ∧ t < 1) ∨ (¬ b < 1 ∧ ¬ 200 < b ∧ ¬ d < 0 ∧ ¬ 6 < d ∧ ¬ c < 0 ∧ ¬ 10 < c ∧ ¬ t < 1 ∧ 8 < t) ∨
    (¬ b < 1 ∧ ¬ 200 < b ∧ ¬ d < 0 ∧ ¬ 6 < d ∧ ¬ c < 0 ∧ ¬ 10 < c ∧ ¬ t < 1 ∧ ¬ 8 < t ∧ (rs.length : Int) < 1) ∨ (¬ b < 1 ∧ ¬ 200 < b ∧ ¬ d < 0 ∧ ¬ 6 < d ∧ ¬ c < 0 ∧ ¬ 10 < c ∧ ¬ t < 1 ∧ ¬ 8 < t ∧ ¬ (rs.length : Int) < 1 ∧ (8 : Int) < rs.length) := by
  by_cases h1 : b < 1
  · exact .inl h1
  by_cases h2 : 200 < b
  · exact .inr (.inl ⟨h1, h2⟩)
  by_cases h3 : d < 0
  · exact .inr (.inr (.inl ⟨h1, h2, h3⟩))
  by_cases h4 : 6 < d
  · exact .inr (.inr (.inr (.inl ⟨h1, h2, h3, h4⟩)))
  by_cases h5 : c < 0
  · exact .inr (.inr (.inr (.inr (.inl ⟨h1, h2, h3, h4, h5⟩))))
  by_cases h6 : 10 < c
  · exact .inr (.inr (.inr (.inr (.inr (.inl ⟨h1, h2, h3, h4, h5, h6⟩)))))
  by_cases h7 : t < 1
  · exact .inr (.inr (.inr (.inr (.inr (.inr (.inl ⟨h1, h2, h3, h4, h5, h6, h7⟩))))))
  by_cases h8 : 8 < t
  · exact .inr (.inr (.inr (.inr (.inr (.inr (.inr (.inl ⟨h1, h2, h3, h4, h5, h6, h7, h8⟩)))))))
  by_cases h9 : (rs.length : Int) < 1
  · exact .inr (.inr (.inr (.inr (.inr (.inr (.inr (.inr (.inl ⟨h1, h2, h3, h4, h5, h6, h7, h8, h9⟩))))))))
  by_cases h10 : (8 : Int) < rs.length
  · exact .inr (.inr (.inr (.inr (.inr (.inr (.inr (.inr (.inr ⟨h1, h2, h3, h4, h5, h6, h7, h8, h9, h10⟩))))))))
  exact absurd ⟨⟨by omega, by omega⟩, ⟨by omega, by omega⟩, ⟨by omega, by omega⟩, ⟨by omega, by omega⟩, by omega, by omega⟩ h

set_option maxRecDepth 10000 in
set_option maxHeartbeats 4000000 in
theorem rNew_no (w : World) (b d c t : Int) (rs : List Int) (a : Option Addr) (cp : Nat) (h : ¬ confOk b d c t rs) :
    Calls Tryz.prog 34 #[confV b d c t (.slice a rs.length cp)] w fun e w' => e = .returned (.tuple #[.pointer none, .int .i64 2]) ∧ Below w.heap.size w w' := by
  have hB := hide ((Below.refl w.heap.size w).alloc (Nat.le_refl _) (.cells #[.int .i64 b, .int .i64 d, .int .i64 c, .int .i64 t, .slice a rs.length cp] 41))
  have hc := conf_cases h
  clear h
  unfold confV
  rcases hc with h | ⟨h1, h⟩ | ⟨h1, h2, h⟩ | ⟨h1, h2, h3, h⟩ | ⟨h1, h2, h3, h4, h⟩ | ⟨h1, h2, h3, h4, h5, h⟩ | ⟨h1, h2, h3, h4, h5, h6, h⟩ | ⟨h1, h2, h3, h4, h5, h6, h7, h⟩ | ⟨h1, h2, h3, h4, h5, h6, h7, h8, h⟩ | ⟨h1, h2, h3, h4, h5, h6, h7, h8, h9, h⟩
  all_goals
    go_enter Tryz.func34, Tryz.ntmps34
    go_wp2_with fail
    refine bodyPost_ret (results_tmp2 rfl _ _ _) rfl ?_
    exact ⟨rfl, hB.out⟩

def nilV : Value := .slice none 0 0
theorem buildRes (b d c t : Int) (a : Option Addr) (n cp : Nat) (W : World) : (Instr.build 103 #[(0, .agg #[.int .i64 b, .int .i64 d, .int .i64 c, .int .i64 t, .slice a n cp])]).run Tryz.prog W =
    .ok (.agg #[.int .i64 b, .int .i64 d, .int .i64 c, .int .i64 t, .slice a n cp, .int .u16 0, .bool false, .int .u16 0, .bool false, .int .i64 0, .bool false, .bool false, .bool false, .bool false, .int .i64 0, .slice none 0 0, .slice none 0 0, .slice none 0 0, .slice none 0 0, .slice none 0 0, .slice none 0 0, .slice none 0 0, .int .i64 0, .int .u32 0, .string ⟨#[]⟩]) W := run_build W _ _ _ (by kernel_rfl)
attribute [local go_sem] buildRes
theorem words_ok (rs : List Int) : ∀ x ∈ wordsV rs, x.length = 1 ∧ ∀ u ∈ x, u.oneCell' = true := by
  intro x hx
  obtain ⟨y, _, rfl⟩ := List.mem_map.1 hx
  exact ⟨rfl, fun u hu => by simp at hu; subst hu; rfl⟩

set_option maxRecDepth 10000 in
set_option maxHeartbeats 4000000 in
theorem rNew_yes (w : World) (b d c t : Int) (rs : List Int) (vr : Value) (h : confOk b d c t rs) (hv : Lies w 1 vr (wordsV rs)) :
    Calls Tryz.prog 34 #[confV b d c t vr] w fun e w' => ∃ rb, e = .returned (.tuple #[.pointer (some ⟨rb, 0, none⟩), .int .i64 0]) ∧ Hid (∃ V, RefAt w' rb (newSt b d c t rs) V [] ∧ Below w.heap.size w w' ∧ ∀ k, V.owns [] rb k → w.heap.size ≤ k) := by
  obtain ⟨i1, hi1, hy0, hy1, hy2⟩ := info_parts wI0
  obtain ⟨a, cp, rfl, _⟩ := (show Lies w 1 vr (wordsV rs) from hv)
  have hlen : (wordsV rs).length = rs.length := by simp [wordsV]
  rw [hlen] at hv ⊢
  have hB := (Below.refl w.heap.size w).alloc (Nat.le_refl _) (.cells #[.int .i64 b, .int .i64 d, .int .i64 c, .int .i64 t, .slice a rs.length cp] 41)
  have HV := hide (hv.below hB)
  have HB := hide hB
  have HN := hide (heap_new w (.cells #[.int .i64 b, .int .i64 d, .int .i64 c, .int .i64 t, .slice a rs.length cp] 41))
  clear hv hB
  obtain ⟨⟨h1, h2⟩, ⟨h3, h4⟩, ⟨h5, h6⟩, ⟨h7, h8⟩, h9, h10⟩ := h
  have h1 : ¬ b < 1 := by omega
  have h2 : ¬ 200 < b := by omega
  have h3 : ¬ d < 0 := by omega
  have h4 : ¬ 6 < d := by omega
  have h5 : ¬ c < 0 := by omega
  have h6 : ¬ 10 < c := by omega
  have h7 : ¬ t < 1 := by omega
  have h8 : ¬ 8 < t := by omega
  have h11 : ¬ (rs.length : Int) < 1 := by omega
  have h12 : ¬ (8 : Int) < rs.length := by omega
  unfold confV
  have HO1 : Hid ((w.alloc (.cells #[.int .i64 b, .int .i64 d, .int .i64 c, .int .i64 t, .slice a rs.length cp] 41)).ownsRow 0 33 1 (.slice none 0 0) 0 []) := World.ownsRow_nil _ _ _ _
  go_enter Tryz.func34, Tryz.ntmps34
  go_wp2_with (at_builtin; (refine Go.Trawl.wpList_append_lies _ rfl _ _ 39 rfl 33 i1 _ 1 4 uWs hi1 hy0 hy1 hy2 rfl (by decide) (.slice none 0 0) 0 _ rfl (.slice a rs.length cp) (wordsV rs) rfl (words_ok _) HO1.out HV.out (by rw [hlen]; unfold maxLen; omega) (by rw [hlen]; omega) ?_; intro v2 W2 g2; obtain ⟨a2, c2, rfl⟩ := own_slice g2.own; have HG2 := hide g2; have HN2 := hide ((g2.keeps (heap_lt HN.out) (by simp [Value.ownBlock])).1.trans HN.out); have hcm := box_cells HN2.out; have hfm := frozen_of_block HN2.out; clear g2))
  have g2 := HG2.out
  have hz : (w.alloc (.cells #[.int .i64 b, .int .i64 d, .int .i64 c, .int .i64 t, .slice a rs.length cp] 41)).heap.size = w.heap.size + 1 := alloc_size _ _
  have hz2 := g2.grown.size
  have hown := g2.own
  rw [List.nil_append] at hown
  simp only [Nat.zero_add, hlen] at hown
  have hl2 : ∀ k, (Value.slice a2 rs.length c2).ownBlock = some k → w.heap.size < k ∧ k < W2.heap.size := by
    intro k hk
    refine ⟨?_, (hown.lt k hk).2⟩
    have hloc := g2.loc
    rw [hlen, Nat.zero_add] at hloc
    rcases hloc with e | ⟨i, e, hi⟩
    · rw [hk] at e; cases e
    · rw [hk] at e
      cases e
      omega
  obtain ⟨W3, hW3⟩ : ∃ x : World, x = W2.setCell ⟨w.heap.size, 4, none⟩ (.slice a2 rs.length c2) := ⟨_, rfl⟩
  have hz3 : W3.heap.size = W2.heap.size := by rw [hW3]; simp [World.setCell]
  have hB2 : Below w.heap.size w W2 := HB.out.trans ((below_grownBy g2.grown).mono (by omega))
  have hB3 : Below w.heap.size w W3 := by rw [hW3]; exact hB2.trans ((Below.refl _ W2).setCell (show w.heap.size ≤ (⟨w.heap.size, 4, none⟩ : Addr).block from Nat.le_refl _) _)
  have hr3 : Lies W3 1 (.slice a2 rs.length c2) (wordsV rs) := (own_lies hown (fun x hx => (words_ok rs x hx).1) hlen.symm).keep (by omega) (fun k hk _ => by rw [hW3]; exact Below.heap_setCell W2 ⟨w.heap.size, 4, none⟩ _ k (show k ≠ w.heap.size by have := hl2 k hk; omega))
  refine bodyPost_ret (results_tmp2 rfl _ _ _) rfl ?_
  rw [← hW3]
  have hB4 := hB3.alloc (by omega) (.cells (refCells (newSt b d c t rs) ⟨.slice a2 rs.length c2, nilV, nilV, nilV, nilV, nilV, nilV, nilV⟩) 103)
  refine ⟨W2.heap.size, rfl, ⟨.slice a2 rs.length c2, nilV, nilV, nilV, nilV, nilV, nilV, nilV⟩, ?_, hB4, ?_⟩
  · refine ⟨by rw [← hz3]; exact heap_new W3 _, rfl, hr3.below ((Below.refl _ _).alloc (Nat.le_refl _) _), ⟨liesNil _ _, liesNil _ _, liesNil _ _, liesNil _ _⟩, World.ownsRow_nil _ _ _ _, World.ownsRow_nil _ _ _ _, World.ownsRow_nil _ _ _ _, (fun c hc => by cases hc), ?_, ?_, (fun c hc => by cases hc)⟩
    · intro v hv k hk hw
      simp only [RV.reads, List.flatMap_nil, List.mem_cons, List.not_mem_nil, or_false] at hv
      have h0 : k < W2.heap.size := by
        rcases hv with rfl | rfl | rfl | rfl | rfl
        · exact (hl2 k hk).2
        all_goals cases hk
      rcases hw with e | e | e | e
      · omega
      all_goals cases e
    · intro k hk
      rw [alloc_size, hz3]
      rcases hk with (e | e | e | e) | ⟨v, hv, hk⟩
      · omega
      · cases e
      · cases e
      · cases e
      · simp only [RV.reads, List.flatMap_nil, List.mem_cons, List.not_mem_nil, or_false] at hv
        rcases hv with rfl | rfl | rfl | rfl | rfl
        · have := hl2 k hk; omega
        all_goals cases hk
  · intro k hk
    rcases hk with (e | e | e | e) | ⟨v, hv, hk⟩
    · omega
    · cases e
    · cases e
    · cases e
    · simp only [RV.reads, List.flatMap_nil, List.mem_cons, List.not_mem_nil, or_false] at hv
      rcases hv with rfl | rfl | rfl | rfl | rfl
      · have := hl2 k hk; omega
      all_goals cases hk
end Go.Proofs.YtpahhgalhhbhjaaGreat
