import Derived.Test.YtafoepfhepdcoaaGreatM35
/- The reference: New. -/
namespace Go.Proofs.YtafoepfhepdcoaaGreat
open Go.RowKit Go.Trawl

def confV (b d c t : Int) (vr : Value) : Value := .agg #[.int .i64 b, .int .i64 d, .int .i64 c, .int .i64 t, vr]
/-- Why a configuration is none: the first bound that it breaks. -/
theorem conf_cases {b d c t : Int} {rs : List Int} (h : ¬ confOk b d c t rs) :
    b < 1 ∨ (¬ b < 1 ∧ 200 < b) ∨ (¬ b < 1 ∧ ¬ 200 < b ∧ d < 0) ∨ (¬ b < 1 ∧ ¬ 200 < b ∧ ¬ d < 0 ∧ 6 < d) ∨ (¬ b < 1 ∧ ¬ 200 < b ∧ ¬ d < 0 ∧ ¬ 6 < d ∧ c < 0) ∨ (¬ b < 1 ∧ ¬ 200 < b ∧ ¬ d < 0 ∧ ¬ 6 < d ∧ ¬ c < 0 ∧ 10 < c) ∨
    (¬ b < 1 ∧ ¬ 200 < b ∧ ¬ d < 0 ∧ ¬ 6 < d ∧ ¬ c < 0 ∧ ¬ 10 < c ∧ t < 1) ∨ (¬ b < 1 ∧ ¬ 200 < b ∧ ¬ d < 0 ∧ ¬ 6 < d ∧ ¬ c < 0 ∧ ¬ 10 < c ∧ ¬ t < 1 ∧ 8 < t) ∨
    (¬ b < 1 ∧ ¬ 200 < b ∧ ¬ d < 0 ∧ ¬ 6 < d ∧ ¬ c < 0 ∧ ¬ 10 < c ∧ ¬ t < 1 ∧ ¬ 8 < t ∧ (rs.length : Int) < 1) ∨ (¬ b < 1 ∧ ¬ 200 < b ∧ ¬ d < 0 ∧ ¬ 6 < d ∧ ¬ c < 0 ∧ ¬ 10 < c ∧ ¬ t < 1 ∧ ¬ 8 < t ∧ ¬ (rs.length : Int) < 1 ∧ (8 : Int) < rs.length) := by
  by_cases h1 : b < 1
  · exact .inl h1
  by_cases h2 : 200 < b
  · exact .inr (.inl ⟨h1, h2⟩)
  by_cases h3 : d < 0
  · exact .inr (.inr (.inl ⟨h1, h2, h3⟩))
  by_cases h4 : 6 < d
  · exact .inr (.inr (.inr (.inl ⟨h1, h2, h3, h4⟩)))
  by_cases h5 : c < 0
  · exact .inr (.inr (.inr (.inr (.inl ⟨h1, h2, h3, h4, h5⟩))))
  by_cases h6 : 10 < c
  · exact .inr (.inr (.inr (.inr (.inr (.inl ⟨h1, h2, h3, h4, h5, h6⟩)))))
  by_cases h7 : t < 1
  · exact .inr (.inr (.inr (.inr (.inr (.inr (.inl ⟨h1, h2, h3, h4, h5, h6, h7⟩))))))
  by_cases h8 : 8 < t
  · exact .inr (.inr (.inr (.inr (.inr (.inr (.inr (.inl ⟨h1, h2, h3, h4, h5, h6, h7, h8⟩)))))))
  by_cases h9 : (rs.length : Int) < 1
  · exact .inr (.inr (.inr (.inr (.inr (.inr (.inr (.inr (.inl ⟨h1, h2, h3, h4, h5, h6, h7, h8, h9⟩))))))))
  by_cases h10 : (8 : Int) < rs.length
  · exact .inr (.inr (.inr (.inr (.inr (.inr (.inr (.inr (.inr ⟨h1, h2, h3, h4, h5, h6, h7, h8, h9, h10⟩))))))))
  exact absurd ⟨⟨by omega, by omega⟩, ⟨by omega, by omega⟩, ⟨by omega, by omega⟩, ⟨by omega, by omega⟩, by omega, by omega⟩ h

set_option maxRecDepth 10000 in
set_option maxHeartbeats 4000000 in
theorem rNew_no (w : World) (b d c t : Int) (rs : List Int) (a : Option Addr) (cp : Nat) (h : ¬ confOk b d c t rs) :
    Calls Tryz.prog 86 #[confV b d c t (.slice a rs.length cp)] w fun e w' => e = .returned (.tuple #[.pointer none, .int .i64 2]) ∧ Below w.heap.size w w' := by
  have hB := hide ((Below.refl w.heap.size w).alloc (Nat.le_refl _) (.cells #[.int .i64 b, .int .i64 d, .int .i64 c, .int .i64 t, .slice a rs.length cp] 57))
  have hc := conf_cases h
  clear h
  unfold confV
  rcases hc with h | ⟨h1, h⟩ | ⟨h1, h2, h⟩ | ⟨h1, h2, h3, h⟩ | ⟨h1, h2, h3, h4, h⟩ | ⟨h1, h2, h3, h4, h5, h⟩ | ⟨h1, h2, h3, h4, h5, h6, h⟩ | ⟨h1, h2, h3, h4, h5, h6, h7, h⟩ | ⟨h1, h2, h3, h4, h5, h6, h7, h8, h⟩ | ⟨h1, h2, h3, h4, h5, h6, h7, h8, h9, h⟩
  all_goals
    go_enter Tryz.func86, Tryz.ntmps86
    go_wp2_with fail
    refine bodyPost_ret (results_tmp2 rfl _ _ _) rfl ?_
    exact ⟨rfl, hB.out⟩

def nilV : Value := .slice none 0 0
theorem buildRes (b d c t : Int) (a : Option Addr) (n cp : Nat) (W : World) : (Instr.build 163 #[(0, .agg #[.int .i64 b, .int .i64 d, .int .i64 c, .int .i64 t, .slice a n cp])]).run Tryz.prog W =
    .ok (.agg #[.int .i64 b, .int .i64 d, .int .i64 c, .int .i64 t, .slice a n cp, .int .u16 0, .bool false, .int .u16 0, .bool false, .int .i64 0, .bool false, .bool false, .bool false, .bool false, .int .i64 0, .slice none 0 0, .slice none 0 0, .slice none 0 0, .slice none 0 0, .slice none 0 0, .slice none 0 0, .slice none 0 0, .int .i64 0, .int .u32 0, .string ⟨#[]⟩]) W := run_build W _ _ _ (by kernel_rfl)
attribute [local go_sem] buildRes
theorem words_ok (rs : List Int) : ∀ x ∈ wordsV rs, x.length = 1 ∧ ∀ u ∈ x, u.oneCell' = true := by
  intro x hx
  obtain ⟨y, _, rfl⟩ := List.mem_map.1 hx
  exact ⟨rfl, fun u hu => by simp at hu; subst hu; rfl⟩

set_option maxRecDepth 10000 in
set_option maxHeartbeats 4000000 in
theorem rNew_yes (w : World) (b d c t : Int) (rs : List Int) (vr : Value) (h : confOk b d c t rs) (hv : Lies w 1 vr (wordsV rs)) :
    Calls Tryz.prog 86 #[confV b d c t vr] w fun e w' => ∃ rb, e = .returned (.tuple #[.pointer (some ⟨rb, 0, none⟩), .int .i64 0]) ∧ Hid (∃ V, RefAt w' rb (newSt b d c t rs) V [] ∧ Below w.heap.size w w' ∧ ∀ k, V.owns [] rb k → w.heap.size ≤ k) := by
  obtain ⟨i1, hi1, hy0, hy1, hy2⟩ := info_parts wI0
  obtain ⟨a, cp, rfl, _⟩ := (show Lies w 1 vr (wordsV rs) from hv)
  have hlen : (wordsV rs).length = rs.length := by simp [wordsV]
  rw [hlen] at hv ⊢
  have hB := (Below.refl w.heap.size w).alloc (Nat.le_refl _) (.cells #[.int .i64 b, .int .i64 d, .int .i64 c, .int .i64 t, .slice a rs.length cp] 57)
  have HV := hide (hv.below hB)
  have HB := hide hB
  have HN := hide (heap_new w (.cells #[.int .i64 b, .int .i64 d, .int .i64 c, .int .i64 t, .slice a rs.length cp] 57))
  clear hv hB
  obtain ⟨⟨h1, h2⟩, ⟨h3, h4⟩, ⟨h5, h6⟩, ⟨h7, h8⟩, h9, h10⟩ := h
  have h1 : ¬ b < 1 := by omega
  have h2 : ¬ 200 < b := by omega
  have h3 : ¬ d < 0 := by omega
  have h4 : ¬ 6 < d := by omega
  have h5 : ¬ c < 0 := by omega
  have h6 : ¬ 10 < c := by omega
  have h7 : ¬ t < 1 := by omega
  have h8 : ¬ 8 < t := by omega
  have h11 : ¬ (rs.length : Int) < 1 := by omega
  have h12 : ¬ (8 : Int) < rs.length := by omega
  unfold confV
  have HO1 : Hid ((w.alloc (.cells #[.int .i64 b, .int .i64 d, .int .i64 c, .int .i64 t, .slice a rs.length cp] 57)).ownsRow 0 54 1 (.slice none 0 0) 0 []) := World.ownsRow_nil _ _ _ _
  go_enter Tryz.func86, Tryz.ntmps86
  go_wp2_with (at_builtin; (refine Go.Trawl.wpList_append_lies _ rfl _ _ 55 rfl 54 i1 _ 1 4 uWs hi1 hy0 hy1 hy2 rfl (by decide) (.slice none 0 0) 0 _ rfl (.slice a rs.length cp) (wordsV rs) rfl (words_ok _) HO1.out HV.out (by rw [hlen]; unfold maxLen; omega) (by rw [hlen]; omega) ?_; intro v2 W2 g2; obtain ⟨a2, c2, rfl⟩ := own_slice g2.own; have HG2 := hide g2; have HN2 := hide ((g2.keeps (heap_lt HN.out) (by simp [Value.ownBlock])).1.trans HN.out); have hcm := box_cells HN2.out; have hfm := frozen_of_block HN2.out; clear g2))
  have g2 := HG2.out
  have hz : (w.alloc (.cells #[.int .i64 b, .int .i64 d, .int .i64 c, .int .i64 t, .slice a rs.length cp] 57)).heap.size = w.heap.size + 1 := alloc_size _ _
  have hz2 := g2.grown.size
  have hown := g2.own
  rw [List.nil_append] at hown
  simp only [Nat.zero_add, hlen] at hown
  have hl2 : ∀ k, (Value.slice a2 rs.length c2).ownBlock = some k → w.heap.size < k ∧ k < W2.heap.size := by
    intro k hk
    refine ⟨?_, (hown.lt k hk).2⟩
    have hloc := g2.loc
    rw [hlen, Nat.zero_add] at hloc
    rcases hloc with e | ⟨i, e, hi⟩
    · rw [hk] at e; cases e
    · rw [hk] at e
      cases e
      omega
  obtain ⟨W3, hW3⟩ : ∃ x : World, x = W2.setCell ⟨w.heap.size, 4, none⟩ (.slice a2 rs.length c2) := ⟨_, rfl⟩
  have hz3 : W3.heap.size = W2.heap.size := by rw [hW3]; simp [World.setCell]
  have hB2 : Below w.heap.size w W2 := HB.out.trans ((below_grownBy g2.grown).mono (by omega))
  have hB3 : Below w.heap.size w W3 := by rw [hW3]; exact hB2.trans ((Below.refl _ W2).setCell (show w.heap.size ≤ (⟨w.heap.size, 4, none⟩ : Addr).block from Nat.le_refl _) _)
  have hr3 : Lies W3 1 (.slice a2 rs.length c2) (wordsV rs) := (own_lies hown (fun x hx => (words_ok rs x hx).1) hlen.symm).keep (by omega) (fun k hk _ => by rw [hW3]; exact Below.heap_setCell W2 ⟨w.heap.size, 4, none⟩ _ k (show k ≠ w.heap.size by have := hl2 k hk; omega))
  refine bodyPost_ret (results_tmp2 rfl _ _ _) rfl ?_
  rw [← hW3]
  have hB4 := hB3.alloc (by omega) (.cells (refCells (newSt b d c t rs) ⟨.slice a2 rs.length c2, nilV, nilV, nilV, nilV, nilV, nilV, nilV⟩) 163)
  refine ⟨W2.heap.size, rfl, ⟨.slice a2 rs.length c2, nilV, nilV, nilV, nilV, nilV, nilV, nilV⟩, ?_, hB4, ?_⟩
  · refine ⟨by rw [← hz3]; exact heap_new W3 _, rfl, hr3.below ((Below.refl _ _).alloc (Nat.le_refl _) _), ⟨liesNil _ _, liesNil _ _, liesNil _ _, liesNil _ _⟩, World.ownsRow_nil _ _ _ _, World.ownsRow_nil _ _ _ _, World.ownsRow_nil _ _ _ _, (fun c hc => by cases hc), ?_, ?_, (fun c hc => by cases hc)⟩
    · intro v hv k hk hw
      simp only [RV.reads, List.flatMap_nil, List.mem_cons, List.not_mem_nil, or_false] at hv
      have h0 : k < W2.heap.size := by
        rcases hv with rfl | rfl | rfl | rfl | rfl
        · exact (hl2 k hk).2
        all_goals cases hk
      rcases hw with e | e | e | e
      · omega
      all_goals cases e
    · intro k hk
      rw [alloc_size, hz3]
      rcases hk with (e | e | e | e) | ⟨v, hv, hk⟩
      · omega
      · cases e
      · cases e
      · cases e
      · simp only [RV.reads, List.flatMap_nil, List.mem_cons, List.not_mem_nil, or_false] at hv
        rcases hv with rfl | rfl | rfl | rfl | rfl
        · have := hl2 k hk; omega
        all_goals cases hk
  · intro k hk
    rcases hk with (e | e | e | e) | ⟨v, hv, hk⟩
    · omega
    · cases e
    · cases e
    · cases e
    · simp only [RV.reads, List.flatMap_nil, List.mem_cons, List.not_mem_nil, or_false] at hv
      rcases hv with rfl | rfl | rfl | rfl | rfl
      · have := hl2 k hk; omega
      all_goals cases hk
end Go.Proofs.YtafoepfhepdcoaaGreat

/- The reference: Ask. -/
namespace Go.Proofs.YtafoepfhepdcoaaGreat
open Go.RowKit Go.Trawl

/-- What a call answers with an error, and what the resolver is then. -/
def Answers (w : World) (rb : Nat) (V : RV) (cs : List ChV) (p : RSt × Value × Int) (e : Ending) (w' : World) : Prop :=
  e = .returned (.tuple #[p.2.1, .int .i64 p.2.2]) ∧ Hid (∃ V' cs', RefAt w' rb p.1 V' cs' ∧ Fr w w' (V.owns cs rb) (V'.owns cs' rb))
theorem buildSt0 (W : World) : (Instr.build 111 #[]).run Tryz.prog W = .ok (.agg #[.int .i64 0, .int .u32 0, .string ⟨#[]⟩]) W := run_build W _ _ _ (by kernel_rfl)
theorem buildSt2 (k : Int) (W : World) : (Instr.build 111 #[(0, .int .i64 k)]).run Tryz.prog W = .ok (.agg #[.int .i64 k, .int .u32 0, .string ⟨#[]⟩]) W := run_build W _ _ _ (by kernel_rfl)
theorem buildMr (i k : Int) (W : World) : (Instr.build 30 #[(0, .int .u16 i), (7, .int .i64 k)]).run Tryz.prog W = .ok (.agg (msgCells (refM i k []) (.slice none 0 0) (.slice none 0 0) (.slice none 0 0) (.slice none 0 0))) W := run_build W _ _ _ (by kernel_rfl)
attribute [local go_sem] buildSt0 buildSt2 buildMr

/-- The cell of the result has been made. -/
structure Begun (w W : World) (rb : Nat) (st : RSt) (V : RV) (cs : List ChV) : Prop where
  ref : RefAt W rb st V cs
  fr : Fr w W (V.owns cs rb) (V.owns cs rb)
  res : W.heap[w.heap.size]? = some (.cells #[Value.int IntKind.i64 0, Value.int IntKind.u32 0, Value.string { data := #[] }] 111)
  lt : ∀ k, V.owns cs rb k → k < w.heap.size
theorem Begun.start {w : World} {rb : Nat} {st : RSt} {V : RV} {cs : List ChV} (h : RefAt w rb st V cs) : Begun w (w.alloc (.cells #[Value.int IntKind.i64 0, Value.int IntKind.u32 0, Value.string { data := #[] }] 111)) rb st V cs := by
  have hB := (Below.refl w.heap.size w).alloc (Nat.le_refl _) (.cells #[Value.int IntKind.i64 0, Value.int IntKind.u32 0, Value.string { data := #[] }] 111)
  exact ⟨h.keep hB, Fr.of_below hB _, heap_new _ _, h.lt⟩
theorem Begun.below {w W W' : World} {rb : Nat} {st : RSt} {V : RV} {cs : List ChV} (h : Begun w W rb st V cs) (hb : Below W.heap.size W W') : Begun w W' rb st V cs :=
  ⟨h.ref.keep hb, h.fr.trans (Fr.of_below hb _), (hb.block _ (heap_lt h.res)).trans h.res, h.lt⟩
theorem Begun.put {w W : World} {rb : Nat} {st : RSt} {V : RV} {cs : List ChV} (h : Begun w W rb st V cs) (v0 v1 v2 : Value) : RefAt (put3 W w.heap.size v0 v1 v2) rb st V cs ∧ Fr w (put3 W w.heap.size v0 v1 v2) (V.owns cs rb) (V.owns cs rb) := by
  have hG := put3_grown W w.heap.size v0 v1 v2
  exact ⟨h.ref.aside hG (fun e => by have := h.lt _ e; omega), h.fr.write hG (Nat.le_refl _)⟩

set_option maxRecDepth 10000 in
set_option maxHeartbeats 2000000 in
theorem rAsk_busy (w : World) (rb : Nat) (st : RSt) (V : RV) (cs : List ChV) (s : ByteArray) (h : RefAt w rb st V cs) (hbz : st.busy = true) :
    Calls Tryz.prog 53 #[.pointer (some ⟨rb, 0, none⟩), .string s] w (Answers w rb V cs (st, stepV 0 0 ⟨#[]⟩, 3)) := by
  have H1 := hide (Begun.start h)
  have H := hide h
  clear h
  unfold Answers
  have hc := box_cells H1.out.ref.box
  simp only [refCells, hbz] at hc
  go_enter Tryz.func53, Tryz.ntmps53
  go_wp2_with fail
  refine bodyPost_ret (results_cell_row2 rfl _ _ w.heap.size _ _ _ _ rfl (heap_new w _) undSt rfl (by kernel_rfl)) rfl ?_
  have hB := (Below.refl w.heap.size w).alloc (Nat.le_refl _) (.cells #[Value.int IntKind.i64 0, Value.int IntKind.u32 0, Value.string { data := #[] }] 111)
  exact ⟨rfl, V, cs, H.out.keep hB, Fr.of_below hB _⟩

set_option maxRecDepth 10000 in
set_option maxHeartbeats 2000000 in
theorem rAsk_short (w : World) (rb : Nat) (st : RSt) (V : RV) (cs : List ChV) (s : ByteArray) (h : RefAt w rb st V cs) (hbz : st.busy = false) (hs : s.size < 12) :
    Calls Tryz.prog 53 #[.pointer (some ⟨rb, 0, none⟩), .string s] w (Answers w rb V cs (st, stepV 2 0 ⟨#[]⟩, 0)) := by
  have H1 := hide (Begun.start h)
  have H := hide h
  clear h
  unfold Answers
  have hc := box_cells H1.out.ref.box
  simp only [refCells, hbz] at hc
  go_enter Tryz.func53, Tryz.ntmps53
  go_wp2_with fail
  refine bodyPost_ret (results_cell_row2 rfl _ _ w.heap.size _ _ _ _ rfl (heap_new w _) undSt rfl (by kernel_rfl)) rfl ?_
  have hB := (Below.refl w.heap.size w).alloc (Nat.le_refl _) (.cells #[Value.int IntKind.i64 2, Value.int IntKind.u32 0, Value.string { data := #[] }] 111)
  exact ⟨rfl, V, cs, H.out.keep hB, Fr.of_below hB _⟩

theorem ref_wf {i k : Int} {qs : List Qn} (h0 : 0 ≤ i) (h1 : i ≤ 65535) (k0 : 0 ≤ k) (k1 : k ≤ 15) (hq : qs.length ≤ 2097152) (hw : ∀ q ∈ qs, WfQ q) : WfM (refM i k qs) :=
  ⟨h0, h1, by simp [refM], by simp [refM], by simp [refM]; omega, by simp [refM]; omega, hq, by simp [refM], by simp [refM], by simp [refM], hw, by simp [refM, recs]⟩
theorem nil_at (w : World) (i k : Int) : MsgAt w (refM i k []) (.slice none 0 0) (.slice none 0 0) (.slice none 0 0) (.slice none 0 0) := ⟨liesNil _ _, liesNil _ _, liesNil _ _, liesNil _ _⟩

set_option maxRecDepth 10000 in
set_option maxHeartbeats 4000000 in
theorem rAsk_bad (w : World) (rb : Nat) (st : RSt) (V : RV) (cs : List ChV) (s : ByteArray) (h : RefAt w rb st V cs) (hbz : st.busy = false) (hs : ¬ s.size < 12) (hsm : s.size ≤ 2097152) (hbad : unE s = 1 ∨ unE s = 0 ∧ (unM s).resp = true) :
    Calls Tryz.prog 53 #[.pointer (some ⟨rb, 0, none⟩), .string s] w (Answers w rb V cs (st, stepV 2 0 (str (replyL (refM (n2 s 0) 1 []))), 0)) := by
  have H1 := hide (Begun.start h)
  clear h
  unfold Answers
  have hc := box_cells H1.out.ref.box
  simp only [refCells, hbz] at hc
  have hi0 : ∀ W, (Instr.index 9 (.string s) (.int .i64 0)).run Tryz.prog W = .ok (.int .u8 (at8 s 0)) W := fun W => idx s 0 (by omega) W
  have hi1 : ∀ W, (Instr.index 9 (.string s) (.int .i64 1)).run Tryz.prog W = .ok (.int .u8 (at8 s 1)) W := fun W => idx s 1 (by omega) W
  have b0 := at8_lt s 0
  have b1 := at8_lt s 1
  have HID : Hid (IntKind.u16.wrap (IntKind.u16.wrap (IntKind.u16.wrap ((at8 s 0 : Nat) : Int) * 256) + IntKind.u16.wrap ((at8 s 1 : Nat) : Int)) = (n2 s 0 : Int)) := by
    have e : n2 s 0 = at8 s 0 * 256 + at8 s 1 := rfl
    rw [e]
    show _ = _
    simp only [IntKind.wrap_u16]
    omega
  have HWF : Hid (WfM (refM (n2 s 0) 1 [])) := ref_wf (by omega) (by have := n2_lt s 0; omega) (by omega) (by omega) (by simp) (by simp)
  go_enter Tryz.func53, Tryz.ntmps53
  go_wp2_with fail
  generalize w.alloc _ = W1 at H1 hc ⊢
  clear hc
  refine (rUnpack2 W1 s hsm).mono ?_
  rintro e w2 ⟨aq, cq, aa, ca, au, cu, ax, cx, rfl, H2⟩
  have HB2 := hide H2.out.1
  clear H2
  have HBG2 := hide (H1.out.below HB2.out)
  clear HB2 H1
  have er0 : unE s = 1 ∨ unE s = 0 := by rcases hbad with h | h; exact .inl h; exact .inr h.1
  generalize unM s = m at hbad ⊢
  generalize unE s = er at hbad er0 ⊢
  have HBG3 := hide (HBG2.out.below ((Below.refl _ _).alloc (Nat.le_refl _) (.cells (msgCells m (.slice aq m.qs.length cq) (.slice aa m.an.length ca) (.slice au m.au.length cu) (.slice ax m.ex.length cx)) 30)))
  have hcm := box_cells (heap_new w2 (.cells (msgCells m (.slice aq m.qs.length cq) (.slice aa m.an.length ca) (.slice au m.au.length cu) (.slice ax m.ex.length cx)) 30))
  obtain ⟨M, hM⟩ : ∃ M, M = w2.heap.size := ⟨_, rfl⟩
  simp only [msgCells] at hcm HBG3 ⊢
  rcases hbad with rfl | ⟨rfl, hrp⟩
  · go_wp2_with fail
    generalize w2.alloc _ = W3 at HBG3 hcm ⊢
    clear hcm
    have HBG4 := hide (HBG3.out.below (below_drewN (Below.refl _ W3) 1))
    go_region_held3 (fun _ => True) (trivial) (first | (go_at_call 87; rw [HID.out]; refine (reply_any W3.drew (refM (n2 s 0) 1 []) (.slice none 0 0) (.slice none 0 0) (.slice none 0 0) (.slice none 0 0) HWF.out (nil_at _ _ _)).mono ?_; rintro e w4 ⟨rfl, H4⟩; have HBG5 := hide (HBG4.out.below H4.out); clear H4; unfold stepV; have hcz := box_cells HBG5.out.res; have hfz := frozen_of_block HBG5.out.res))
    all_goals
      go_wp2_with fail
      generalize str (replyL (refM (n2 s 0) 1 [])) = bs
      clear hcz hfz
      refine bodyPost_ret (results_cell_row2 rfl _ _ w.heap.size _ _ _ _ rfl (put3_box (.int .i64 2) (.int .u32 0) (.string bs) HBG5.out.res) undSt rfl (by kernel_rfl)) rfl ?_
      exact ⟨rfl, V, cs, HBG5.out.put _ _ _⟩
  · rw [hrp] at hcm HBG3
    go_wp2_with fail
    generalize w2.alloc _ = W3 at HBG3 hcm ⊢
    clear hcm
    have HBG4 := hide (HBG3.out.below (below_drewN (Below.refl _ W3) 1))
    go_region_held3 (fun _ => True) (trivial) (first | (go_at_call 87; rw [HID.out]; refine (reply_any W3.drew (refM (n2 s 0) 1 []) (.slice none 0 0) (.slice none 0 0) (.slice none 0 0) (.slice none 0 0) HWF.out (nil_at _ _ _)).mono ?_; rintro e w4 ⟨rfl, H4⟩; have HBG5 := hide (HBG4.out.below H4.out); clear H4; unfold stepV; have hcz := box_cells HBG5.out.res; have hfz := frozen_of_block HBG5.out.res))
    all_goals
      go_wp2_with fail
      generalize str (replyL (refM (n2 s 0) 1 [])) = bs
      clear hcz hfz
      refine bodyPost_ret (results_cell_row2 rfl _ _ w.heap.size _ _ _ _ rfl (put3_box (.int .i64 2) (.int .u32 0) (.string bs) HBG5.out.res) undSt rfl (by kernel_rfl)) rfl ?_
      exact ⟨rfl, V, cs, HBG5.out.put _ _ _⟩
end Go.Proofs.YtafoepfhepdcoaaGreat
