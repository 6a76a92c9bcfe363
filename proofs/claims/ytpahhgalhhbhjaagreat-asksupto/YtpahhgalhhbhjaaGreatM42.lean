import Derived.Test.YtpahhgalhhbhjaaGreatM36
import Derived.Test.YtpahhgalhhbhjaaGreatM35
import Derived.Test.YtpahhgalhhbhjaaGreatM41
import Derived.Test.YtpahhgalhhbhjaaGreatM34
import Derived.Test.YtpahhgalhhbhjaaGreatM16
/- The program: New. -/
namespace Go.Proofs.YtpahhgalhhbhjaaGreat
open Go.RowKit Go.Trawl

theorem conf_cases2 {b d c t : Int} {rs : List Int} (h : ¬ confOk b d c t rs) : (¬ 1 ≤ b) ∨ (1 ≤ b ∧ ¬ b ≤ 200) ∨ (1 ≤ b ∧ b ≤ 200 ∧ ¬ 0 ≤ d) ∨ (1 ≤ b ∧ b ≤ 200 ∧ 0 ≤ d ∧ ¬ d ≤ 6) ∨ (1 ≤ b ∧ b ≤ 200 ∧ 0 ≤ d ∧ d ≤ 6 ∧ ¬ 0 ≤ c) ∨ (1 ≤ b ∧ b ≤ 200 ∧ 0 ≤ d ∧ d ≤ 6 ∧ 0 ≤ c ∧ ¬ c ≤ 10) ∨ (1 ≤ b ∧ b ≤ 200 ∧ 0 ≤ d ∧ d ≤ 6 ∧ 0 ≤ c ∧ c ≤ 10 ∧ ¬ 1 ≤ t) ∨ (1 ≤ b ∧ b ≤ 200 ∧ 0 ≤ d ∧ d ≤ 6 ∧ 0 ≤ c ∧ c ≤ 10 ∧ 1 ≤ t ∧ ¬ t ≤ 8) ∨ (1 ≤ b ∧ b ≤ 200 ∧ 0 ≤ d ∧ d ≤ 6 ∧ 0 ≤ c ∧ c ≤ 10 ∧ 1 ≤ t ∧ t ≤ 8 ∧ ¬ ((1 : Int) ≤ rs.length)) ∨ (1 ≤ b ∧ b ≤ 200 ∧ 0 ≤ d ∧ d ≤ 6 ∧ 0 ≤ c ∧ c ≤ 10 ∧ 1 ≤ t ∧ t ≤ 8 ∧ (1 : Int) ≤ rs.length ∧ ¬ ((rs.length : Int) ≤ 8)) := by
  by_cases h1 : 1 ≤ b
  case neg => exact .inl h1
  by_cases h2 : b ≤ 200
  case neg => exact .inr (.inl ⟨h1, h2⟩)
  by_cases h3 : 0 ≤ d
  case neg => exact .inr (.inr (.inl ⟨h1, h2, h3⟩))
  by_cases h4 : d ≤ 6
  case neg => exact .inr (.inr (.inr (.inl ⟨h1, h2, h3, h4⟩)))
  by_cases h5 : 0 ≤ c
  case neg => exact .inr (.inr (.inr (.inr (.inl ⟨h1, h2, h3, h4, h5⟩))))
  by_cases h6 : c ≤ 10
  case neg => exact .inr (.inr (.inr (.inr (.inr (.inl ⟨h1, h2, h3, h4, h5, h6⟩)))))
  by_cases h7 : 1 ≤ t
  case neg => exact .inr (.inr (.inr (.inr (.inr (.inr (.inl ⟨h1, h2, h3, h4, h5, h6, h7⟩))))))
  by_cases h8 : t ≤ 8
  case neg => exact .inr (.inr (.inr (.inr (.inr (.inr (.inr (.inl ⟨h1, h2, h3, h4, h5, h6, h7, h8⟩)))))))
  by_cases h9 : (1 : Int) ≤ rs.length
  case neg => exact .inr (.inr (.inr (.inr (.inr (.inr (.inr (.inr (.inl ⟨h1, h2, h3, h4, h5, h6, h7, h8, h9⟩))))))))
  by_cases h10 : (rs.length : Int) ≤ 8
  case neg => exact .inr (.inr (.inr (.inr (.inr (.inr (.inr (.inr (.inr (⟨h1, h2, h3, h4, h5, h6, h7, h8, h9, h10⟩)))))))))
  exact absurd ⟨⟨h1, h2⟩, ⟨h3, h4⟩, ⟨h5, h6⟩, ⟨h7, h8⟩, by omega, by omega⟩ h

set_option maxRecDepth 10000 in
set_option maxHeartbeats 4000000 in
theorem isConfig_no (b d c t : Int) (rs : List Int) (a : Option Addr) (cp : Nat) (w : World) (h : ¬ confOk b d c t rs) :
    Calls Tryz.prog 80 #[confV b d c t (.slice a rs.length cp)] w fun e w' => e = .returned (.bool false) ∧ Hid (Below w.heap.size w w') := by
  have HB := hide ((Below.refl w.heap.size w).alloc (Nat.le_refl _) (.cells #[.int .i64 b, .int .i64 d, .int .i64 c, .int .i64 t, .slice a rs.length cp] 41))
  have hc := conf_cases2 h
  clear h
  unfold confV
  rcases hc with h | ⟨h1, h⟩ | ⟨h1, h2, h⟩ | ⟨h1, h2, h3, h⟩ | ⟨h1, h2, h3, h4, h⟩ | ⟨h1, h2, h3, h4, h5, h⟩ | ⟨h1, h2, h3, h4, h5, h6, h⟩ | ⟨h1, h2, h3, h4, h5, h6, h7, h⟩ | ⟨h1, h2, h3, h4, h5, h6, h7, h8, h⟩ | ⟨h1, h2, h3, h4, h5, h6, h7, h8, h9, h⟩
  all_goals
    go_enter Tryz.func80, Tryz.ntmps80
    go_wp2
    go_ret
    exact ⟨rfl, HB.out⟩
set_option maxRecDepth 10000 in
set_option maxHeartbeats 4000000 in
theorem isConfig_yes (b d c t : Int) (rs : List Int) (a : Option Addr) (cp : Nat) (w : World) (h : confOk b d c t rs) :
    Calls Tryz.prog 80 #[confV b d c t (.slice a rs.length cp)] w fun e w' => e = .returned (.bool true) ∧ Hid (Below w.heap.size w w') := by
  have HB := hide ((Below.refl w.heap.size w).alloc (Nat.le_refl _) (.cells #[.int .i64 b, .int .i64 d, .int .i64 c, .int .i64 t, .slice a rs.length cp] 41))
  obtain ⟨⟨h1, h2⟩, ⟨h3, h4⟩, ⟨h5, h6⟩, ⟨h7, h8⟩, h9', h10'⟩ := h
  have h9 : (1 : Int) ≤ rs.length := by omega
  have h10 : (rs.length : Int) ≤ 8 := by omega
  clear h9' h10'
  unfold confV
  go_enter Tryz.func80, Tryz.ntmps80
  go_wp2
  go_ret
  exact ⟨rfl, HB.out⟩
end Go.Proofs.YtpahhgalhhbhjaaGreat

/- The program: New, of any configuration. -/
namespace Go.Proofs.YtpahhgalhhbhjaaGreat
open Go.RowKit Go.Trawl
theorem buildState (b d c t : Int) (a : Option Addr) (n cp : Nat) (W : World) : (Instr.build 127 #[(0, .agg #[.int .i64 b, .int .i64 d, .int .i64 c, .int .i64 t, .slice a n cp])]).run Tryz.prog W =
    .ok (.agg #[.int .i64 b, .int .i64 d, .int .i64 c, .int .i64 t, .slice a n cp, .int .u16 0, .bool false]) W := run_build W _ _ _ (by kernel_rfl)
theorem buildXres (v : Option Addr) (W : World) : (Instr.build 99 #[(1, .pointer v)]).run Tryz.prog W = .ok (.agg #[.int .i32 0, .int .u32 0, .pointer v]) W := run_build W _ _ _ (by kernel_rfl)
attribute [local go_sem] buildState buildXres

theorem notNil (a : Addr) (n c : Nat) (W : World) : (binOp BinOp.eql 39 (.slice (some a) n c) (.slice none 0 0)).run Tryz.prog W = .ok (.bool false) W := by
  kernel_rfl
attribute [local go_sem] notNil
set_option maxRecDepth 10000 in
set_option maxHeartbeats 1000000 in
theorem clone_any (w : World) (b off n cp : Nat) (rs : List Int) (hn : rs.length = n) (h1 : 1 ≤ n) (hv : Lies w 1 (.slice (some ⟨b, off, none⟩) n cp) (wordsV rs)) (hs : n ≤ 8) :
    Calls Tryz.prog 81 #[.slice (some ⟨b, off, none⟩) n cp] w fun e w' => ∃ a c, e = .returned (.slice a n c) ∧ Hid (Below w.heap.size w w' ∧ w'.ownsRow 0 33 1 (.slice a n c) n (wordsV rs).flatten ∧ ∀ k, (Value.slice a n c).ownBlock = some k → w.heap.size ≤ k) := by
  obtain ⟨i1, hi1, hy0, hy1, hy2⟩ := info_parts wI0
  have hlen : (wordsV rs).length = n := by simp [wordsV, hn]
  have hb1 := (Below.refl w.heap.size w).alloc (Nat.le_refl _) (.cells #[] 33)
  have HV := hide (hv.below hb1)
  have HO : Hid ((w.alloc (.cells #[] 33)).ownsRow 0 33 1 (.slice (some ⟨w.heap.size, 0, none⟩) 0 0) 0 []) := ⟨rfl, .inr ⟨w.heap.size, 0, #[], rfl, Nat.zero_le _, heap_new w _, Nat.le_refl _, by unfold maxLen; omega, rfl, rfl⟩⟩
  have HB := hide hb1
  clear hv hb1
  go_enter Tryz.func81, Tryz.ntmps81
  go_wp2_with (at_builtin; (refine Go.Trawl.wpList_append_lies _ rfl _ _ 39 rfl 33 i1 _ 1 4 uWs hi1 hy0 hy1 hy2 rfl (by decide) (.slice (some ⟨w.heap.size, 0, none⟩) 0 0) 0 _ rfl (.slice (some ⟨b, off, none⟩) n cp) (wordsV rs) rfl (words_ok _) HO.out HV.out (by rw [hlen]; unfold maxLen; omega) (by rw [hlen]; omega) ?_; intro v2 W2 g2; rw [hlen] at g2; simp only [Nat.zero_add, List.nil_append] at g2; obtain ⟨a2, c2, rfl⟩ := own_slice g2.own; have HG2 := hide g2; clear g2))
  go_ret
  refine ⟨a2, c2, rfl, below_of_grown HB.out (Nat.le_refl _) HG2.out.grown, HG2.out.own, fun k hk => ?_⟩
  rcases HG2.out.loc with e | ⟨i, e, hi⟩
  · rw [hk] at e
    have : k = w.heap.size := Option.some.inj e
    omega
  · rw [hk] at e
    cases e
    rw [alloc_size] at hi
    omega

set_option maxRecDepth 10000 in
set_option maxHeartbeats 2000000 in
theorem sNew_no (w : World) (b d c t : Int) (rs : List Int) (a : Option Addr) (cp : Nat) (h : ¬ confOk b d c t rs) :
    Calls Tryz.prog 56 #[confV b d c t (.slice a rs.length cp)] w fun e w' => e = .returned (.tuple #[.pointer none, .int .i64 2]) ∧ Hid (Below w.heap.size w w') := by
  have HB := hide ((Below.refl w.heap.size w).alloc (Nat.le_refl _) (.cells #[.int .i64 b, .int .i64 d, .int .i64 c, .int .i64 t, .slice a rs.length cp] 41))
  have HN := hide h
  clear h
  unfold confV
  go_enter Tryz.func56, Tryz.ntmps56
  go_wp2_with fail
  refine (isConfig_no b d c t rs a cp _ HN.out).mono ?_
  rintro e w2 ⟨rfl, H2⟩
  have HB2 := hide (HB.out.trans (H2.out.mono HB.out.size))
  go_wp2_with fail
  refine bodyPost_ret (results_tmp2 rfl _ _ _) rfl ?_
  exact ⟨rfl, HB2.out⟩

set_option maxRecDepth 10000 in
set_option maxHeartbeats 2000000 in
theorem sNew_yes (w : World) (b d c t : Int) (rs : List Int) (vr : Value) (h : confOk b d c t rs) (hv : Lies w 1 vr (wordsV rs)) :
    Calls Tryz.prog 56 #[confV b d c t vr] w fun e w' => ∃ sb, e = .returned (.tuple #[.pointer (some ⟨sb, 0, none⟩), .int .i64 0]) ∧ Hid (∃ vr', SAt w' sb vr' (newSt b d c t rs) ∧ Below w.heap.size w w' ∧ w.heap.size ≤ sb ∧ ∀ k, vr'.ownBlock = some k → w.heap.size ≤ k) := by
  have h1 := h.2.2.2.2.1
  have h2 := h.2.2.2.2.2
  obtain ⟨x, rs', hx⟩ : ∃ x rs', rs = x :: rs' := by
    cases rs with
    | nil => simp at h1
    | cons x rs => exact ⟨x, rs, rfl⟩
  obtain ⟨ba, off, n, cp, hvr, _⟩ := word_one (by rw [← hx]; exact hv)
  have hn : rs.length = n + 1 := by
    obtain ⟨_, _, e, _⟩ := hv
    rw [hvr] at e
    injection e with _ e2 _
    simp [wordsV] at e2
    omega
  subst hvr
  clear hx
  rw [← hn] at hv ⊢
  have hb1 := (Below.refl w.heap.size w).alloc (Nat.le_refl _) (.cells #[.int .i64 b, .int .i64 d, .int .i64 c, .int .i64 t, .slice (some ⟨ba, off, none⟩) rs.length cp] 41)
  have HB := hide hb1
  have HV := hide (hv.below hb1)
  have HX := hide (heap_new w (.cells #[.int .i64 b, .int .i64 d, .int .i64 c, .int .i64 t, .slice (some ⟨ba, off, none⟩) rs.length cp] 41))
  have HN := hide h
  have HL := hide hn
  clear h hb1 hv hn
  unfold confV
  go_enter Tryz.func56, Tryz.ntmps56
  go_wp2_with fail
  refine (isConfig_yes b d c t rs (some ⟨ba, off, none⟩) cp _ HN.out).mono ?_
  rintro e w2 ⟨rfl, H2⟩
  have HB2 := hide (HB.out.trans (H2.out.mono HB.out.size))
  have HV2 := hide (HV.out.below H2.out)
  have HX2 := hide ((H2.out.block _ (heap_lt HX.out)).trans HX.out)
  clear H2 HB HV HX
  have hc2 := box_cells HX2.out
  go_wp2_with fail
  refine (clone_any w2 ba off rs.length cp rs rfl h1 HV2.out h2).mono ?_
  rintro e w3 ⟨a3, c3, rfl, H3⟩
  have HB3 := hide (HB2.out.trans (H3.out.1.mono HB2.out.size))
  have HX3 := hide ((H3.out.1.block _ (heap_lt HX2.out)).trans HX2.out)
  have hz2 : w.heap.size < w2.heap.size := heap_lt HX2.out
  have hz3 : w.heap.size < w3.heap.size := heap_lt HX3.out
  clear hc2
  have hc3 := box_cells HX3.out
  have hf3 := frozen_of_block HX3.out
  go_wp2_with fail
  clear hc3 hf3
  obtain ⟨W4, hW4⟩ : ∃ x : World, x = w3.setCell ⟨w.heap.size, 4, none⟩ (.slice a3 rs.length c3) := ⟨_, rfl⟩
  have hz4 : W4.heap.size = w3.heap.size := by rw [hW4]; simp [World.setCell]
  have hG4 : w3.grownBy W4 (some w.heap.size) := by rw [hW4]; exact grownBy_setCell w3 w.heap.size 4 _
  have ho4 := own_grown H3.out.2.1 hG4 (fun e => by have := H3.out.2.2 _ e; omega)
  rw [← hW4]
  refine bodyPost_ret (results_tmp2 rfl _ _ _) rfl ?_
  have hl4 : ∀ k, (Value.slice a3 rs.length c3).ownBlock = some k → k < w3.heap.size := fun k hk => by have := (H3.out.2.1.lt k hk).2; omega
  have hb5 := (Below.refl W4.heap.size W4).alloc (Nat.le_refl _) (.cells (stCells (newSt b d c t rs) (.slice a3 rs.length c3)) 127)
  refine ⟨W4.heap.size, by rw [hz4]; rfl, .slice a3 rs.length c3, ⟨heap_new W4 _, (own_lies ho4 (fun x hx => (words_ok rs x hx).1) (by simp [wordsV])).below hb5, (fun k hk => by have := hl4 k hk; omega), (fun k hk => by have := hl4 k hk; rw [alloc_size]; omega)⟩, ?_, by omega, fun k hk => by have := H3.out.2.2 k hk; omega⟩
  exact (below_of_grown HB3.out (Nat.le_refl _) hG4).trans (hb5.mono (by omega))

set_option maxRecDepth 10000 in
set_option maxHeartbeats 2000000 in
theorem tNew_no (w : World) (b d c t : Int) (rs : List Int) (a : Option Addr) (cp : Nat) (h : ¬ confOk b d c t rs) :
    Calls Tryz.prog 33 #[confV b d c t (.slice a rs.length cp)] w fun e w' => e = .returned (.tuple #[.pointer none, .int .i64 2]) ∧ Hid (Below w.heap.size w w') := by
  have HB := hide ((Below.refl w.heap.size w).alloc (Nat.le_refl _) (.cells #[.int .i64 b, .int .i64 d, .int .i64 c, .int .i64 t, .slice a rs.length cp] 41))
  have HN := hide h
  clear h
  unfold confV
  go_enter Tryz.func33, Tryz.ntmps33
  go_wp2_with fail
  refine (sNew_no _ b d c t rs a cp HN.out).mono ?_
  rintro e w2 ⟨rfl, H2⟩
  have HB2 := hide (HB.out.trans (H2.out.mono HB.out.size))
  go_wp2_with fail
  refine bodyPost_ret (results_tmp2 rfl _ _ _) rfl ?_
  exact ⟨rfl, HB2.out⟩

set_option maxRecDepth 10000 in
set_option maxHeartbeats 2000000 in
theorem tNew_yes (w : World) (b d c t : Int) (rs : List Int) (vr : Value) (h : confOk b d c t rs) (hv : Lies w 1 vr (wordsV rs)) :
    Calls Tryz.prog 33 #[confV b d c t vr] w fun e w' => ∃ xb, e = .returned (.tuple #[.pointer (some ⟨xb, 0, none⟩), .int .i64 0]) ∧ Hid (∃ sb vr', PAt w' xb sb vr' (newSt b d c t rs) ∧ Below w.heap.size w w' ∧ ∀ k, pOwns xb sb vr' k → w.heap.size ≤ k) := by
  have hv0 := hv
  obtain ⟨a, cp, rfl, _⟩ := hv0
  have hb1 := (Below.refl w.heap.size w).alloc (Nat.le_refl _) (.cells #[.int .i64 b, .int .i64 d, .int .i64 c, .int .i64 t, .slice a (wordsV rs).length cp] 41)
  have HB := hide hb1
  have HV := hide (hv.below hb1)
  have HN := hide h
  clear h hb1 hv
  unfold confV
  go_enter Tryz.func33, Tryz.ntmps33
  go_wp2_with fail
  refine (sNew_yes _ b d c t rs _ HN.out HV.out).mono ?_
  rintro e w2 ⟨sb, rfl, H2⟩
  obtain ⟨vr', hs, hb, hl, hk⟩ := H2.out
  have HB2 := hide (HB.out.trans (hb.mono HB.out.size))
  have HS2 := hide hs
  have HL2 : Hid (w.heap.size ≤ sb ∧ ∀ k, vr'.ownBlock = some k → w.heap.size ≤ k) := ⟨Nat.le_trans HB.out.size hl, fun k h => Nat.le_trans HB.out.size (hk k h)⟩
  clear H2 hs hb hl hk
  go_wp2_with fail
  refine bodyPost_ret (results_tmp2 rfl _ _ _) rfl ?_
  have hb5 := (Below.refl w2.heap.size w2).alloc (Nat.le_refl _) (.cells #[.int .i32 0, .int .u32 0, .pointer (some ⟨sb, 0, none⟩)] 99)
  refine ⟨w2.heap.size, rfl, sb, vr', ⟨⟨.int .u32 0, heap_new w2 _⟩, HS2.out.below hb5, fun k hk => by have := HS2.out.lt k hk; omega⟩, HB2.out.trans (hb5.mono HB2.out.size), ?_⟩
  have := HB2.out.size
  rintro k (rfl | rfl | hk)
  · exact this
  · exact HL2.out.1
  · exact HL2.out.2 k hk
end Go.Proofs.YtpahhgalhhbhjaaGreat

/- step and UpTo, of every Unpack. -/
namespace Go.Proofs.YtpahhgalhhbhjaaGreat
open Go.RowKit Go.Trawl
attribute [local go_sem] buildW

set_option maxRecDepth 10000 in
set_option maxHeartbeats 1000000 in
theorem step2 (w : World) (B ws : Nat) (U : Nat → Prop) (vps : Value) (hs : List Nat) (vh : Value) (o : OpV) (hk : o.kind = 2) (hl : hs.length ≤ 99999960) (hst : St B U w ws vps hs vh) (ho : OpAt w o) :
    Calls Tryz.prog 9 #[ptrV ws, .agg o.arr] w fun e w' => e = .returned (.bool true) ∧ Below B w w' ∧ ∃ U' hs' vh', St B U' w' ws vps hs' vh' ∧ hs'.length = hs.length + 20 ∧ Went w w' ws (fun _ => False) U U' vh vh' := by
  obtain ⟨kind, n, m, vq, va, vu, vx, s, frm, b, d, c, t, vr, rs⟩ := o
  dsimp only at hk
  subst hk
  have HST := hide hst
  have HO := hide ho
  clear hst ho
  unfold ptrV OpV.arr
  dsimp only
  go_enter Tryz.func9, Tryz.ntmps9
  go_wp2_with (refine wpList_load_cells _ rfl 43 _ rfl ⟨w.heap.size, 0, none⟩ rfl (OpV.arr ⟨2, n, m, vq, va, vu, vx, s, frm, b, d, c, t, vr, rs⟩) _ undO rfl oI (cells_new w (OpV.arr ⟨2, n, m, vq, va, vu, vx, s, frm, b, d, c, t, vr, rs⟩) 43) ?_)
  have hbl : Below w.heap.size w (w.alloc (.cells (OpV.arr ⟨2, n, m, vq, va, vu, vx, s, frm, b, d, c, t, vr, rs⟩) 43)) := (Below.refl _ _).alloc (Nat.le_refl _) _
  refine (free2 _ B ws U vps hs vh ⟨2, n, m, vq, va, vu, vx, s, frm, b, d, c, t, vr, rs⟩ rfl hl (HST.out.below hbl) (HO.out.below hbl)).mono ?_
  rintro e w2 ⟨rfl, hb2, U2, hs2, vh2, hex1, hex2, hex3⟩
  have hex := (⟨U2, hs2, vh2, hex1, hex2, Went.after hbl hex3⟩ : ∃ U' hs' vh', St B U' w2 ws vps hs' vh' ∧ hs'.length = hs.length + 20 ∧ Went w w2 ws (fun _ => False) U U' vh vh')
  have HB2 := hide ((hbl.mono HST.out.sz).trans hb2)
  have HE := hide hex
  clear hb2 hex hex1 hex2 hex3 hbl
  go_wp2_with fail
  go_ret
  exact ⟨rfl, HB2.out, HE.out⟩

set_option maxRecDepth 10000 in
set_option maxHeartbeats 2000000 in
theorem upTo2 (w : World) (v : Value) (os : List OpV) (hn : os.length ≤ 4000000) (hv : Lies w 21 v (os.map OpV.cells)) (hat : ∀ o ∈ os, OpAt w o) :
    Calls Tryz.prog 7 #[v, .int .i64 2, .int .i64 2] w fun e w' => e = .returned (.int .i64 (-1)) ∧ Below w.heap.size w w' := by
  have hv0 := hv
  obtain ⟨a, c, rfl, -⟩ := hv0
  rw [List.length_map] at hv ⊢
  have HV := hide hv
  have HAT := hide hat
  have HS := hide (St.start w)
  clear hv hat
  go_enter Tryz.func7, Tryz.ntmps7
  go_wp2_with fail
  go_loopw [8] (fun i wr => ∃ (k : Nat) (U : Nat → Prop) (hs : List Nat) (vh : Value), i = .int .i64 k ∧ k ≤ os.length ∧ hs.length ≤ 20 * k ∧ Hid (St w.heap.size U wr w.heap.size (.slice none 0 0) hs vh) ∧ Hid (Below w.heap.size w wr)) (fun i _ => os.length - (intOf i).toNat)
  case atStart => exact ⟨0, _, [], _, rfl, Nat.zero_le _, by simp, HS.out, (Below.refl _ _).alloc (Nat.le_refl _) _⟩
  case round =>
    obtain ⟨k, U, hs, vh, rfl, hk, hhs, HST, HB⟩ := hrel
    by_cases hlt : k < os.length
    · obtain ⟨o, ho⟩ : ∃ o, os[k]? = some o := ⟨_, List.getElem?_eq_getElem hlt⟩
      have hoa := HAT.out o (List.mem_of_getElem? ho)
      obtain ⟨b, off, rfl, hkc, hcs⟩ := scr_at (HV.out.below HB.out) ho
      have HC := hide hcs
      have HOA := hide (hoa.below HB.out)
      clear hcs ho hoa
      by_cases h1 : o.kind < 2
      · have hd1 : decide (o.kind < 2) = true := by simp; exact h1
        go_wp2_with fail
        exact ⟨⟨k + 1, U, hs, vh, by go_num, by omega, by omega, HST.out, HB.out⟩, by simp [intOf]; omega⟩
      · by_cases h2 : 2 < o.kind
        · have hd1 : decide (o.kind < 2) = false := by simp; omega
          have hd2 : decide (2 < o.kind) = true := by simp; omega
          go_wp2_with fail
          exact ⟨⟨k + 1, U, hs, vh, by go_num, by omega, by omega, HST.out, HB.out⟩, by simp [intOf]; omega⟩
        · have hk1 : o.kind = 2 := by omega
          rw [hk1] at hkc
          have HK1 := hide hk1
          clear h1 h2 hk1
          go_wp2_with (refine wpList_load_cells _ rfl 43 _ rfl ⟨b, off + k * 21, none⟩ rfl o.arr _ undO rfl oI HC.out ?_)
          refine (step2 wr w.heap.size w.heap.size U (.slice none 0 0) hs vh o HK1.out (by omega) HST.out HOA.out).mono ?_
          rintro e w2 ⟨rfl, hb2, U2, hs2, vh2, hst2, hl2, -⟩
          have HST2 := hide hst2
          have HB2 := hide (HB.out.trans hb2)
          clear hkc hb2 hst2
          go_wp2_with fail
          refine (looks_any w2 w.heap.size w.heap.size U2 (.slice none 0 0) hs2 vh2 (by omega) HST2.out.world).mono ?_
          rintro e w3 ⟨rfl, n3, hw3⟩
          have HST3 : Hid (St w.heap.size U2 w3 w.heap.size (.slice none 0 0) hs2 vh2) := by rw [hw3]; exact HST2.out.below (below_drewN (Below.refl _ _) n3)
          have HB3 : Hid (Below w.heap.size w w3) := by rw [hw3]; exact below_drewN HB2.out n3
          clear hw3
          go_wp2_with fail
          exact ⟨⟨k + 1, U2, hs2, vh2, by go_num, by omega, by omega, HST3.out, HB3.out⟩, by simp [intOf]; omega⟩
    · go_wp2_with fail
      go_ret
      exact ⟨rfl, HB.out⟩
end Go.Proofs.YtpahhgalhhbhjaaGreat
