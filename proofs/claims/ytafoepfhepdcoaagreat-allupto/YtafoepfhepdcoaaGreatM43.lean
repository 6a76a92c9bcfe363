import Derived.Test.YtafoepfhepdcoaaGreatM42
import Derived.Test.YtafoepfhepdcoaaGreatM35
set_option maxRecDepth 100000
set_option maxHeartbeats 8000000
namespace Go.Proofs.YtafoepfhepdcoaaGreat
open Go.RowKit Go.Trawl
attribute [local go_sem] mf
def lastTo (c : Ch) : Int := c.servers.getD ((c.sent - 1) % c.servers.length) 0
def fitsQ (s : QSt) (c : Ch) (from_ : Int) (m : Msg) : Bool :=
 m.resp && decide (m.id = s.id) && match m.qs with
  | [q] => decide (from_ = lastTo c) && sameB q.name c.name && decide (q.kind = c.kind) && decide (q.cls = 1)
  | _ => false
theorem fits_no (w : World) (sb : Nat) (s : QSt) (V : QV) (c : QC) (r : List QC) (fr : Int) (m : Msg) (vq va vu vx : Value) (h : QAt w sb s V (c :: r)) (hat : Lies w 3 vq (m.qs.map Qn.cells)) (hn : m.resp = false ∨ (m.resp = true ∧ ¬ m.id = s.id) ∨ (m.resp = true ∧ m.id = s.id ∧ ¬ (m.qs.length : Int) = 1)) :
  Calls Tryz.prog 81 #[.pointer (some ⟨sb, 0, none⟩), .int .u32 fr, .agg (mc_ m vq va vu vx)] w fun e w' => e = .returned (.bool (fitsQ s c.ch fr m)) ∧ Hid (Below w.heap.size w w') := by
 have e : fitsQ s c.ch fr m = false := by
  unfold fitsQ
  rcases hn with h | ⟨_, h⟩ | ⟨_, _, h⟩
  ·rw [h]; rfl
  ·rw [decide_eq_false h]; simp
  ·match hq : m.qs with
   | [] => simp
   | [q] => rw [hq] at h; exact absurd rfl h
   | x :: y :: l => simp
 rw [e]
 obtain ⟨aq, cq, rfl, _⟩ := hat
 rw [List.length_map]
 have hb1 := (Below.refl w.heap.size w).alloc (Nat.le_refl _) (.cells (mc_ m (.slice aq m.qs.length cq) va vu vx) 30)
 have HB := hide hb1
 have hc := bc_ (h.below hb1).box
 simp only [qCells] at hc
 have hcm := bc_ (hn_ w (.cells (mc_ m (.slice aq m.qs.length cq) va vu vx) 30))
 clear h hb1 e
 unfold mc_ at HB hc hcm ⊢
 go_enter Tryz.func81, Tryz.ntmps81
 go_wp2_with fail
 generalize w.alloc _ = W1 at HB hc hcm ⊢
 rcases hn with h1 | ⟨h1, h2⟩ | ⟨h1, h2, h3⟩
 ·rw [h1] at hcm
  go_quiet (fail)
  go_wp2_with fail
  go_ret
  exact ⟨rfl, below_drewN HB.out _⟩
 ·rw [h1] at hcm
  have h2' : ((m.id : Int) != s.id) = true := by simp; exact h2
  go_quiet (fail)
  go_wp2_with fail
  go_ret
  exact ⟨rfl, below_drewN HB.out _⟩
 ·rw [h1] at hcm
  have h2' : ((m.id : Int) != s.id) = false := by simp; exact h2
  have h3' : ((m.qs.length : Int) != 1) = true := by simp; omega
  go_quiet (fail)
  go_wp2_with fail
  go_ret
  exact ⟨rfl, below_drewN HB.out _⟩
theorem two_aa {W2 w7 : World} (hb : Below W2.heap.size W2 w7) (o o' : Obj) : Below W2.heap.size W2 ((w7.alloc o).alloc o') ∧ ((w7.alloc o).alloc o').heap[w7.heap.size]? = some o ∧ ((w7.alloc o).alloc o').heap[w7.heap.size + 1]? = some o' := by
 refine ⟨(hb.alloc hb.size o).alloc (by rw [as_]; have := hb.size; omega) o', heap_old (hn_ w7 o) o', ?_⟩
 have := hn_ (w7.alloc o) o'
 rw [as_] at this
 exact this
theorem two_pa {W2 w7 : World} (hb : Below W2.heap.size W2 w7) {X : Nat} {u0 u1 u2 : Value} {t : TypeId} (hx : w7.heap[X]? = some (.cells #[u0, u1, u2] t)) (hX : W2.heap.size ≤ X) (a b c : Value) (o' : Obj) : Below W2.heap.size W2 ((put3 w7 X a b c).alloc o') ∧ ((put3 w7 X a b c).alloc o').heap[X]? = some (.cells #[a, b, c] t) ∧ ((put3 w7 X a b c).alloc o').heap[w7.heap.size]? = some o' := by
 have hg := pg_ w7 X a b c
 have hb2 := bg_ hb hX hg
 refine ⟨hb2.alloc hb2.size o', heap_old (pb_ a b c hx) o', ?_⟩
 have hz : (put3 w7 X a b c).heap.size = w7.heap.size := by simp [put3, World.setCell]
 have := hn_ (put3 w7 X a b c) o'
 rw [hz] at this
 exact this
theorem two_pp {W2 w7 : World} (hb : Below W2.heap.size W2 w7) {X Y : Nat} {u0 u1 u2 v0 v1 v2 : Value} {t : TypeId} (hx : w7.heap[X]? = some (.cells #[u0, u1, u2] t)) (hy : w7.heap[Y]? = some (.cells #[v0, v1, v2] t)) (hX : W2.heap.size ≤ X) (hY : W2.heap.size ≤ Y) (hn : X ≠ Y) (a b c d e f : Value) : Below W2.heap.size W2 (put3 (put3 w7 X a b c) Y d e f) ∧ (put3 (put3 w7 X a b c) Y d e f).heap[X]? = some (.cells #[a, b, c] t) ∧ (put3 (put3 w7 X a b c) Y d e f).heap[Y]? = some (.cells #[d, e, f] t) := by
 have hg := pg_ w7 X a b c
 have hg2 := pg_ (put3 w7 X a b c) Y d e f
 have h1 := pb_ a b c hx
 refine ⟨bg_ (bg_ hb hX hg) hY hg2, (hg2.block X (hl_ h1) (fun e => hn (Option.some.inj e))).trans h1, pb_ d e f ((hg.block Y (hl_ hy) (fun e => hn (Option.some.inj e).symm)).trans hy)⟩
theorem new2 (w : World) (o o' : Obj) : ((w.alloc o).alloc o').heap[w.heap.size + 1]? = some o' := by
 have := hn_ (w.alloc o) o'
 rw [as_] at this
 exact this
theorem fits_may (w : World) (sb : Nat) (s : QSt) (V : QV) (c : QC) (r : List QC) (fr : Int) (m : Msg) (q : Qn) (vq va vu vx : Value) (h : QAt w sb s V (c :: r)) (hok : QOk s) (hne : c.ch.servers ≠ []) (hs1 : 1 ≤ c.ch.sent) (hat : Lies w 3 vq (m.qs.map Qn.cells)) (hr : m.resp = true) (hid : m.id = s.id) (hq : m.qs = [q]) (hqn : q.name.size ≤ 2097152) :
    Calls Tryz.prog 81 #[.pointer (some ⟨sb, 0, none⟩), .int .u32 fr, .agg (mc_ m vq va vu vx)] w fun e w' => e = .returned (.bool (fitsQ s c.ch fr m)) ∧ Hid (Below w.heap.size w w') := by
  have e : fitsQ s c.ch fr m = (decide (fr = lastTo c.ch) && sameB q.name c.ch.name && decide (q.kind = c.ch.kind) && decide (q.cls = 1)) := by
    unfold fitsQ
    rw [hr, decide_eq_true hid, hq]
    rfl
  rw [e]
  have hch : s.ch = c.ch :: r.map QC.ch := h.chs.symm
  have hC := hok.chs c.ch (by rw [hch]; simp)
  have hsn := hC.sent
  have ht1 := hok.t1
  have hsv := hC.servers
  rw [hq] at hat
  obtain ⟨aq, cq, rfl, _⟩ := (show Lies w 3 vq ([q].map Qn.cells) from hat)
  have hb1 := (Below.refl w.heap.size w).alloc (Nat.le_refl _) (.cells (mc_ m (.slice aq 1 cq) va vu vx) 30)
  have HB := hide hb1
  have H1 := hide (h.below hb1)
  have HX := hide (hn_ w (.cells (mc_ m (.slice aq 1 cq) va vu vx) 30))
  have HQ := hide (hat.below hb1)
  obtain ⟨bq, oq, rfl, -, -, -⟩ := q_one hat
  have hc := bc_ H1.out.box
  simp only [qCells, chPtr] at hc
  have hcm := bc_ HX.out
  clear h hb1 e hok hC hch hat
  simp only [List.map_cons, List.map_nil, List.length_singleton] at HQ ⊢
  unfold mc_ at HB H1 HX HQ hc hcm ⊢
  have HRR := hide hr
  have h2' : ((m.id : Int) != s.id) = false := by simp; exact hid
  clear hr hid hq
  go_enter Tryz.func81, Tryz.ntmps81
  go_wp2_with fail
  generalize w.alloc _ = W1 at HB H1 HX HQ hc hcm ⊢
  rw [HRR.out] at hcm
  go_quiet (fail)
  go_wp2_with fail
  have hb2 : Below W1.heap.size W1 (W1.drewN nq) := below_drewN (Below.refl _ _) _
  have H2 := hide (H1.out.below hb2)
  have HB2 := hide (HB.out.trans (hb2.mono HB.out.size))
  have HX2 := hide ((hb2.block _ (hl_ HX.out)).trans HX.out)
  have HQ2 := hide (HQ.out.below hb2)
  clear hc hcm HB H1 HX HQ hb2
  generalize W1.drewN nq = W2 at H2 HB2 HX2 HQ2 ⊢
  have HS : Hid (∀ w', Below W2.heap.size W2 w' → w'.cell? ⟨w.heap.size, 8, none⟩ = some (.slice (some ⟨bq, oq, none⟩) 1 cq) ∧ w'.cell? ⟨bq, oq, none⟩ = some (.string q.name) ∧ w'.cell? ⟨bq, oq + 1, none⟩ = some (.int .u16 q.kind) ∧ w'.cell? ⟨bq, oq + 2, none⟩ = some (.int .u16 q.cls)) := fun w' hb => by
    have e := bc_ ((hb.block _ (hl_ HX2.out)).trans HX2.out)
    obtain ⟨b', o', e2, d0, d1, d2⟩ := q_one (HQ2.out.below hb)
    cases e2
    exact ⟨(e 8).trans rfl, d0, d1, d2⟩
  have HCQ : Hid (∀ Wx, Below W2.heap.size W2 Wx → Calls Tryz.prog 115 #[.pointer (some ⟨c.blk, 0, none⟩)] Wx fun e w7 => e = .returned (.agg #[.string c.ch.name, .int .u16 c.ch.kind, .int .u16 1]) ∧ Hid (Below Wx.heap.size Wx w7) ∧ Hid (Below W2.heap.size W2 w7) ∧ (w7.cell? ⟨w.heap.size, 8, none⟩ = some (.slice (some ⟨bq, oq, none⟩) 1 cq) ∧ w7.cell? ⟨bq, oq, none⟩ = some (.string q.name) ∧ w7.cell? ⟨bq, oq + 1, none⟩ = some (.int .u16 q.kind) ∧ w7.cell? ⟨bq, oq + 2, none⟩ = some (.int .u16 q.cls))) := fun Wx hb => by
    refine (q_question Wx c r (H2.out.below hb).chain).mono ?_
    rintro e w7 ⟨rfl, HB7⟩
    have hb7 := hb.trans (HB7.out.mono hb.size)
    exact ⟨rfl, HB7.out, hb7, HS.out w7 hb7⟩
  obtain ⟨k8, d0, d1, d2⟩ := HS.out W2 (Below.refl _ _)
  have hlM : w.heap.size < W2.heap.size := hl_ HX2.out
  have hlb : bq < W2.heap.size := by
    obtain ⟨_, _, e1, _, e2⟩ := HQ2.out
    injection e1 with e1 _ _
    subst e1
    rcases e2 with e2 | ⟨b', o', e2, h2, _⟩
    · cases e2
    · cases e2; exact h2
  have g1 : ¬ W2.heap.size = w.heap.size := by omega
  have g2 : ¬ w.heap.size = W2.heap.size := by omega
  have g3 : ¬ W2.heap.size = bq := by omega
  have g4 : ¬ bq = W2.heap.size := by omega
  have g5 : ¬ W2.heap.size + 1 = w.heap.size := by omega
  have g6 : ¬ w.heap.size = W2.heap.size + 1 := by omega
  have g7 : ¬ W2.heap.size + 1 = bq := by omega
  have g8 : ¬ bq = W2.heap.size + 1 := by omega
  go_region_held3 (fun w' => w'.cell? ⟨w.heap.size, 8, none⟩ = some (.slice (some ⟨bq, oq, none⟩) 1 cq) ∧ w'.cell? ⟨bq, oq, none⟩ = some (.string q.name) ∧ w'.cell? ⟨bq, oq + 1, none⟩ = some (.int .u16 q.kind) ∧ w'.cell? ⟨bq, oq + 2, none⟩ = some (.int .u16 q.cls)) (first | (go_keep; done) | exact hs7) (first | (go_at_call 115; refine (HCQ.out _ (by first | exact below_drewN (Below.refl _ _) 1 | exact below_drewN ((Below.refl _ _).alloc (Nat.le_refl _) _) 1 | exact below_drewN (((Below.refl _ _).alloc (Nat.le_refl _) _).alloc (by rw [as_]; omega) _) 1)).mono ?_; rintro e w7 ⟨rfl, HB7', HB7, hs7⟩; (first | (have hx7 := (HB7'.out.block W2.heap.size (by simp <;> omega)).trans (heap_old (hn_ W2 (.cells #[.string ⟨#[]⟩, .int .u16 0, .int .u16 0] 41)) (.cells #[.string ⟨#[]⟩, .int .u16 0, .int .u16 0] 41)); have hy7 := (HB7'.out.block (W2.heap.size + 1) (by simp)).trans (new2 W2 (.cells #[.string ⟨#[]⟩, .int .u16 0, .int .u16 0] 41) (.cells #[.string ⟨#[]⟩, .int .u16 0, .int .u16 0] 41)); have hcx7 := bc_ hx7; have hfx7 := fz_ hx7; have hcy7 := bc_ hy7; have hfy7 := fz_ hy7) | (have hx7 := (HB7'.out.block W2.heap.size (by simp)).trans (hn_ W2 (.cells #[.string ⟨#[]⟩, .int .u16 0, .int .u16 0] 41)); have hcx7 := bc_ hx7; have hfx7 := fz_ hx7; have hl7 := hl_ hx7; have hn7 : ¬ w7.heap.size = W2.heap.size := Nat.ne_of_gt hl7; have hn7' : ¬ W2.heap.size = w7.heap.size := Nat.ne_of_lt hl7) | skip)))
  all_goals
    clear k8 d0 d1 d2 g1 g2 g3 g4 g5 g6 g7 g8 hs7
    first
    | (have T8 := two_pp HB7.out hx7 hy7 (Nat.le_refl _) (by omega) (by omega) (.string q.name) (.int .u16 q.kind) (.int .u16 q.cls) (.string c.ch.name) (.int .u16 c.ch.kind) (.int .u16 1)
       try unfold put3 at T8
       obtain ⟨W8, hW8⟩ : ∃ W8 : World, W8 = ((((((w7.setCell ⟨W2.heap.size, 0, none⟩ (.string q.name)).setCell ⟨W2.heap.size, 1, none⟩ (.int .u16 q.kind)).setCell ⟨W2.heap.size, 2, none⟩ (.int .u16 q.cls)).setCell ⟨W2.heap.size + 1, 0, none⟩ (.string c.ch.name)).setCell ⟨W2.heap.size + 1, 1, none⟩ (.int .u16 c.ch.kind)).setCell ⟨W2.heap.size + 1, 2, none⟩ (.int .u16 1)) := ⟨_, rfl⟩
       rw [← hW8] at T8 ⊢
       clear hW8
       obtain ⟨hB8, hX8, hY8⟩ := T8)
    | (have T8 := two_pp HB7.out hy7 hx7 (by omega) (Nat.le_refl _) (by omega) (.string q.name) (.int .u16 q.kind) (.int .u16 q.cls) (.string c.ch.name) (.int .u16 c.ch.kind) (.int .u16 1)
       try unfold put3 at T8
       obtain ⟨W8, hW8⟩ : ∃ W8 : World, W8 = ((((((w7.setCell ⟨W2.heap.size + 1, 0, none⟩ (.string q.name)).setCell ⟨W2.heap.size + 1, 1, none⟩ (.int .u16 q.kind)).setCell ⟨W2.heap.size + 1, 2, none⟩ (.int .u16 q.cls)).setCell ⟨W2.heap.size, 0, none⟩ (.string c.ch.name)).setCell ⟨W2.heap.size, 1, none⟩ (.int .u16 c.ch.kind)).setCell ⟨W2.heap.size, 2, none⟩ (.int .u16 1)) := ⟨_, rfl⟩
       rw [← hW8] at T8 ⊢
       clear hW8
       obtain ⟨hB8, hX8, hY8⟩ := T8)
    | (have T8 := two_pa HB7.out hx7 (Nat.le_refl _) (.string q.name) (.int .u16 q.kind) (.int .u16 q.cls) (.cells #[.string c.ch.name, .int .u16 c.ch.kind, .int .u16 1] 41)
       try unfold put3 at T8
       obtain ⟨W8, hW8⟩ : ∃ W8 : World, W8 = ((((w7.setCell ⟨W2.heap.size, 0, none⟩ (.string q.name)).setCell ⟨W2.heap.size, 1, none⟩ (.int .u16 q.kind)).setCell ⟨W2.heap.size, 2, none⟩ (.int .u16 q.cls)).alloc (.cells #[.string c.ch.name, .int .u16 c.ch.kind, .int .u16 1] 41)) := ⟨_, rfl⟩
       rw [← hW8] at T8 ⊢
       clear hW8
       obtain ⟨hB8, hX8, hY8⟩ := T8)
    | (have T8 := two_pa HB7.out hx7 (Nat.le_refl _) (.string c.ch.name) (.int .u16 c.ch.kind) (.int .u16 1) (.cells #[.string q.name, .int .u16 q.kind, .int .u16 q.cls] 41)
       try unfold put3 at T8
       obtain ⟨W8, hW8⟩ : ∃ W8 : World, W8 = ((((w7.setCell ⟨W2.heap.size, 0, none⟩ (.string c.ch.name)).setCell ⟨W2.heap.size, 1, none⟩ (.int .u16 c.ch.kind)).setCell ⟨W2.heap.size, 2, none⟩ (.int .u16 1)).alloc (.cells #[.string q.name, .int .u16 q.kind, .int .u16 q.cls] 41)) := ⟨_, rfl⟩
       rw [← hW8] at T8 ⊢
       clear hW8
       obtain ⟨hB8, hY8, hX8⟩ := T8)
    | (have T8 := two_aa HB7.out (.cells #[.string q.name, .int .u16 q.kind, .int .u16 q.cls] 41) (.cells #[.string c.ch.name, .int .u16 c.ch.kind, .int .u16 1] 41)
       try unfold put3 at T8
       obtain ⟨W8, hW8⟩ : ∃ W8 : World, W8 = ((w7.alloc (.cells #[.string q.name, .int .u16 q.kind, .int .u16 q.cls] 41)).alloc (.cells #[.string c.ch.name, .int .u16 c.ch.kind, .int .u16 1] 41)) := ⟨_, rfl⟩
       rw [← hW8] at T8 ⊢
       clear hW8
       obtain ⟨hB8, hX8, hY8⟩ := T8)
    | (have T8 := two_aa HB7.out (.cells #[.string c.ch.name, .int .u16 c.ch.kind, .int .u16 1] 41) (.cells #[.string q.name, .int .u16 q.kind, .int .u16 q.cls] 41)
       try unfold put3 at T8
       obtain ⟨W8, hW8⟩ : ∃ W8 : World, W8 = ((w7.alloc (.cells #[.string c.ch.name, .int .u16 c.ch.kind, .int .u16 1] 41)).alloc (.cells #[.string q.name, .int .u16 q.kind, .int .u16 q.cls] 41)) := ⟨_, rfl⟩
       rw [← hW8] at T8 ⊢
       clear hW8
       obtain ⟨hB8, hY8, hX8⟩ := T8)
  all_goals
    have HB8 := hide (HB2.out.trans (hB8.mono HB2.out.size))
    have H8 := hide (H2.out.below hB8)
    have HX8 := hide hX8
    have HY8 := hide hY8
    clear hB8 hX8 hY8 HB7 HB7' HCQ HS
    have hcc := bc_ H8.out.chain.1
    simp only [qcCells] at hcc
    have hsub : ((c.ch.sent : Int) - 1) = ((c.ch.sent - 1 : Nat) : Int) := by omega
    have HSB := hide hsub
    clear hsub
    go_wp2_with fail
    rw [HSB.out]
    refine (q_server W8 c r (c.ch.sent - 1) H8.out.chain hne (by omega) hsv).mono ?_
    rintro e w9 ⟨rfl, k9, hw9⟩
    have hcx := bc_ HX8.out
    have hcy := bc_ HY8.out
    have hb9 : Below W8.heap.size W8 w9 := by rw [hw9]; exact below_drewN (Below.refl _ _) _
    have hX9 := (hb9.block _ (hl_ HX8.out)).trans HX8.out
    have hY9 := (hb9.block _ (hl_ HY8.out)).trans HY8.out
    have HB9 := hide (HB8.out.trans (hb9.mono HB8.out.size))
    clear hcc hcx hcy hb9 hw9
    have hcx := bc_ hX9
    have hcy := bc_ hY9
    have hlt : c.ch.servers.getD ((c.ch.sent - 1) % c.ch.servers.length) 0 = lastTo c.ch := rfl
    rw [hlt]
    clear hlt
    by_cases hto : fr = lastTo c.ch
    · have h1' : ((fr : Int) == lastTo c.ch) = true := by simp; exact hto
      have HTO := hide (decide_eq_true hto)
      clear hto
      go_wp2_with fail
      refine (q_same q.name c.ch.name hqn w9).mono ?_
      rintro e w10 ⟨rfl, k10, hw10⟩
      have hcw : ∀ p, w10.cell? p = w9.cell? p := by rw [hw10]; intro p; rfl
      have hcx2 := fun o => (hcw _).trans (hcx o)
      have hcy2 := fun o => (hcw _).trans (hcy o)
      have HB10 : Hid (Below w.heap.size w w10) := by rw [hw10]; exact below_drewN HB9.out _
      clear hcx hcy hcw hw10
      cases hsm : sameB q.name c.ch.name with
      | false =>
        go_wp2_with fail
        go_ret
        exact ⟨ret_bool (by rw [hsm]; simp), HB10.out⟩
      | true =>
        by_cases hkd : q.kind = c.ch.kind
        · have h3' : ((q.kind : Int) == c.ch.kind) = true := by simp; exact hkd
          have HKD := hide (decide_eq_true hkd)
          clear hkd
          by_cases hcl : q.cls = 1
          · have h4' : ((q.cls : Int) == 1) = true := by simp; exact hcl
            have HCL := hide (decide_eq_true hcl)
            clear hcl
            go_wp2_with fail
            go_ret
            exact ⟨ret_bool (by rw [HTO.out, hsm, HKD.out, HCL.out]; rfl), HB10.out⟩
          · have h4' : ((q.cls : Int) == 1) = false := by simp; exact hcl
            have HCL := hide (decide_eq_false hcl)
            clear hcl
            go_wp2_with fail
            go_ret
            exact ⟨ret_bool (by rw [HCL.out]; simp), HB10.out⟩
        · have h3' : ((q.kind : Int) == c.ch.kind) = false := by simp; exact hkd
          have HKD := hide (decide_eq_false hkd)
          clear hkd
          go_wp2_with fail
          go_ret
          exact ⟨ret_bool (by rw [HKD.out]; simp), HB10.out⟩
    · have h1' : ((fr : Int) == lastTo c.ch) = false := by simp; exact hto
      have HTO := hide (decide_eq_false hto)
      clear hto
      go_wp2_with fail
      go_ret
      exact ⟨ret_bool (by rw [HTO.out]; rfl), HB9.out⟩
theorem q_fits (w : World) (sb : Nat) (s : QSt) (V : QV) (c : QC) (r : List QC) (fr : Int) (m : Msg) (vq va vu vx : Value) (h : QAt w sb s V (c :: r)) (hok : QOk s) (hne : c.ch.servers ≠ []) (hs1 : 1 ≤ c.ch.sent) (hat : Lies w 3 vq (m.qs.map Qn.cells)) (hm : WfM m) :
  Calls Tryz.prog 81 #[.pointer (some ⟨sb, 0, none⟩), .int .u32 fr, .agg (mc_ m vq va vu vx)] w fun e w' => e = .returned (.bool (fitsQ s c.ch fr m)) ∧ Hid (Below w.heap.size w w') := by
 cases hr : m.resp with
 | false => exact fits_no w sb s V c r fr m vq va vu vx h hat (.inl hr)
 | true =>
  by_cases hid : m.id = s.id
  ·by_cases hl : (m.qs.length : Int) = 1
   ·obtain ⟨q, hq⟩ : ∃ q, m.qs = [q] := by
     match hq : m.qs with
     | [] => rw [hq] at hl; simp at hl
     | [q] => exact ⟨q, rfl⟩
     | x :: y :: l => rw [hq] at hl; simp at hl; omega
    exact fits_may w sb s V c r fr m q vq va vu vx h hok hne hs1 hat hr hid hq (hm.qs q (by rw [hq]; simp)).name
   ·exact fits_no w sb s V c r fr m vq va vu vx h hat (.inr (.inr ⟨hr, hid, hl⟩))
  ·exact fits_no w sb s V c r fr m vq va vu vx h hat (.inr (.inl ⟨hr, hid⟩))
end Go.Proofs.YtafoepfhepdcoaaGreat
namespace Go.Proofs.YtafoepfhepdcoaaGreat
open Go.RowKit Go.Trawl Go.MuLone
attribute [local go_sem] buildX0 buildX1 eqlF eqlN
def lateS (st : RSt) : RSt × Value × Int :=
 if st.busy then match st.l.reverse with
  | c :: r => ((sendP st r.reverse c).1, (sendP st r.reverse c).2, 0)
  | [] => (st, stepV 0 0 ⟨#[]⟩, 0)
 else (st, stepV 0 0 ⟨#[]⟩, 3)
theorem sLate_idle (w : World) (sb : Nat) (q : QSt) (V : QV) (cs : List QC) (st : RSt) (h : QAt w sb q V cs) (hok : QOk q) (hsm : Sim q st) (hbz : st.busy = false) :
  Calls Tryz.prog 44 #[.pointer (some ⟨sb, 0, none⟩)] w (Tells w sb (V.owns cs sb) (lateS st)) := by
 have e : lateS st = (st, stepV 0 0 ⟨#[]⟩, 3) := by unfold lateS; rw [if_neg (by rw [hbz]; simp)]
 rw [e]
 have H := hide h
 have HK := hide hok
 have HS := hide hsm
 have hc := bc_ (h.below ((Below.refl w.heap.size w).alloc (Nat.le_refl _) (.cells #[.int .i64 0, .int .u32 0, .slice none 0 0] 59))).box
 simp only [qCells, (hsm.idle hbz).1, nextV] at hc
 clear h e hok hsm
 unfold Tells
 go_enter Tryz.func44, Tryz.ntmps44
 go_wp2_with fail
 refine bodyPost_ret (rr_ rfl _ _ w.heap.size _ _ _ _ rfl (hn_ w _) undXs rfl (by kernel_rfl)) rfl ?_
 exact ⟨0, 0, none, [], 0, rfl, rfl, told_nil H.out HK.out HS.out _⟩
theorem told_go {w W w6 : World} {sb : Nat} {V : QV} {cs : List QC} {p : QSt × QOut} {st : RSt} {o : Value} {a : Option Addr} {c : Nat} {O : Nat → Prop} {z : Array Value} (hf : Fr w W O (V.owns cs sb)) (hx : W.heap[w.heap.size]? = some (.cells z 59)) (hno : ¬ V.owns cs sb w.heap.size) (hpk : QOk p.1) (hb : Both p (st, o))
  (H : ∃ V' cs', QAt w6 sb p.1 V' cs' ∧ Fr W w6 (V.owns cs sb) (V'.owns cs' sb) ∧ w6.ownsRow 0 5 1 (.slice a p.2.2.2.length c) p.2.2.2.length (bytesV p.2.2.2) ∧ ∀ k, (Value.slice a p.2.2.2.length c).ownBlock = some k → W.heap.size ≤ k ∧ ¬ V'.owns cs' sb k) :
  w6.heap[w.heap.size]? = some (.cells z 59) ∧ ∀ v0 v1 v2, Told w (put3 w6 w.heap.size v0 v1 v2) sb O st (.slice a p.2.2.2.length c) p.2.2.2 := by
 obtain ⟨V6, cs6, h6, f6, o6, n6⟩ := H
 have hz := hl_ hx
 have hno6 : ¬ V6.owns cs6 sb w.heap.size := fun e => by
  rcases f6.new _ e with e | e
  ·exact hno e
  ·omega
 refine ⟨f6.stay hx hno, fun v0 v1 v2 => ?_⟩
 have hG := pg_ w6 w.heap.size v0 v1 v2
 refine ⟨⟨p.1, V6, cs6, h6.aside hG hno6, hpk, hb.sim, (hf.trans f6).write hG (Nat.le_refl _), fun k e => (n6 k e).2⟩, own_grown o6 hG (fun e => ?_), fun k e => ?_⟩
 ·have := (n6 _ e).1; omega
 ·have := (n6 k e).1; omega
theorem sLate_busy (w : World) (sb : Nat) (q : QSt) (V : QV) (cs : List QC) (st : RSt) (h : QAt w sb q V cs) (hok : QOk q) (hsm : Sim q st) (hbz : st.busy = true) :
  Calls Tryz.prog 44 #[.pointer (some ⟨sb, 0, none⟩)] w (Tells w sb (V.owns cs sb) (lateS st)) := by
 obtain ⟨hph, hcore⟩ := hsm.busy hbz
 obtain ⟨c, r, hl, hne, _⟩ := hsm.last hbz
 have e : lateS st = ((sendP st r.reverse c).1, (sendP st r.reverse c).2, 0) := by unfold lateS; rw [if_pos hbz, hl]
 rw [hl] at hcore
 obtain ⟨n, p, hg, hboth⟩ := sends hcore hph hok hbz hne (hsm.seen hbz) (hsm.kept hbz)
 rw [e]
 have hb1 := (Below.refl w.heap.size w).alloc (Nat.le_refl _) (.cells #[.int .i64 0, .int .u32 0, .slice none 0 0] 59)
 have h1 := h.below hb1
 have HT := hide (fun w6 a6 c6 => told_go (w6 := w6) (a := a6) (c := c6) (p := p) (o := (sendP st r.reverse c).2) (st := (sendP st r.reverse c).1) (Fr.of_below hb1 (V.owns cs sb)) (hn_ w _) (fun e => by have := h.lt _ e; omega) (goes_ok hok (by rw [hph]; simp) hg) hboth)
 have HS := hide hboth.says
 have HG := hide (q_goOn _ sb q V cs n p h1 hok (by rw [hph]; simp) hg)
 have hc := bc_ h1.box
 simp only [qCells, hph, nextV] at hc
 clear h e hok hsm hcore hboth hg h1 hb1
 unfold Tells
 go_enter Tryz.func44, Tryz.ntmps44
 go_wp2_with fail
 refine HG.out.mono ?_
 rintro e w6 ⟨a6, c6, rfl, H6⟩
 obtain ⟨hx6, ht6⟩ := HT.out w6 a6 c6 H6.out
 have HX6 := hide hx6
 have HT6 := hide ht6
 clear hc HT HG hx6 ht6 H6
 have hcz := bc_ HX6.out
 have hfz := fz_ HX6.out
 unfold stepX
 obtain ⟨s6, k6, t6, l6⟩ := p
 dsimp only at *
 go_wp2_with fail
 clear hcz hfz
 refine bodyPost_ret (rr_ rfl _ _ w.heap.size _ _ _ _ rfl (pb_ (.int .i64 k6) (.int .u32 t6) (.slice a6 l6.length c6) HX6.out) undXs rfl (by kernel_rfl)) rfl ?_
 exact ⟨k6, t6, a6, l6, c6, rfl, HS.out, HT6.out _ _ _⟩
theorem sLate_any (w : World) (sb : Nat) (q : QSt) (V : QV) (cs : List QC) (st : RSt) (h : QAt w sb q V cs) (hok : QOk q) (hsm : Sim q st) :
  Calls Tryz.prog 44 #[.pointer (some ⟨sb, 0, none⟩)] w (Tells w sb (V.owns cs sb) (lateS st)) := by
 cases hb : st.busy with
 | true => exact sLate_busy w sb q V cs st h hok hsm hb
 | false => exact sLate_idle w sb q V cs st h hok hsm hb
theorem pLate_any (w : World) (xb sb : Nat) (vr : PV) (st : RSt) (h : PAt w xb sb vr st) :
  Calls Tryz.prog 24 #[.pointer (some ⟨xb, 0, none⟩)] w (Speaks w xb sb vr (lateS st)) := by
 obtain ⟨z, hz⟩ := h.box
 obtain ⟨q, hq, hqk, hsim⟩ := h.at_
 have hxl : xb < w.heap.size := hl_ hz
 have hb1 := (Below.refl w.heap.size w).alloc (Nat.le_refl _) (.cells #[.int .i64 0, .int .u32 0, .slice none 0 0] 59)
 have HZ1 := hide ((hb1.block xb hxl).trans hz)
 have HS1 := hide (hq.below hb1)
 have HX1 := hide (hn_ w (.cells #[.int .i64 0, .int .u32 0, .slice none 0 0] 59))
 have HB1 := hide hb1
 have HNX := hide h.nx
 have HLT := hide h.lt
 have HQK := hide hqk
 have HSIM := hide hsim
 have hc := bc_ HZ1.out
 have hf := fz_ HZ1.out
 clear h hb1 hz hq hqk hsim
 unfold Speaks
 go_enter_defers Tryz.func24, Tryz.ntmps24
 go_wp2_with fail
 refine (lock_free muLib ⟨xb, 0, none⟩ _ (hc 0) (hf 0)).mono ?_
 rintro e w1 ⟨rfl, rfl⟩
 generalize w.alloc (.cells #[.int .i64 0, .int .u32 0, .slice none 0 0] 59) = W1 at HZ1 HS1 HX1 HB1 hc hf ⊢
 have hz1 : w.heap.size < W1.heap.size := hl_ HX1.out
 have hG2 := gs_ W1 xb 0 (.int .i32 1)
 have HF2 : Hid (Fr w (W1.setCell ⟨xb, 0, none⟩ (.int .i32 1)) (pOwns xb sb vr) (pOwns xb sb vr)) := (Fr.of_below HB1.out (pOwns xb sb vr)).turn hG2 (.inl (.inl rfl)) (fun i hi => .inl hi)
 have HZ2 : Hid ((W1.setCell ⟨xb, 0, none⟩ (.int .i32 1)).heap[xb]? = some (.cells #[.int .i32 1, z, .pointer (some ⟨sb, 0, none⟩)] 96)) := hs_ (j := 0) HZ1.out (.int .i32 1)
 have HS2 := hide (HS1.out.aside hG2 HNX.out)
 have HX2 := hide ((hG2.block _ hz1 (by simp; omega)).trans HX1.out)
 clear hG2 hc hf HZ1 HS1 HX1
 generalize W1.setCell ⟨xb, 0, none⟩ (.int .i32 1) = W2 at HF2 HZ2 HS2 HX2 ⊢
 have hz2 : w.heap.size < W2.heap.size := hl_ HX2.out
 have hc := bc_ HZ2.out
 go_wp2_with fail
 refine (sLate_any W2 sb q vr.V vr.cs st HS2.out HQK.out HSIM.out).mono ?_
 rintro e w3 ⟨k, t, a, l, c', rfl, H3⟩
 have hf3 : ∃ O', Fr W2 w3 (vr.V.owns vr.cs sb) O' := by
  obtain ⟨_, V3, cs3, _, _, _, f3, _⟩ := H3.out.2.at_
  exact ⟨_, f3⟩
 obtain ⟨O', hf3⟩ := hf3
 have HZ3 := hide (hf3.stay HZ2.out HNX.out)
 have HX3 := hide (hf3.stay HX2.out (fun e => by have := HLT.out _ (.inr e); omega))
 clear hf3 hc
 have hcz := bc_ HX3.out
 have hfz := fz_ HX3.out
 unfold stepX
 go_wp2_with fail
 clear hcz hfz
 refine leaves_cons (f := 34) (args := #[.pointer (some ⟨xb, 0, none⟩)]) (by simp) (by simp [go_sem]) ?_
 have hG4 := pg_ w3 w.heap.size (.int .i64 k) (.int .u32 t) (.slice a l.length c')
 have hx4 := pb_ (.int .i64 k) (.int .u32 t) (.slice a l.length c') HX3.out
 have hz4 := (hG4.block xb (hl_ HZ3.out) (by simp; omega)).trans HZ3.out
 refine (unlock_deferred muLib ⟨xb, 0, none⟩ .returning _ (bc_ hz4 0) (fz_ hz4 0)).mono ?_
 rintro e u' w5 ⟨rfl, rfl, rfl⟩
 have hG5 := gs_ (put3 w3 w.heap.size (.int .i64 k) (.int .u32 t) (.slice a l.length c')) xb 0 (.int .i32 0)
 have hx5 := (hG5.block w.heap.size (hl_ hx4) (by simp; omega)).trans hx4
 have hz5 := hs_ (j := 0) hz4 (.int .i32 0)
 exact ⟨_, rr_ rfl _ _ w.heap.size _ _ _ _ rfl hx5 undXs rfl (by kernel_rfl), k, t, a, l, c', rfl, H3.out.1, spoke_of HLT.out HNX.out hz2 HF2.out H3.out.2 hG4 hG5 hz5 hxl⟩
end Go.Proofs.YtafoepfhepdcoaaGreat
