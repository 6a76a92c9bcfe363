import Derived.Test.YtafoepfhepdcoaaGreatM21
import Derived.Test.YtafoepfhepdcoaaGreatM15
import Derived.Test.YtafoepfhepdcoaaGreatM18
import Derived.Test.YtafoepfhepdcoaaGreatM12
set_option maxRecDepth 100000
set_option maxHeartbeats 8000000
namespace Go.Proofs.YtafoepfhepdcoaaGreat
open Go.RowKit Go.Trawl
attribute [local go_sem] mf
def lastTo (c : Ch) : Int := c.servers.getD ((c.sent - 1) % c.servers.length) 0
def fitsQ (s : QSt) (c : Ch) (from_ : Int) (m : Msg) : Bool :=
 m.resp && decide (m.id = s.id) && match m.qs with
  | [q] => decide (from_ = lastTo c) && sameB q.name c.name && decide (q.kind = c.kind) && decide (q.cls = 1)
  | _ => false
theorem fits_no (w : World) (sb : Nat) (s : QSt) (V : QV) (c : QC) (r : List QC) (fr : Int) (m : Msg) (vq va vu vx : Value) (h : QAt w sb s V (c :: r)) (hat : Lies w 3 vq (m.qs.map Qn.cells)) (hn : m.resp = false ∨ (m.resp = true ∧ ¬ m.id = s.id) ∨ (m.resp = true ∧ m.id = s.id ∧ ¬ (m.qs.length : Int) = 1)) :
  Calls Tryz.prog 81 #[.pointer (some ⟨sb, 0, none⟩), .int .u32 fr, .agg (msgCells m vq va vu vx)] w fun e w' => e = .returned (.bool (fitsQ s c.ch fr m)) ∧ Hid (Below w.heap.size w w') := by
 have e : fitsQ s c.ch fr m = false := by
  unfold fitsQ
  rcases hn with h | ⟨_, h⟩ | ⟨_, _, h⟩
  ·rw [h]; rfl
  ·rw [decide_eq_false h]; simp
  ·match hq : m.qs with
   | [] => simp
   | [q] => rw [hq] at h; exact absurd rfl h
   | x :: y :: l => simp
 rw [e]
 obtain ⟨aq, cq, rfl, _⟩ := hat
 rw [List.length_map]
 have hb1 := (Below.refl w.heap.size w).alloc (Nat.le_refl _) (.cells (msgCells m (.slice aq m.qs.length cq) va vu vx) 30)
 have HB := hide hb1
 have hc := box_cells (h.below hb1).box
 simp only [qCells] at hc
 have hcm := box_cells (heap_new w (.cells (msgCells m (.slice aq m.qs.length cq) va vu vx) 30))
 clear h hb1 e
 unfold msgCells at HB hc hcm ⊢
 go_enter Tryz.func81, Tryz.ntmps81
 go_wp2_with fail
 generalize w.alloc _ = W1 at HB hc hcm ⊢
 rcases hn with h1 | ⟨h1, h2⟩ | ⟨h1, h2, h3⟩
 ·rw [h1] at hcm
  go_quiet (fail)
  go_wp2_with fail
  go_ret
  exact ⟨rfl, below_drewN HB.out _⟩
 ·rw [h1] at hcm
  have h2' : ((m.id : Int) != s.id) = true := by simp; exact h2
  go_quiet (fail)
  go_wp2_with fail
  go_ret
  exact ⟨rfl, below_drewN HB.out _⟩
 ·rw [h1] at hcm
  have h2' : ((m.id : Int) != s.id) = false := by simp; exact h2
  have h3' : ((m.qs.length : Int) != 1) = true := by simp; omega
  go_quiet (fail)
  go_wp2_with fail
  go_ret
  exact ⟨rfl, below_drewN HB.out _⟩
theorem two_aa {W2 w7 : World} (hb : Below W2.heap.size W2 w7) (o o' : Obj) : Below W2.heap.size W2 ((w7.alloc o).alloc o') ∧ ((w7.alloc o).alloc o').heap[w7.heap.size]? = some o ∧ ((w7.alloc o).alloc o').heap[w7.heap.size + 1]? = some o' := by
 refine ⟨(hb.alloc hb.size o).alloc (by rw [alloc_size]; have := hb.size; omega) o', heap_old (heap_new w7 o) o', ?_⟩
 have := heap_new (w7.alloc o) o'
 rw [alloc_size] at this
 exact this
theorem two_pa {W2 w7 : World} (hb : Below W2.heap.size W2 w7) {X : Nat} {u0 u1 u2 : Value} {t : TypeId} (hx : w7.heap[X]? = some (.cells #[u0, u1, u2] t)) (hX : W2.heap.size ≤ X) (a b c : Value) (o' : Obj) : Below W2.heap.size W2 ((put3 w7 X a b c).alloc o') ∧ ((put3 w7 X a b c).alloc o').heap[X]? = some (.cells #[a, b, c] t) ∧ ((put3 w7 X a b c).alloc o').heap[w7.heap.size]? = some o' := by
 have hg := put3_grown w7 X a b c
 have hb2 := below_of_grown hb hX hg
 refine ⟨hb2.alloc hb2.size o', heap_old (put3_box a b c hx) o', ?_⟩
 have hz : (put3 w7 X a b c).heap.size = w7.heap.size := by simp [put3, World.setCell]
 have := heap_new (put3 w7 X a b c) o'
 rw [hz] at this
 exact this
theorem two_pp {W2 w7 : World} (hb : Below W2.heap.size W2 w7) {X Y : Nat} {u0 u1 u2 v0 v1 v2 : Value} {t : TypeId} (hx : w7.heap[X]? = some (.cells #[u0, u1, u2] t)) (hy : w7.heap[Y]? = some (.cells #[v0, v1, v2] t)) (hX : W2.heap.size ≤ X) (hY : W2.heap.size ≤ Y) (hn : X ≠ Y) (a b c d e f : Value) : Below W2.heap.size W2 (put3 (put3 w7 X a b c) Y d e f) ∧ (put3 (put3 w7 X a b c) Y d e f).heap[X]? = some (.cells #[a, b, c] t) ∧ (put3 (put3 w7 X a b c) Y d e f).heap[Y]? = some (.cells #[d, e, f] t) := by
 have hg := put3_grown w7 X a b c
 have hg2 := put3_grown (put3 w7 X a b c) Y d e f
 have h1 := put3_box a b c hx
 refine ⟨below_of_grown (below_of_grown hb hX hg) hY hg2, (hg2.block X (heap_lt h1) (fun e => hn (Option.some.inj e))).trans h1, put3_box d e f ((hg.block Y (heap_lt hy) (fun e => hn (Option.some.inj e).symm)).trans hy)⟩
theorem new2 (w : World) (o o' : Obj) : ((w.alloc o).alloc o').heap[w.heap.size + 1]? = some o' := by
 have := heap_new (w.alloc o) o'
 rw [alloc_size] at this
 exact this
theorem fits_may (w : World) (sb : Nat) (s : QSt) (V : QV) (c : QC) (r : List QC) (fr : Int) (m : Msg) (q : Qn) (vq va vu vx : Value) (h : QAt w sb s V (c :: r)) (hok : QOk s) (hne : c.ch.servers ≠ []) (hs1 : 1 ≤ c.ch.sent) (hat : Lies w 3 vq (m.qs.map Qn.cells)) (hr : m.resp = true) (hid : m.id = s.id) (hq : m.qs = [q]) (hqn : q.name.size ≤ 2097152) :
    Calls Tryz.prog 81 #[.pointer (some ⟨sb, 0, none⟩), .int .u32 fr, .agg (msgCells m vq va vu vx)] w fun e w' => e = .returned (.bool (fitsQ s c.ch fr m)) ∧ Hid (Below w.heap.size w w') := by
  have e : fitsQ s c.ch fr m = (decide (fr = lastTo c.ch) && sameB q.name c.ch.name && decide (q.kind = c.ch.kind) && decide (q.cls = 1)) := by
    unfold fitsQ
    rw [hr, decide_eq_true hid, hq]
    rfl
  rw [e]
  have hch : s.ch = c.ch :: r.map QC.ch := h.chs.symm
  have hC := hok.chs c.ch (by rw [hch]; simp)
  have hsn := hC.sent
  have ht1 := hok.t1
  have hsv := hC.servers
  rw [hq] at hat
  obtain ⟨aq, cq, rfl, _⟩ := (show Lies w 3 vq ([q].map Qn.cells) from hat)
  have hb1 := (Below.refl w.heap.size w).alloc (Nat.le_refl _) (.cells (msgCells m (.slice aq 1 cq) va vu vx) 30)
  have HB := hide hb1
  have H1 := hide (h.below hb1)
  have HX := hide (heap_new w (.cells (msgCells m (.slice aq 1 cq) va vu vx) 30))
  have HQ := hide (hat.below hb1)
  obtain ⟨bq, oq, rfl, -, -, -⟩ := q_one hat
  have hc := box_cells H1.out.box
  simp only [qCells, chPtr] at hc
  have hcm := box_cells HX.out
  clear h hb1 e hok hC hch hat
  simp only [List.map_cons, List.map_nil, List.length_singleton] at HQ ⊢
  unfold msgCells at HB H1 HX HQ hc hcm ⊢
  have HRR := hide hr
  have h2' : ((m.id : Int) != s.id) = false := by simp; exact hid
  clear hr hid hq
  go_enter Tryz.func81, Tryz.ntmps81
  go_wp2_with fail
  generalize w.alloc _ = W1 at HB H1 HX HQ hc hcm ⊢
  rw [HRR.out] at hcm
  go_quiet (fail)
  go_wp2_with fail
  have hb2 : Below W1.heap.size W1 (W1.drewN nq) := below_drewN (Below.refl _ _) _
  have H2 := hide (H1.out.below hb2)
  have HB2 := hide (HB.out.trans (hb2.mono HB.out.size))
  have HX2 := hide ((hb2.block _ (heap_lt HX.out)).trans HX.out)
  have HQ2 := hide (HQ.out.below hb2)
  clear hc hcm HB H1 HX HQ hb2
  generalize W1.drewN nq = W2 at H2 HB2 HX2 HQ2 ⊢
  have HS : Hid (∀ w', Below W2.heap.size W2 w' → w'.cell? ⟨w.heap.size, 8, none⟩ = some (.slice (some ⟨bq, oq, none⟩) 1 cq) ∧ w'.cell? ⟨bq, oq, none⟩ = some (.string q.name) ∧ w'.cell? ⟨bq, oq + 1, none⟩ = some (.int .u16 q.kind) ∧ w'.cell? ⟨bq, oq + 2, none⟩ = some (.int .u16 q.cls)) := fun w' hb => by
    have e := box_cells ((hb.block _ (heap_lt HX2.out)).trans HX2.out)
    obtain ⟨b', o', e2, d0, d1, d2⟩ := q_one (HQ2.out.below hb)
    cases e2
    exact ⟨(e 8).trans rfl, d0, d1, d2⟩
  have HCQ : Hid (∀ Wx, Below W2.heap.size W2 Wx → Calls Tryz.prog 115 #[.pointer (some ⟨c.blk, 0, none⟩)] Wx fun e w7 => e = .returned (.agg #[.string c.ch.name, .int .u16 c.ch.kind, .int .u16 1]) ∧ Hid (Below Wx.heap.size Wx w7) ∧ Hid (Below W2.heap.size W2 w7) ∧ (w7.cell? ⟨w.heap.size, 8, none⟩ = some (.slice (some ⟨bq, oq, none⟩) 1 cq) ∧ w7.cell? ⟨bq, oq, none⟩ = some (.string q.name) ∧ w7.cell? ⟨bq, oq + 1, none⟩ = some (.int .u16 q.kind) ∧ w7.cell? ⟨bq, oq + 2, none⟩ = some (.int .u16 q.cls))) := fun Wx hb => by
    refine (q_question Wx c r (H2.out.below hb).chain).mono ?_
    rintro e w7 ⟨rfl, HB7⟩
    have hb7 := hb.trans (HB7.out.mono hb.size)
    exact ⟨rfl, HB7.out, hb7, HS.out w7 hb7⟩
  obtain ⟨k8, d0, d1, d2⟩ := HS.out W2 (Below.refl _ _)
  have hlM : w.heap.size < W2.heap.size := heap_lt HX2.out
  have hlb : bq < W2.heap.size := by
    obtain ⟨_, _, e1, _, e2⟩ := HQ2.out
    injection e1 with e1 _ _
    subst e1
    rcases e2 with e2 | ⟨b', o', e2, h2, _⟩
    · cases e2
    · cases e2; exact h2
  have g1 : ¬ W2.heap.size = w.heap.size := by omega
  have g2 : ¬ w.heap.size = W2.heap.size := by omega
  have g3 : ¬ W2.heap.size = bq := by omega
  have g4 : ¬ bq = W2.heap.size := by omega
  have g5 : ¬ W2.heap.size + 1 = w.heap.size := by omega
  have g6 : ¬ w.heap.size = W2.heap.size + 1 := by omega
  have g7 : ¬ W2.heap.size + 1 = bq := by omega
  have g8 : ¬ bq = W2.heap.size + 1 := by omega
  go_region_held3 (fun w' => w'.cell? ⟨w.heap.size, 8, none⟩ = some (.slice (some ⟨bq, oq, none⟩) 1 cq) ∧ w'.cell? ⟨bq, oq, none⟩ = some (.string q.name) ∧ w'.cell? ⟨bq, oq + 1, none⟩ = some (.int .u16 q.kind) ∧ w'.cell? ⟨bq, oq + 2, none⟩ = some (.int .u16 q.cls)) (first | (go_keep; done) | exact hs7) (first | (go_at_call 115; refine (HCQ.out _ (by first | exact below_drewN (Below.refl _ _) 1 | exact below_drewN ((Below.refl _ _).alloc (Nat.le_refl _) _) 1 | exact below_drewN (((Below.refl _ _).alloc (Nat.le_refl _) _).alloc (by rw [alloc_size]; omega) _) 1)).mono ?_; rintro e w7 ⟨rfl, HB7', HB7, hs7⟩; (first | (have hx7 := (HB7'.out.block W2.heap.size (by simp <;> omega)).trans (heap_old (heap_new W2 (.cells #[.string ⟨#[]⟩, .int .u16 0, .int .u16 0] 41)) (.cells #[.string ⟨#[]⟩, .int .u16 0, .int .u16 0] 41)); have hy7 := (HB7'.out.block (W2.heap.size + 1) (by simp)).trans (new2 W2 (.cells #[.string ⟨#[]⟩, .int .u16 0, .int .u16 0] 41) (.cells #[.string ⟨#[]⟩, .int .u16 0, .int .u16 0] 41)); have hcx7 := box_cells hx7; have hfx7 := frozen_of_block hx7; have hcy7 := box_cells hy7; have hfy7 := frozen_of_block hy7) | (have hx7 := (HB7'.out.block W2.heap.size (by simp)).trans (heap_new W2 (.cells #[.string ⟨#[]⟩, .int .u16 0, .int .u16 0] 41)); have hcx7 := box_cells hx7; have hfx7 := frozen_of_block hx7; have hl7 := heap_lt hx7; have hn7 : ¬ w7.heap.size = W2.heap.size := Nat.ne_of_gt hl7; have hn7' : ¬ W2.heap.size = w7.heap.size := Nat.ne_of_lt hl7) | skip)))
  all_goals
    clear k8 d0 d1 d2 g1 g2 g3 g4 g5 g6 g7 g8 hs7
    first
    | (have T8 := two_pp HB7.out hx7 hy7 (Nat.le_refl _) (by omega) (by omega) (.string q.name) (.int .u16 q.kind) (.int .u16 q.cls) (.string c.ch.name) (.int .u16 c.ch.kind) (.int .u16 1)
       try unfold put3 at T8
       obtain ⟨W8, hW8⟩ : ∃ W8 : World, W8 = ((((((w7.setCell ⟨W2.heap.size, 0, none⟩ (.string q.name)).setCell ⟨W2.heap.size, 1, none⟩ (.int .u16 q.kind)).setCell ⟨W2.heap.size, 2, none⟩ (.int .u16 q.cls)).setCell ⟨W2.heap.size + 1, 0, none⟩ (.string c.ch.name)).setCell ⟨W2.heap.size + 1, 1, none⟩ (.int .u16 c.ch.kind)).setCell ⟨W2.heap.size + 1, 2, none⟩ (.int .u16 1)) := ⟨_, rfl⟩
       rw [← hW8] at T8 ⊢
       clear hW8
       obtain ⟨hB8, hX8, hY8⟩ := T8)
    | (have T8 := two_pp HB7.out hy7 hx7 (by omega) (Nat.le_refl _) (by omega) (.string q.name) (.int .u16 q.kind) (.int .u16 q.cls) (.string c.ch.name) (.int .u16 c.ch.kind) (.int .u16 1)
       try unfold put3 at T8
       obtain ⟨W8, hW8⟩ : ∃ W8 : World, W8 = ((((((w7.setCell ⟨W2.heap.size + 1, 0, none⟩ (.string q.name)).setCell ⟨W2.heap.size + 1, 1, none⟩ (.int .u16 q.kind)).setCell ⟨W2.heap.size + 1, 2, none⟩ (.int .u16 q.cls)).setCell ⟨W2.heap.size, 0, none⟩ (.string c.ch.name)).setCell ⟨W2.heap.size, 1, none⟩ (.int .u16 c.ch.kind)).setCell ⟨W2.heap.size, 2, none⟩ (.int .u16 1)) := ⟨_, rfl⟩
       rw [← hW8] at T8 ⊢
       clear hW8
       obtain ⟨hB8, hX8, hY8⟩ := T8)
    | (have T8 := two_pa HB7.out hx7 (Nat.le_refl _) (.string q.name) (.int .u16 q.kind) (.int .u16 q.cls) (.cells #[.string c.ch.name, .int .u16 c.ch.kind, .int .u16 1] 41)
       try unfold put3 at T8
       obtain ⟨W8, hW8⟩ : ∃ W8 : World, W8 = ((((w7.setCell ⟨W2.heap.size, 0, none⟩ (.string q.name)).setCell ⟨W2.heap.size, 1, none⟩ (.int .u16 q.kind)).setCell ⟨W2.heap.size, 2, none⟩ (.int .u16 q.cls)).alloc (.cells #[.string c.ch.name, .int .u16 c.ch.kind, .int .u16 1] 41)) := ⟨_, rfl⟩
       rw [← hW8] at T8 ⊢
       clear hW8
       obtain ⟨hB8, hX8, hY8⟩ := T8)
    | (have T8 := two_pa HB7.out hx7 (Nat.le_refl _) (.string c.ch.name) (.int .u16 c.ch.kind) (.int .u16 1) (.cells #[.string q.name, .int .u16 q.kind, .int .u16 q.cls] 41)
       try unfold put3 at T8
       obtain ⟨W8, hW8⟩ : ∃ W8 : World, W8 = ((((w7.setCell ⟨W2.heap.size, 0, none⟩ (.string c.ch.name)).setCell ⟨W2.heap.size, 1, none⟩ (.int .u16 c.ch.kind)).setCell ⟨W2.heap.size, 2, none⟩ (.int .u16 1)).alloc (.cells #[.string q.name, .int .u16 q.kind, .int .u16 q.cls] 41)) := ⟨_, rfl⟩
       rw [← hW8] at T8 ⊢
       clear hW8
       obtain ⟨hB8, hY8, hX8⟩ := T8)
    | (have T8 := two_aa HB7.out (.cells #[.string q.name, .int .u16 q.kind, .int .u16 q.cls] 41) (.cells #[.string c.ch.name, .int .u16 c.ch.kind, .int .u16 1] 41)
       try unfold put3 at T8
       obtain ⟨W8, hW8⟩ : ∃ W8 : World, W8 = ((w7.alloc (.cells #[.string q.name, .int .u16 q.kind, .int .u16 q.cls] 41)).alloc (.cells #[.string c.ch.name, .int .u16 c.ch.kind, .int .u16 1] 41)) := ⟨_, rfl⟩
       rw [← hW8] at T8 ⊢
       clear hW8
       obtain ⟨hB8, hX8, hY8⟩ := T8)
    | (have T8 := two_aa HB7.out (.cells #[.string c.ch.name, .int .u16 c.ch.kind, .int .u16 1] 41) (.cells #[.string q.name, .int .u16 q.kind, .int .u16 q.cls] 41)
       try unfold put3 at T8
       obtain ⟨W8, hW8⟩ : ∃ W8 : World, W8 = ((w7.alloc (.cells #[.string c.ch.name, .int .u16 c.ch.kind, .int .u16 1] 41)).alloc (.cells #[.string q.name, .int .u16 q.kind, .int .u16 q.cls] 41)) := ⟨_, rfl⟩
       rw [← hW8] at T8 ⊢
       clear hW8
       obtain ⟨hB8, hY8, hX8⟩ := T8)
  all_goals
    have HB8 := hide (HB2.out.trans (hB8.mono HB2.out.size))
    have H8 := hide (H2.out.below hB8)
    have HX8 := hide hX8
    have HY8 := hide hY8
    clear hB8 hX8 hY8 HB7 HB7' HCQ HS
    have hcc := box_cells H8.out.chain.1
    simp only [qcCells] at hcc
    have hsub : ((c.ch.sent : Int) - 1) = ((c.ch.sent - 1 : Nat) : Int) := by omega
    have HSB := hide hsub
    clear hsub
    go_wp2_with fail
    rw [HSB.out]
    refine (q_server W8 c r (c.ch.sent - 1) H8.out.chain hne (by omega) hsv).mono ?_
    rintro e w9 ⟨rfl, k9, hw9⟩
    have hcx := box_cells HX8.out
    have hcy := box_cells HY8.out
    have hb9 : Below W8.heap.size W8 w9 := by rw [hw9]; exact below_drewN (Below.refl _ _) _
    have hX9 := (hb9.block _ (heap_lt HX8.out)).trans HX8.out
    have hY9 := (hb9.block _ (heap_lt HY8.out)).trans HY8.out
    have HB9 := hide (HB8.out.trans (hb9.mono HB8.out.size))
    clear hcc hcx hcy hb9 hw9
    have hcx := box_cells hX9
    have hcy := box_cells hY9
    have hlt : c.ch.servers.getD ((c.ch.sent - 1) % c.ch.servers.length) 0 = lastTo c.ch := rfl
    rw [hlt]
    clear hlt
    by_cases hto : fr = lastTo c.ch
    · have h1' : ((fr : Int) == lastTo c.ch) = true := by simp; exact hto
      have HTO := hide (decide_eq_true hto)
      clear hto
      go_wp2_with fail
      refine (q_same q.name c.ch.name hqn w9).mono ?_
      rintro e w10 ⟨rfl, k10, hw10⟩
      have hcw : ∀ p, w10.cell? p = w9.cell? p := by rw [hw10]; intro p; rfl
      have hcx2 := fun o => (hcw _).trans (hcx o)
      have hcy2 := fun o => (hcw _).trans (hcy o)
      have HB10 : Hid (Below w.heap.size w w10) := by rw [hw10]; exact below_drewN HB9.out _
      clear hcx hcy hcw hw10
      cases hsm : sameB q.name c.ch.name with
      | false =>
        go_wp2_with fail
        go_ret
        exact ⟨ret_bool (by rw [hsm]; simp), HB10.out⟩
      | true =>
        by_cases hkd : q.kind = c.ch.kind
        · have h3' : ((q.kind : Int) == c.ch.kind) = true := by simp; exact hkd
          have HKD := hide (decide_eq_true hkd)
          clear hkd
          by_cases hcl : q.cls = 1
          · have h4' : ((q.cls : Int) == 1) = true := by simp; exact hcl
            have HCL := hide (decide_eq_true hcl)
            clear hcl
            go_wp2_with fail
            go_ret
            exact ⟨ret_bool (by rw [HTO.out, hsm, HKD.out, HCL.out]; rfl), HB10.out⟩
          · have h4' : ((q.cls : Int) == 1) = false := by simp; exact hcl
            have HCL := hide (decide_eq_false hcl)
            clear hcl
            go_wp2_with fail
            go_ret
            exact ⟨ret_bool (by rw [HCL.out]; simp), HB10.out⟩
        · have h3' : ((q.kind : Int) == c.ch.kind) = false := by simp; exact hkd
          have HKD := hide (decide_eq_false hkd)
          clear hkd
          go_wp2_with fail
          go_ret
          exact ⟨ret_bool (by rw [HKD.out]; simp), HB10.out⟩
    · have h1' : ((fr : Int) == lastTo c.ch) = false := by simp; exact hto
      have HTO := hide (decide_eq_false hto)
      clear hto
      go_wp2_with fail
      go_ret
      exact ⟨ret_bool (by rw [HTO.out]; rfl), HB9.out⟩
theorem q_fits (w : World) (sb : Nat) (s : QSt) (V : QV) (c : QC) (r : List QC) (fr : Int) (m : Msg) (vq va vu vx : Value) (h : QAt w sb s V (c :: r)) (hok : QOk s) (hne : c.ch.servers ≠ []) (hs1 : 1 ≤ c.ch.sent) (hat : Lies w 3 vq (m.qs.map Qn.cells)) (hm : WfM m) :
  Calls Tryz.prog 81 #[.pointer (some ⟨sb, 0, none⟩), .int .u32 fr, .agg (msgCells m vq va vu vx)] w fun e w' => e = .returned (.bool (fitsQ s c.ch fr m)) ∧ Hid (Below w.heap.size w w') := by
 cases hr : m.resp with
 | false => exact fits_no w sb s V c r fr m vq va vu vx h hat (.inl hr)
 | true =>
  by_cases hid : m.id = s.id
  ·by_cases hl : (m.qs.length : Int) = 1
   ·obtain ⟨q, hq⟩ : ∃ q, m.qs = [q] := by
     match hq : m.qs with
     | [] => rw [hq] at hl; simp at hl
     | [q] => exact ⟨q, rfl⟩
     | x :: y :: l => rw [hq] at hl; simp at hl; omega
    exact fits_may w sb s V c r fr m q vq va vu vx h hok hne hs1 hat hr hid hq (hm.qs q (by rw [hq]; simp)).name
   ·exact fits_no w sb s V c r fr m vq va vu vx h hat (.inr (.inr ⟨hr, hid, hl⟩))
  ·exact fits_no w sb s V c r fr m vq va vu vx h hat (.inr (.inl ⟨hr, hid⟩))
end Go.Proofs.YtafoepfhepdcoaaGreat
namespace Go.Proofs.YtafoepfhepdcoaaGreat
open Go.RowKit Go.Trawl
theorem unM_none {s : ByteArray} (h : unpack s = none) : unE s = 1 := by
 unfold unE
 rw [h]
 rfl
theorem first_sends {st : RSt} (h : StOk st) (m : Msg) (q : Qn) : askP (beginSt st m q) [] (freshCh st q.name q.kind) = (askSt (beginSt st m q) [] (freshCh st q.name q.kind), askStep (beginSt st m q) (freshCh st q.name q.kind)) := by
 have := h.b0
 unfold askP
 exact if_neg (show ¬ st.b ≤ ((0 : Nat) : Int) by omega)
theorem neqF (fn : Fn) (x y : Array Value) (w : World) : (binOp .neq 145 (.func fn x y) .nilFunc).run Tryz.prog w = .ok (.bool true) w := by kernel_rfl
theorem neqN (w : World) : (binOp .neq 145 .nilFunc .nilFunc).run Tryz.prog w = .ok (.bool false) w := by kernel_rfl
theorem eqlF (fn : Fn) (x y : Array Value) (w : World) : (binOp .eql 145 (.func fn x y) .nilFunc).run Tryz.prog w = .ok (.bool false) w := by kernel_rfl
theorem eqlN (w : World) : (binOp .eql 145 .nilFunc .nilFunc).run Tryz.prog w = .ok (.bool true) w := by kernel_rfl
attribute [local go_sem] buildX0 buildX1 neqF neqN
theorem reply_ref (id code : Int) (qs : List Qn) : replyL (asReply (refM id code qs)) = replyL (refM id code qs) := replyL_resp _ _ rfl
theorem ask_cases (st : RSt) (s : ByteArray) (hok : StOk st) (hb : st.busy = false) (hs : ¬ s.size < 12) :
  ((unE s = 1 ∨ unE s = 0 ∧ (unM s).resp = true) ∧ askS st s = (st, stepV 2 0 (str (replyL (refM (n2 s 0) 1 []))), 0)) ∨
  (unE s = 0 ∧ (unM s).resp = false ∧ ¬ ((unM s).qs.length : Int) = 1 ∧ askS st s = (st, stepV 2 0 (str (replyL (refM (n2 s 0) 4 []))), 0)) ∨
  ∃ q, unE s = 0 ∧ (unM s).resp = false ∧ (unM s).qs = [q] ∧ NamedQ q ∧
   (((unM s).op ≠ 0 ∨ (unM s).op = 0 ∧ q.cls ≠ 1) ∧ askS st s = (st, stepV 2 0 (str (replyL (refM (n2 s 0) 4 [q]))), 0) ∨
   (unM s).op = 0 ∧ q.cls = 1 ∧ (unM s).id = n2 s 0 ∧ askS st s = (askSt (beginSt st (unM s) q) [] (freshCh st q.name q.kind), askStep (beginSt st (unM s) q) (freshCh st q.name q.kind), 0)) := by
 unfold askS
 rw [if_neg (by rw [hb]; simp), if_neg hs]
 cases hu : unpack s with
 | none => exact .inl ⟨.inl (unM_none hu), rfl⟩
 | some m =>
  obtain ⟨e1, e2⟩ := unM_some hu
  rw [e1, e2]
  have hid := unpack_id hu
  dsimp only
  cases hr : m.resp with
  | true => exact .inl ⟨.inr ⟨rfl, rfl⟩, by rw [if_pos rfl]⟩
  | false =>
   rw [if_neg (by simp)]
   have hn := (unpack_named hu).q
   match hq : m.qs with
   | [] => exact .inr (.inl ⟨rfl, rfl, by simp, by rw [hid]⟩)
   | x :: y :: l => exact .inr (.inl ⟨rfl, rfl, by simp; omega, by dsimp only; rw [hid]⟩)
   | [q] =>
    have hnq := hn q (by rw [hq]; simp)
    refine .inr (.inr ⟨q, rfl, rfl, rfl, hnq, ?_⟩)
    dsimp only
    by_cases hc : m.op ≠ 0 ∨ q.cls ≠ 1
    ·refine .inl ⟨?_, by rw [if_pos hc, hid]⟩
     by_cases h0 : m.op = 0
     ·rcases hc with h1 | h1
      ·exact absurd h0 h1
      ·exact .inr ⟨h0, h1⟩
     ·exact .inl h0
    ·refine .inr ⟨Classical.byContradiction fun e => hc (.inl e), Classical.byContradiction fun e => hc (.inr e), hid, ?_⟩
     rw [if_neg hc, first_sends hok]
structure Told (w w' : World) (sb : Nat) (O : Nat → Prop) (st : RSt) (v : Value) (l : List UInt8) : Prop where
 at_ : ∃ s V cs, QAt w' sb s V cs ∧ QOk s ∧ Sim s st ∧ Fr w w' O (V.owns cs sb) ∧ ∀ k, v.ownBlock = some k → ¬ V.owns cs sb k
 own : w'.ownsRow 0 5 1 v l.length (bytesV l)
 new : ∀ k, v.ownBlock = some k → w.heap.size ≤ k
def Tells (w : World) (sb : Nat) (O : Nat → Prop) (p : RSt × Value × Int) (e : Ending) (w' : World) : Prop :=
 ∃ (k t : Int) (a : Option Addr) (l : List UInt8) (c : Nat), e = .returned (.tuple #[stepX k t (.slice a l.length c), .int .i64 p.2.2]) ∧ Hid (p.2.1 = stepV k t (str l) ∧ Told w w' sb O p.1 (.slice a l.length c) l)
theorem wUnpack2 (w : World) (b c : Nat) (s : ByteArray) (hsm : s.size ≤ 2097152) (hsc : s.size ≤ c) (hbl : b < w.heap.size) (hc : Bytes w b s) :
  Calls Tryz.prog 31 #[.slice (some ⟨b, 0, none⟩) s.size c] w fun e w' => ∃ (aq : Option Addr) (cq : Nat) (aa : Option Addr) (ca : Nat) (au : Option Addr) (cu : Nat) (ax : Option Addr) (cx : Nat),
   e = .returned (.tuple #[.agg (msgCells (unM s) (.slice aq (unM s).qs.length cq) (.slice aa (unM s).an.length ca) (.slice au (unM s).au.length cu) (.slice ax (unM s).ex.length cx)), .int .i64 (unE s)]) ∧
   Hid (Below w.heap.size w w' ∧ MsgAt w' (unM s) (.slice aq (unM s).qs.length cq) (.slice aa (unM s).an.length ca) (.slice au (unM s).au.length cu) (.slice ax (unM s).ex.length cx) ∧ ∀ k, ((Value.slice aq (unM s).qs.length cq).ownBlock = some k ∨ (Value.slice aa (unM s).an.length ca).ownBlock = some k ∨ (Value.slice au (unM s).au.length cu).ownBlock = some k ∨ (Value.slice ax (unM s).ex.length cx).ownBlock = some k) → w.heap.size ≤ k ∧ k < w'.heap.size) := by
 refine (wUnpack_any w b c s hsm hsc hbl hc).mono ?_
 intro e w' H
 obtain ⟨hb, hno, hyes⟩ := H.out
 cases hu : unpack s with
 | none =>
  have e1 : unM s = zMsg := by unfold unM; rw [hu]; rfl
  rw [e1, unM_none hu]
  refine ⟨none, 0, none, 0, none, 0, none, 0, hno hu, hb, ⟨liesNil _ _, liesNil _ _, liesNil _ _, liesNil _ _⟩, fun k hk => ?_⟩
  rcases hk with hk | hk | hk | hk <;> cases hk
 | some m =>
  rw [(unM_some hu).1, (unM_some hu).2]
  obtain ⟨vq, va, vu, vx, rfl, hn4, hr⟩ := hyes m hu
  obtain ⟨aq, cq, rfl⟩ := own_slice hr.q
  obtain ⟨aa, ca, rfl⟩ := own_slice hr.a
  obtain ⟨au, cu, rfl⟩ := own_slice hr.u
  obtain ⟨ax, cx, rfl⟩ := own_slice hr.x
  refine ⟨aq, cq, aa, ca, au, cu, ax, cx, rfl, hb, hr.at, fun k hk => ?_⟩
  rcases hk with hk | hk | hk | hk
  ·exact ⟨hr.nq k hk, (hr.q.lt k hk).2⟩
  ·exact ⟨hr.na k hk, (hr.a.lt k hk).2⟩
  ·exact ⟨hr.nu k hk, (hr.u.lt k hk).2⟩
  ·exact ⟨hr.nx k hk, (hr.x.lt k hk).2⟩
theorem told_nil {w : World} {sb : Nat} {s : QSt} {V : QV} {cs : List QC} {st : RSt} (h : QAt w sb s V cs) (hok : QOk s) (hs : Sim s st) (o : Obj) : Told w (w.alloc o) sb (V.owns cs sb) st (.slice none 0 0) [] :=
 ⟨⟨s, V, cs, h.below ((Below.refl _ _).alloc (Nat.le_refl _) _), hok, hs, Fr.of_below ((Below.refl _ _).alloc (Nat.le_refl _) _) _, fun k hk => by cases hk⟩, World.ownsRow_nil _ _ _ _, fun k hk => by cases hk⟩
theorem sAsk_busy (w : World) (sb b c : Nat) (q : QSt) (V : QV) (cs : List QC) (st : RSt) (s : ByteArray) (h : QAt w sb q V cs) (hok : QOk q) (hsm : Sim q st) (hbz : st.busy = true) :
  Calls Tryz.prog 35 #[.pointer (some ⟨sb, 0, none⟩), .slice (some ⟨b, 0, none⟩) s.size c] w (Tells w sb (V.owns cs sb) (askS st s)) := by
 have e : askS st s = (st, stepV 0 0 ⟨#[]⟩, 3) := by unfold askS; rw [if_pos hbz]
 rw [e]
 have H := hide h
 have HK := hide hok
 have HS := hide hsm
 have hc := box_cells (h.below ((Below.refl w.heap.size w).alloc (Nat.le_refl _) (.cells #[.int .i64 0, .int .u32 0, .slice none 0 0] 59))).box
 simp only [qCells, (hsm.busy hbz).1, nextV] at hc
 clear h e hok hsm
 unfold Tells
 go_enter Tryz.func35, Tryz.ntmps35
 go_wp2_with fail
 refine bodyPost_ret (results_cell_row2 rfl _ _ w.heap.size _ _ _ _ rfl (heap_new w _) undXs rfl (by kernel_rfl)) rfl ?_
 exact ⟨0, 0, none, [], 0, rfl, rfl, told_nil H.out HK.out HS.out _⟩
theorem sAsk_short (w : World) (sb b c : Nat) (q : QSt) (V : QV) (cs : List QC) (st : RSt) (s : ByteArray) (h : QAt w sb q V cs) (hok : QOk q) (hsm : Sim q st) (hbz : st.busy = false) (hs : s.size < 12) :
  Calls Tryz.prog 35 #[.pointer (some ⟨sb, 0, none⟩), .slice (some ⟨b, 0, none⟩) s.size c] w (Tells w sb (V.owns cs sb) (askS st s)) := by
 have e : askS st s = (st, stepV 2 0 ⟨#[]⟩, 0) := by unfold askS; rw [if_neg (by rw [hbz]; simp), if_pos hs]
 rw [e]
 have H := hide h
 have HK := hide hok
 have HS := hide hsm
 have hc := box_cells (h.below ((Below.refl w.heap.size w).alloc (Nat.le_refl _) (.cells #[.int .i64 0, .int .u32 0, .slice none 0 0] 59))).box
 simp only [qCells, (hsm.idle hbz).1, nextV] at hc
 clear h e hok hsm
 unfold Tells
 go_enter Tryz.func35, Tryz.ntmps35
 go_wp2_with fail
 refine bodyPost_ret (results_cell_row2 rfl _ _ w.heap.size _ _ _ _ rfl (heap_new w _) undXs rfl (by kernel_rfl)) rfl ?_
 exact ⟨2, 0, none, [], 0, rfl, rfl, told_nil H.out HK.out HS.out _⟩
end Go.Proofs.YtafoepfhepdcoaaGreat
