/- keep. -/
import Derived.Test.YtafoepfhepdcoaaGreatKeepC
namespace Go.Proofs.YtafoepfhepdcoaaGreat
open Go.RowKit Go.Trawl

theorem pI : (Tryz.prog.info? 119).map (fun i => (i.zero, i.size, i.bytes)) = some (some (.pointer none), 1, 8) := by kernel_rfl
theorem uP : Tryz.prog.underlying 82 = some (.slice 119) := by kernel_rfl
theorem one_p (k : Nat) : ∀ u ∈ [ptrV k], u.oneCell' = true := by
  intro u hu; simp at hu; subst hu; rfl

/-- The world's struct, its list of holds, and these. -/
structure WorldW (B : Nat) (U : Nat → Prop) (w : World) (ws : Nat) (vps : Value) (hs : List Nat) (vh : Value) : Prop where
  boxw : w.heap[ws]? = some (.cells #[vps, vh] 84)
  row : w.ownsRow 0 119 1 vh hs.length (hs.map ptrV)
  rowB : ∀ k, vh.ownBlock = some k → B ≤ k
  old : ∀ h ∈ hs, HoldX U w h

theorem type_ne {w : World} {a b : Nat} {c1 c2 : Array Value} {t1 t2 : TypeId} (h1 : w.heap[a]? = some (.cells c1 t1)) (h2 : w.heap[b]? = some (.cells c2 t2)) (hne : t1 ≠ t2) : a ≠ b := by
  intro e; subst e
  rw [h1] at h2
  injection h2 with h2
  injection h2 with _ h2
  exact hne h2

/-- The state behind the marks. -/
theorem KS.start {w w2 : World} {B ws : Nat} {U : Nat → Prop} {vps : Value} {hs : List Nat} {hb : Nat} {vb vr vq vc vh : Value} {mk : Int} {lb lr lq lc : Nat} {m0 : Value}
    (hw : WorldW B U w ws vps hs vh) (hp : KPre w B ws U hb vb vr vq vc) (hbox : w.heap[hb]? = some (.cells #[vb, vr, vq, vc, m0] 121))
    (M : Marked (w.setCell ⟨hb, 4, none⟩ (.int .i64 mk)) w2 hb vb vr vq vc mk lb lr lq lc)
    (ob : ∃ x, w.ownsRow 0 5 1 vb lb x) (or : ∃ x, w.ownsRow 0 54 1 vr lr x) (oq : ∃ x, w.ownsRow 0 41 3 vq lq x) (oc : ∃ x, w.ownsRow 0 69 5 vc lc x) :
    KS w w2 B ws U vps hs hb vb vr vq vc mk lb lr lq lc 0 [] hb vb vr vq vc vh := by
  obtain ⟨_, ob⟩ := ob
  obtain ⟨_, or⟩ := or
  obtain ⟨_, oq⟩ := oq
  obtain ⟨_, oc⟩ := oc
  have sz1 : (w.setCell ⟨hb, 4, none⟩ (.int .i64 mk)).heap.size = w.heap.size := by simp [World.setCell]
  have far : ∀ k, k < w.heap.size → k ≠ hb → vb.ownBlock ≠ some k → vr.ownBlock ≠ some k → vq.ownBlock ≠ some k → vc.ownBlock ≠ some k → w2.heap[k]? = w.heap[k]? :=
    fun k hk e0 e1 e2 e3 e4 => (M.frame k (by rw [sz1]; exact hk) e1 e2 e3 e4).trans (Below.heap_setCell w ⟨hb, 4, none⟩ _ k e0)
  have fr : ∀ (k : Nat) (cs : Array Value) (t : TypeId), w.heap[k]? = some (.cells cs t) → t ≠ 121 → t ≠ 5 → t ≠ 54 → t ≠ 41 → t ≠ 69 → w2.heap[k]? = some (.cells cs t) :=
    fun k cs t hk e0 e1 e2 e3 e4 => (far k (heap_lt hk) (type_ne hk hbox e0) (own_type_ne' ob hk (Ne.symm e1)) (own_type_ne' or hk (Ne.symm e2)) (own_type_ne' oq hk (Ne.symm e3)) (own_type_ne' oc hk (Ne.symm e4))).trans hk
  refine ⟨fr _ _ _ hw.boxw (by decide) (by decide) (by decide) (by decide) (by decide), ?_, hw.rowB, M.hold, .inl rfl, .inl rfl, .inl rfl, .inl rfl, .inl rfl, ?_, by simp, ?_, ?_⟩
  · have := own_same hw.row fun k cs hk => fr k cs _ hk (by decide) (by decide) (by decide) (by decide) (by decide)
    simpa using this
  · intro x hx
    refine (hw.old x hx).move (fun _ h => h) fun k cs t hu _ hk => ?_
    rw [far k (hp.lt k hu) (fun e => hp.uh (by rw [← e]; exact hu)) (fun e => (hp.bB k e).2 hu) (fun e => (hp.rB k e).2 hu) (fun e => (hp.qB k e).2 hu) (fun e => (hp.cB k e).2 hu)]
    exact hk
  · refine ⟨M.os, M.tape, M.output, by have := M.size; omega, fun k hk => ?_⟩
    have h1 := hp.sz
    have h2 := hp.hlo
    exact far k (by omega) (by omega) (fun e => by have := (hp.bB k e).1; omega) (fun e => by have := (hp.rB k e).1; omega) (fun e => by have := (hp.qB k e).1; omega) (fun e => by have := (hp.cB k e).1; omega)
  · intro k cs t hk _ _ n3 n4 n5 n6 n7
    rw [far k (heap_lt hk) n3 n4 n5 n6 n7]; exact hk

theorem KF.start {w w2 : World} {ws hb : Nat} {vb vr vq vc vh : Value} {mk : Int} {lb lr lq lc : Nat} (M : Marked (w.setCell ⟨hb, 4, none⟩ (.int .i64 mk)) w2 hb vb vr vq vc mk lb lr lq lc) : KF w w2 ws hb vh vb vr vq vc vh := by
  refine ⟨.inl rfl, fun k hk n1 n2 n3 n4 n5 n6 n7 => ?_⟩
  have sz1 : (w.setCell ⟨hb, 4, none⟩ (.int .i64 mk)).heap.size = w.heap.size := by simp [World.setCell]
  exact (M.frame k (by rw [sz1]; exact hk) n4 n5 n6 n7).trans (Below.heap_setCell w ⟨hb, 4, none⟩ _ k n2)

set_option maxRecDepth 10000 in
set_option maxHeartbeats 4000000 in
theorem keep_any (w : World) (B ws : Nat) (U : Nat → Prop) (vps : Value) (hs : List Nat) (hb : Nat) (vb vr vq vc vh : Value) (lb lr lq lc : Nat) (hl : hs.length ≤ 99999990) (b1 : lb ≤ 4194300) (b2 : lr ≤ 4194300) (b3 : lq ≤ 4194300) (b4 : lc ≤ 4194300)
    (hw : WorldW B U w ws vps hs vh) (hp : KPre w B ws U hb vb vr vq vc) (hone : One vb vr vq vc) (h : HoldP w hb vb vr vq vc 0 lb lr lq lc) :
    Calls Tryz.prog 58 #[ptrV ws, ptrV hb] w fun e w' => e = .returned (.tuple #[]) ∧ ∃ hsn G x0 x1 x2 x3 vh', hsn.length = 4 ∧ KS w w' B ws U vps hs hb vb vr vq vc (hs.length + 1) lb lr lq lc 3 hsn G x0 x1 x2 x3 vh' ∧ KF w w' ws hb vh vb vr vq vc vh' := by
  obtain ⟨ip, ip0, ip1, ip2, ip3⟩ := info_parts pI
  obtain ⟨ah, ch, rfl⟩ := own_slice hw.row
  have hcw := box_cells hw.boxw
  have hch := box_cells h.box
  have hfh := frozen_of_block h.box
  have HW := hide hw
  have HP := hide hp
  have HH := hide h
  have HONE := hide hone
  clear hw hp h hone
  unfold ptrV
  go_enter Tryz.func58, Tryz.ntmps58
  go_wp2_with fail
  have hp1 : HoldP (w.setCell ⟨hb, 4, none⟩ (.int .i64 (hs.length + 1))) hb vb vr vq vc (hs.length + 1) lb lr lq lc := by
    have hh := HH.out
    refine ⟨by rw [heap_setCell_eq hh.box]; rfl, ?_, ?_, ?_, ?_⟩
    · obtain ⟨x, hx⟩ := hh.b; exact ⟨x, own_setCell_ne hx hh.box (by decide) _⟩
    · obtain ⟨x, hx⟩ := hh.r; exact ⟨x, own_setCell_ne hx hh.box (by decide) _⟩
    · obtain ⟨x, hx⟩ := hh.q; exact ⟨x, own_setCell_ne hx hh.box (by decide) _⟩
    · obtain ⟨x, hx⟩ := hh.c; exact ⟨x, own_setCell_ne hx hh.box (by decide) _⟩
  refine (marks_any _ hb vb vr vq vc (hs.length + 1) lb lr lq lc (by omega) (by omega) (by omega) (by omega) (by omega) (by omega) HONE.out hp1).mono ?_
  rintro e w2 ⟨rfl, hM⟩
  have K2 := KS.start HW.out HP.out HH.out.box hM HH.out.b HH.out.r HH.out.q HH.out.c
  have KK2 := hide K2
  have KF2 : Hid (KF w w2 ws hb (.slice ah hs.length ch) vb vr vq vc (.slice ah hs.length ch)) := KF.start hM
  clear hp1 hM hch hfh hcw K2
  have hcw := box_cells KK2.out.boxw
  have tok1 : True := trivial
  go_wp2_with (at_builtin; have _t := tok1; refine wpList_append_grew _ rfl _ _ 82 rfl 119 ip (.pointer none) 1 8 uP ip0 ip1 ip2 ip3 rfl (by decide) (.slice ah hs.length ch) _ _ rfl ⟨w2.heap.size, 0, none⟩ 1 1 [ptrV hb] rfl rfl (one_p hb) (KK2.out.row.alloc _) (cells_new w2 #[ptrV hb] _) (by simp; unfold maxLen; omega) (by simp; omega) ?_; intro v3 w3 g3; obtain ⟨a3, c3, rfl⟩ := own_slice g3.own; have bw3 := block_other g3 (KK2.out.row.alloc _) (heap_old KK2.out.boxw _) (by decide); clear hcw tok1; have hcw := box_cells bw3; have hfw := frozen_of_block bw3; clear bw3)
  have K3 := KK2.out.append HP.out (by omega) (by omega) (by omega) (by omega) (by omega) (by omega) g3
  have KK3 := hide K3
  have KF3 := hide (KF2.out.append KK2.out.below.size g3)
  clear hcw hfw K3 g3
  go_loopw [4, 5] (fun g n wr => ∃ (j : Nat) (hsn : List Nat) (G : Nat) (x0 x1 x2 x3 vh' : Value), n = .int .i64 j ∧ j ≤ 3 ∧ g = .pointer (some ⟨G, 0, none⟩) ∧ hsn.length = j + 1 ∧ Hid (KS w wr B ws U vps hs hb vb vr vq vc (hs.length + 1) lb lr lq lc j hsn G x0 x1 x2 x3 vh') ∧ Hid (KF w wr ws hb (.slice ah hs.length ch) vb vr vq vc vh')) (fun _ n _ => 3 - (intOf n).toNat)
  case atStart => exact ⟨0, _, _, _, _, _, _, _, rfl, by omega, rfl, rfl, KK3.out, KF3.out⟩
  case round =>
    obtain ⟨j, hsn, G, x0, x1, x2, x3, vh', rfl, hj, rfl, hlen, KJ, KFJ⟩ := hrel
    have hle4 : hsn.length ≤ 4 := by omega
    have HL := hide hlen
    clear hlen
    by_cases hj3 : j < 3
    · obtain ⟨aj, cj, rfl⟩ := own_slice KJ.out.row
      go_wp2_with fail
      refine (longer_any _ G x0 x1 x2 x3 (hs.length + 1) (lb + j) (lr + j) (lq + j) (lc + j) (by omega) (by omega) (by omega) (by omega) (by omega) (by omega) KJ.out.cur).mono ?_
      rintro e w4 ⟨G', y0, y1, y2, y3, rfl, L, n0, n1, n2, n3⟩
      have K4 := hide (KJ.out.longer HP.out L n0 n1 n2 n3)
      have KF4 := hide (KFJ.out.longer KJ.out L)
      clear L n0 n1 n2 n3
      have hcw := box_cells K4.out.boxw
      have tok1 : True := trivial
      go_wp2_with (at_builtin; have _t := tok1; refine wpList_append_grew _ rfl _ _ 82 rfl 119 ip (.pointer none) 1 8 uP ip0 ip1 ip2 ip3 rfl (by decide) (.slice aj (hs.length + hsn.length) cj) _ _ rfl ⟨w4.heap.size, 0, none⟩ 1 1 [ptrV G'] rfl rfl (one_p G') (K4.out.row.alloc _) (cells_new w4 #[ptrV G'] _) (by unfold maxLen; omega) (by omega) ?_; intro v5 w5 g5; obtain ⟨a5, c5, rfl⟩ := own_slice g5.own; have bw5 := block_other g5 (K4.out.row.alloc _) (heap_old K4.out.boxw _) (by decide); clear hcw tok1; have hcw := box_cells bw5; have hfw := frozen_of_block bw5; clear bw5)
      have K5 := hide (K4.out.append HP.out (by omega) (by omega) (by omega) (by omega) (by omega) (by omega) g5)
      have KF5 := hide (KF4.out.append K4.out.below.size g5)
      exact ⟨⟨j + 1, hsn ++ [G'], G', y0, y1, y2, y3, _, by go_num, by omega, rfl, by simp [HL.out], K5, KF5⟩, by simp [intOf]; omega⟩
    · have hj' : j = 3 := by omega
      subst hj'
      go_wp2_with fail
      go_end0
      exact ⟨rfl, hsn, G, x0, x1, x2, x3, vh', HL.out, KJ.out, KFJ.out⟩
end Go.Proofs.YtafoepfhepdcoaaGreat
