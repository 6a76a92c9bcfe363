/- looks: every list reads as its owner wrote it. -/
import Derived.Test.YtafoepfhepdcoaaGreatKeepD
namespace Go.Proofs.YtafoepfhepdcoaaGreat
open Go.RowKit Go.Trawl

theorem HoldM.lt {U : Nat → Prop} {w : World} {hb : Nat} {vb vr vq vc : Value} {mk : Int} {lb lr lq lc : Nat} (h : HoldM U w hb vb vr vq vc mk lb lr lq lc) : HoldM (fun k => U k ∧ k < w.heap.size) w hb vb vr vq vc mk lb lr lq lc := by
  have r : ∀ {e : TypeId} {sz : Nat} {v : Value} {es : List (List Value)}, RowM U w e sz v es → RowM (fun k => U k ∧ k < w.heap.size) w e sz v es := by
    intro e sz v es h
    obtain ⟨a, c, h1, h2, h3⟩ := h
    refine ⟨a, c, h1, h2, ?_⟩
    rcases h3 with h3 | ⟨g, cur, h4, h5, h6, h7⟩
    · exact .inl h3
    · exact .inr ⟨g, cur, h4, ⟨h5, heap_lt h6⟩, h6, h7⟩
  exact ⟨⟨h.use, heap_lt h.box⟩, h.box, h.lo, h.hi, r h.b, r h.r, r h.q, r h.c⟩

/-- What is used behind keep. -/
def NextU (w0 w : World) (U : Nat → Prop) (hb : Nat) (vb vr vq vc : Value) (k : Nat) : Prop := (U k ∨ NewU w0 hb vb vr vq vc k) ∧ k < w.heap.size

theorem KS.world {w0 w : World} {B ws : Nat} {U : Nat → Prop} {vps : Value} {hs : List Nat} {hb : Nat} {vb vr vq vc : Value} {mk : Int} {lb lr lq lc j : Nat} {hsn : List Nat} {G : Nat} {x0 x1 x2 x3 vh : Value}
    (h : KS w0 w B ws U vps hs hb vb vr vq vc mk lb lr lq lc j hsn G x0 x1 x2 x3 vh) : WorldW B (NextU w0 w U hb vb vr vq vc) w ws vps (hs ++ hsn) vh := by
  refine ⟨h.boxw, by rw [List.length_append]; exact h.row, h.rowB, fun x hx => ?_⟩
  rcases List.mem_append.1 hx with hx | hx
  · obtain ⟨vb', vr', vq', vc', mk', a, b, c, d, hm⟩ := h.old x hx
    exact ⟨vb', vr', vq', vc', mk', a, b, c, d, hm.lt.move (fun k hk => ⟨.inl hk.1, hk.2⟩) fun _ _ _ _ _ hk => hk⟩
  · obtain ⟨yb, yr, yq, yc, mb, mr, mq, mc, hm, _⟩ := h.new x hx
    exact ⟨yb, yr, yq, yc, mk, mb, mr, mq, mc, hm.lt.move (fun k hk => ⟨.inr hk.1, hk.2⟩) fun _ _ _ _ _ hk => hk⟩

set_option maxRecDepth 10000 in
set_option maxHeartbeats 4000000 in
theorem looks_any (w : World) (B ws : Nat) (U : Nat → Prop) (vps : Value) (hs : List Nat) (vh : Value) (hl : hs.length ≤ 99999999) (hw : WorldW B U w ws vps hs vh) :
    Calls Tryz.prog 29 #[ptrV ws] w fun e w' => e = .returned (.bool true) ∧ ∃ n, w' = w.drewN n := by
  obtain ⟨ah, ch, rfl⟩ := own_slice hw.row
  have HW := hide hw
  clear hw
  have hcw := box_cells HW.out.boxw
  unfold ptrV
  go_enter Tryz.func29, Tryz.ntmps29
  go_wp2_with fail
  clear hcw
  go_loopw [3] (fun i wr => ∃ k : Nat, i = .int .i64 k ∧ k ≤ hs.length ∧ Hid (∃ n, wr = w.drewN n)) (fun i _ => hs.length - (intOf i).toNat)
  case atStart => exact ⟨0, rfl, Nat.zero_le _, 0, rfl⟩
  case round =>
    obtain ⟨k, rfl, hk, HN⟩ := hrel
    have hcr : ∀ p, wr.cell? p = w.cell? p := by obtain ⟨n, rfl⟩ := HN.out; intro p; rfl
    have hcw : ∀ o, wr.cell? ⟨ws, o, none⟩ = _ := fun o => (hcr ⟨ws, o, none⟩).trans (box_cells HW.out.boxw o)
    by_cases hlt : k < hs.length
    · obtain ⟨h, hh⟩ : ∃ h, hs[k]? = some h := ⟨_, List.getElem?_eq_getElem hlt⟩
      obtain ⟨vb, vr, vq, vc, mk, lb, lr, lq, lc, hm⟩ := HW.out.old h (List.mem_of_getElem? hh)
      have hmr : HoldM U wr h vb vr vq vc mk lb lr lq lc := by
        obtain ⟨n, rfl⟩ := HN.out
        exact hm.move (fun _ h => h) fun _ _ _ _ _ hk => hk
      have HM := hide hmr
      have hrow : ∃ g, ah = some ⟨g, 0, none⟩ ∧ wr.cell? ⟨g, k, none⟩ = some (ptrV h) := by
        rcases HW.out.row.2 with ⟨_, h0⟩ | ⟨g, cap, cur, e1, _, hg, _⟩
        · omega
        · injection e1 with e2 _ _
          refine ⟨g, e2, ?_⟩
          rw [hcr]
          have hr := HW.out.row
          subst e2
          have h1 := hr.cells (g := g) rfl k (ptrV h) (by simp [hh])
          have e3 : (⟨g, 0, none⟩ : Addr).add k = ⟨g, k, none⟩ := by simp [Addr.add]; omega
          rw [e3] at h1; exact h1
      obtain ⟨g, rfl, hck⟩ := hrow
      unfold ptrV at hck
      clear hm hmr hcr hh
      go_wp2_with fail
      refine (marked_any U _ h vb vr vq vc mk lb lr lq lc HM.out).mono ?_
      rintro e w2 ⟨rfl, n2, rfl⟩
      go_wp2_with fail
      exact ⟨⟨k + 1, by go_num, by omega, by obtain ⟨n, hn⟩ := HN.out; exact ⟨n + n2, by rw [hn, World.drewN_drewN]⟩⟩, by simp [intOf]; omega⟩
    · clear hcr
      go_wp2_with fail
      go_ret
      exact ⟨rfl, HN.out⟩
end Go.Proofs.YtafoepfhepdcoaaGreat
