import Derived.Test.YtafoepfhepdcoaaGreatM5
import Derived.Test.YtafoepfhepdcoaaGreatM4
set_option maxRecDepth 100000
set_option maxHeartbeats 8000000
namespace Go.Proofs.YtafoepfhepdcoaaGreat
open Go.RowKit Go.Trawl
def ptrV (k : Nat) : Value := .pointer (some ⟨k, 0, none⟩)
def holdT (t : TypeId) : Prop := t = 121 ∨ t = 5 ∨ t = 54 ∨ t = 41 ∨ t = 69
def SameT (w w' : World) : Prop := ∀ (k : Nat) (cs : Array Value) (t : TypeId), w.heap[k]? = some (.cells cs t) → holdT t → w'.heap[k]? = some (.cells cs t)
theorem RowM.move {U U' : Nat → Prop} {w w' : World} {e : TypeId} {sz : Nat} {v : Value} {es : List (List Value)} (h : RowM U w e sz v es) (hU : ∀ k, U k → U' k) (hk : ∀ (k : Nat) (cur : Array Value), U k → w.heap[k]? = some (.cells cur e) → w'.heap[k]? = some (.cells cur e)) : RowM U' w' e sz v es := by
 obtain ⟨a, c, h1, h2, h3⟩ := h
 refine ⟨a, c, h1, h2, ?_⟩
 rcases h3 with h3 | ⟨g, cur, h4, h5, h6, h7⟩
 ·exact .inl h3
 ·exact .inr ⟨g, cur, h4, hU g h5, hk g cur h5 h6, h7⟩
def HoldX (U : Nat → Prop) (w : World) (hb : Nat) : Prop := ∃ vb vr vq vc mk lb lr lq lc, HoldM U w hb vb vr vq vc mk lb lr lq lc
theorem HoldM.move {U U' : Nat → Prop} {w w' : World} {hb : Nat} {vb vr vq vc : Value} {mk : Int} {lb lr lq lc : Nat} (h : HoldM U w hb vb vr vq vc mk lb lr lq lc) (hU : ∀ k, U k → U' k) (hk : ∀ (k : Nat) (cs : Array Value) (t : TypeId), U k → holdT t → w.heap[k]? = some (.cells cs t) → w'.heap[k]? = some (.cells cs t)) : HoldM U' w' hb vb vr vq vc mk lb lr lq lc :=
 ⟨hU _ h.use, hk _ _ _ h.use (.inl rfl) h.box, h.lo, h.hi, h.b.move hU fun k cur hu => hk k cur _ hu (.inr (.inl rfl)), h.r.move hU fun k cur hu => hk k cur _ hu (.inr (.inr (.inl rfl))),
  h.q.move hU fun k cur hu => hk k cur _ hu (.inr (.inr (.inr (.inl rfl)))), h.c.move hU fun k cur hu => hk k cur _ hu (.inr (.inr (.inr (.inr rfl))))⟩
theorem HoldX.move {U U' : Nat → Prop} {w w' : World} {hb : Nat} (h : HoldX U w hb) (hU : ∀ k, U k → U' k) (hk : ∀ (k : Nat) (cs : Array Value) (t : TypeId), U k → holdT t → w.heap[k]? = some (.cells cs t) → w'.heap[k]? = some (.cells cs t)) : HoldX U' w' hb := by
 obtain ⟨vb, vr, vq, vc, mk, lb, lr, lq, lc, h⟩ := h
 exact ⟨vb, vr, vq, vc, mk, lb, lr, lq, lc, h.move hU hk⟩
theorem own_same {w w' : World} {e : TypeId} {sz : Nat} {v : Value} {n : Nat} {x : List Value} (h : w.ownsRow 0 e sz v n x) (hk : ∀ (k : Nat) (cs : Array Value), w.heap[k]? = some (.cells cs e) → w'.heap[k]? = some (.cells cs e)) : w'.ownsRow 0 e sz v n x := by
 refine ⟨h.1, ?_⟩
 rcases h.2 with h2 | ⟨g, cap, cur, h3, h4, h5, r⟩
 ·exact .inl h2
 ·exact .inr ⟨g, cap, cur, h3, h4, hk g cur h5, r⟩
theorem HoldO.same {w w' : World} {hb : Nat} {vb vr vq vc : Value} {mk : Int} {lb lr lq lc : Nat} (h : HoldO w hb vb vr vq vc mk lb lr lq lc) (hs : SameT w w') : HoldO w' hb vb vr vq vc mk lb lr lq lc :=
 ⟨hs _ _ _ h.box (.inl rfl), own_same h.b fun k cs hk => hs k cs _ hk (.inr (.inl rfl)), own_same h.r fun k cs hk => hs k cs _ hk (.inr (.inr (.inl rfl))),
  own_same h.q fun k cs hk => hs k cs _ hk (.inr (.inr (.inr (.inl rfl)))), own_same h.c fun k cs hk => hs k cs _ hk (.inr (.inr (.inr (.inr rfl))))⟩
theorem bEs_flat (mk : Int) (n : Nat) : (bEs mk n).flatten = bL mk n := by
 unfold bEs bL
 induction List.range n with
 | nil => rfl
 | cons x r ih => simp only [List.map_cons, List.flatten_cons, ih]; rfl
theorem own_rowM {U : Nat → Prop} {w : World} {e : TypeId} {sz : Nat} {v : Value} {n : Nat} {es : List (List Value)} (h : w.ownsRow 0 e sz v n es.flatten) (hlen : ∀ x ∈ es, x.length = sz) (hn : n = es.length) (hl : n ≤ 4194304) (hU : ∀ k, v.ownBlock = some k → U k) : RowM U w e sz v es := by
 rcases h.2 with ⟨rfl, h0⟩ | ⟨g, cap, cur, rfl, _, hg, hnc, hcm, hcs, htake⟩
 ·have : es = [] := List.eq_nil_of_length_eq_zero (by omega)
  subst this
  exact ⟨none, 0, rfl, by simp, .inl rfl⟩
 ·refine ⟨some ⟨g, 0, none⟩, cap, by rw [hn], by omega, .inr ⟨g, cur, rfl, hU g rfl, hg, fun i x hi j u hj => ?_⟩⟩
  have := flat_at es hlen i x j u hi hj
  rw [← htake, List.getElem?_take] at this
  split at this
  ·simpa using this
  ·cases this
theorem rowM_step {U : Nat → Prop} {w w' : World} {e : TypeId} {sz : Nat} {v v0 : Value} {n : Nat} {es es0 : List (List Value)} (h : RowM U w e sz v0 es0) (hpre : ∀ (i : Nat) (x : List Value), es0[i]? = some x → es[i]? = some x) (hlen : ∀ x ∈ es, x.length = sz)
  (old : w'.ownsRow 0 e sz v n es.flatten) (frame : ∀ (k : Nat) (cur : Array Value), w.heap[k]? = some (.cells cur e) → v.ownBlock ≠ some k → w'.heap[k]? = some (.cells cur e)) : RowM U w' e sz v0 es0 := by
 obtain ⟨a, c, h1, h2, h3⟩ := h
 refine ⟨a, c, h1, h2, ?_⟩
 rcases h3 with h3 | ⟨g, cur, h4, h5, h6, h7⟩
 ·exact .inl h3
 ·by_cases hg : v.ownBlock = some g
  ·rcases old.2 with ⟨rfl, _⟩ | ⟨g2, cap, cur2, rfl, _, hg2, hnc, hcm, hcs, htake⟩
   ·cases hg
   ·have : g2 = g := Option.some.inj hg
    subst this
    refine .inr ⟨g2, cur2, h4, h5, hg2, fun i x hi j u hj => ?_⟩
    have := flat_at es hlen i x j u (hpre i x hi) hj
    rw [← htake, List.getElem?_take] at this
    split at this
    ·simpa using this
    ·cases this
  ·exact .inr ⟨g, cur, h4, h5, frame g cur h6 hg, h7⟩
theorem bEs_len (mk : Int) (n : Nat) : ∀ x ∈ bEs mk n, x.length = 1 := by
 intro x hx; obtain ⟨j, _, rfl⟩ := List.mem_map.1 hx; rfl
theorem bEs_pre (mk : Int) {m n : Nat} (h : m ≤ n) : ∀ (i : Nat) (x : List Value), (bEs mk m)[i]? = some x → (bEs mk n)[i]? = some x := by
 intro i x hi
 simp only [bEs, List.getElem?_map, Option.map_eq_some_iff] at hi ⊢
 obtain ⟨j, hj, hx⟩ := hi
 rw [List.getElem?_eq_some_iff] at hj
 obtain ⟨hlt, hje⟩ := hj
 simp only [List.length_range] at hlt
 simp only [List.getElem_range] at hje
 subst hje
 exact ⟨i, by rw [List.getElem?_eq_some_iff]; exact ⟨by simp; omega, by simp⟩, hx⟩
theorem rep_pre (f : List Value) {m n : Nat} (h : m ≤ n) : ∀ (i : Nat) (x : List Value), (List.replicate m f)[i]? = some x → (List.replicate n f)[i]? = some x := by
 intro i x hi
 rw [List.getElem?_replicate] at hi ⊢
 split at hi
 ·rw [if_pos (by omega)]; exact hi
 ·cases hi
theorem rep_len (f : List Value) (n : Nat) : ∀ x ∈ List.replicate n f, x.length = f.length := by
 intro x hx; rw [List.eq_of_mem_replicate hx]
theorem HoldO.holdM {U : Nat → Prop} {w : World} {hb : Nat} {vb vr vq vc : Value} {mk : Int} {lb lr lq lc : Nat} (h : HoldO w hb vb vr vq vc mk lb lr lq lc) (h0 : 1 ≤ mk) (h1 : mk ≤ 100000000) (b1 : lb ≤ 4194304) (b2 : lr ≤ 4194304) (b3 : lq ≤ 4194304) (b4 : lc ≤ 4194304) (hU : U hb)
  (u1 : ∀ k, vb.ownBlock = some k → U k) (u2 : ∀ k, vr.ownBlock = some k → U k) (u3 : ∀ k, vq.ownBlock = some k → U k) (u4 : ∀ k, vc.ownBlock = some k → U k) : HoldM U w hb vb vr vq vc mk lb lr lq lc := by
 refine ⟨hU, h.box, h0, h1, ?_, ?_, ?_, ?_⟩
 ·have := h.b; rw [← bEs_flat] at this; exact own_rowM this (bEs_len mk lb) (by simp [bEs]) b1 u1
 ·exact own_rowM h.r (rep_len _ _) (by simp) b2 u2
 ·exact own_rowM h.q (rep_len _ _) (by simp) b3 u3
 ·exact own_rowM h.c (rep_len _ _) (by simp) b4 u4
theorem HoldM.longer {U : Nat → Prop} {w w' : World} {h0 hb G : Nat} {vb vr vq vc yb yr yq yc x0 x1 x2 x3 : Value} {mk : Int} {lb lr lq lc mb mr mq mc : Nat} (h : HoldM U w h0 yb yr yq yc mk mb mr mq mc) (L : Lg w w' hb G vb vr vq vc mk lb lr lq lc x0 x1 x2 x3)
  (hO : HoldO w hb vb vr vq vc mk lb lr lq lc) (e1 : mb ≤ lb) (e2 : mr ≤ lr) (e3 : mq ≤ lq) (e4 : mc ≤ lc) : HoldM U w' h0 yb yr yq yc mk mb mr mq mc := by
 have fr : ∀ (k : Nat) (cs : Array Value) (t : TypeId), w.heap[k]? = some (.cells cs t) → vb.ownBlock ≠ some k → vr.ownBlock ≠ some k → vq.ownBlock ≠ some k → vc.ownBlock ≠ some k → w'.heap[k]? = some (.cells cs t) :=
  fun k cs t hk n1 n2 n3 n4 => (L.frame k (hl_ hk) n1 n2 n3 n4).trans hk
 refine ⟨h.use, ?_, h.lo, h.hi, ?_, ?_, ?_, ?_⟩
 ·exact fr _ _ _ h.box (own_type_ne' hO.b h.box (by decide)) (own_type_ne' hO.r h.box (by decide)) (own_type_ne' hO.q h.box (by decide)) (own_type_ne' hO.c h.box (by decide))
 ·refine rowM_step h.b (bEs_pre mk e1) (bEs_len mk lb) (by rw [bEs_flat]; exact L.b) fun k cur hk n1 => ?_
  exact fr k cur _ hk n1 (own_type_ne' hO.r hk (by decide)) (own_type_ne' hO.q hk (by decide)) (own_type_ne' hO.c hk (by decide))
 ·refine rowM_step h.r (rep_pre _ e2) (rep_len _ _) L.r fun k cur hk n1 => ?_
  exact fr k cur _ hk (own_type_ne' hO.b hk (by decide)) n1 (own_type_ne' hO.q hk (by decide)) (own_type_ne' hO.c hk (by decide))
 ·refine rowM_step h.q (rep_pre _ e3) (rep_len _ _) L.q fun k cur hk n1 => ?_
  exact fr k cur _ hk (own_type_ne' hO.b hk (by decide)) (own_type_ne' hO.r hk (by decide)) n1 (own_type_ne' hO.c hk (by decide))
 ·refine rowM_step h.c (rep_pre _ e4) (rep_len _ _) L.c fun k cur hk n1 => ?_
  exact fr k cur _ hk (own_type_ne' hO.b hk (by decide)) (own_type_ne' hO.r hk (by decide)) (own_type_ne' hO.q hk (by decide)) n1
attribute [local go_sem] equalQ equalR guardQ guardR buildQ buildR buildQ0 buildR0 Stg.upon
theorem ot_ {w : World} {e t : TypeId} {sz : Nat} {v : Value} {n : Nat} {x : List Value} {b : Nat} {cs : Array Value} (h : w.ownsRow 0 e sz v n x) (hb : w.heap[b]? = some (.cells cs t)) (hne : e ≠ t) : v.ownBlock ≠ some b := by
 rcases h.2 with ⟨rfl, _⟩ | ⟨g, cap, cur, rfl, _, hg, _⟩
 ·simp [Value.ownBlock]
 ·intro e1
  have := Option.some.inj e1
  simp only at this
  subst this
  rw [hb] at hg
  injection hg with h1
  injection h1 with _ h2
  exact hne h2.symm
def mixB (mk : Int) (k : Nat) (xb : List Value) : List Value := (List.range k).map (bM mk) ++ xb.drop k
theorem mixB_set (mk : Int) (k : Nat) (xb : List Value) (h : k < xb.length) : (mixB mk k xb).set k (bM mk k) = mixB mk (k + 1) xb := by
 unfold mixB
 rw [List.set_append_right _ _ (by simp)]
 simp only [List.length_map, List.length_range, Nat.sub_self, List.range_succ, List.map_append, List.map_cons, List.map_nil, List.append_assoc]
 congr 1
 rw [List.drop_eq_getElem_cons h]
 rfl
def two2 (A B : World) (j : Nat) : World := if j = 0 then A else B
theorem marksB (w : World) (hb : Nat) (g cap : Nat) (mk : Int) (lb : Nat) (xb : List Value) (h0 : 1 ≤ mk) (h1 : mk ≤ 100000000) (hl : lb ≤ 4194304)
  (hbox : w.heap[hb]? = some (.cells #[.slice (some ⟨g, 0, none⟩) lb cap, .slice none 0 0, .slice none 0 0, .slice none 0 0, .int .i64 mk] 121))
  (hown : w.ownsRow 0 5 1 (.slice (some ⟨g, 0, none⟩) lb cap) lb xb) :
  Calls Tryz.prog 92 #[.pointer (some ⟨hb, 0, none⟩)] w fun e w' => e = .returned (.tuple #[]) ∧ w'.ownsRow 0 5 1 (.slice (some ⟨g, 0, none⟩) lb cap) lb ((List.range lb).map (bM mk)) ∧ w.grownBy w' (some g) := by
 have hne : g ≠ hb := by
  have := ot_ hown hbox (by decide)
  simp [Value.ownBlock] at this
  exact this
 have hxl : xb.length = lb := by simpa using hown.1
 have HBX := hide hbox
 have hcb := bc_ hbox
 clear hbox
 go_enter Tryz.func92, Tryz.ntmps92
 go_wp2_with fail
 clear hcb
 go_loopw [2] (fun i wr => ∃ k : Nat, i = .int .i64 k ∧ k ≤ lb ∧ Hid (wr.ownsRow 0 5 1 (.slice (some ⟨g, 0, none⟩) lb cap) lb (mixB mk k xb)) ∧ Hid (w.grownBy wr (some g))) (fun i _ => lb - (intOf i).toNat)
 case atStart => exact ⟨0, rfl, Nat.zero_le _, by show World.ownsRow _ _ _ _ _ _ _; simpa [mixB] using hown, grownBy_refl _ _⟩
 case round =>
  obtain ⟨k, rfl, hk, HO, HG⟩ := hrel
  have hbx : wr.heap[hb]? = _ := (HG.out.block hb (Array.getElem?_eq_some_iff.1 HBX.out).1 (by simp; omega)).trans HBX.out
  have hcr := bc_ hbx
  clear hbx
  by_cases hlt : k < lb
  ·have hx : xb[k]? = some xb[k] := List.getElem?_eq_getElem (by omega)
   have hold : ∃ u, wr.cell? ⟨g, k, none⟩ = some u := by
    have := HO.out.cellAt k (by omega)
    rw [this]
    exact ⟨_, List.getElem?_eq_getElem (by have := HO.out.1; omega)⟩
   obtain ⟨u, hu⟩ := hold
   have hfz : wr.frozen? ⟨g, k, none⟩ = false := HO.out.frozenAt k
   clear hx
   go_wp2_with fail
   refine Stg.wp_region_stage [12] (fun j w' => ∃ n, w' = (two2 wr (wr.setCell ⟨g, k, none⟩ (bM mk k)) j).drewN n) (by kernel_rfl) (by kernel_rfl) ⟨1, rfl⟩ ?_
   refine Stg.lex_uptoC 12 (by decide) (by kernel_rfl) ?_
   simp only [List.take_succ_cons, List.take_zero, List.drop_succ_cons, List.drop_zero]
   rw [show two2 wr (wr.setCell ⟨g, k, none⟩ (bM mk k)) 0 = wr from rfl]
   repeat (first | go_big_quiet_step ((go_at_call 94; exact Calls.quiet_of_same (sign_any _ _ (by omega) (by omega) _))) | quiet_step ((go_at_call 94; exact Calls.quiet_of_same (sign_any _ _ (by omega) (by omega) _))))
   refine wpQuiet_nil ?_
   refine Stg.lex_move 0 (by kernel_rfl) undef ?_ ?_
   ·rintro w' ⟨n, rfl⟩
    rw [show two2 wr (wr.setCell ⟨g, k, none⟩ (bM mk k)) 0 = wr from rfl, show two2 wr (wr.setCell ⟨g, k, none⟩ (bM mk k)) (0 + 1) = wr.setCell ⟨g, k, none⟩ (bM mk k) from rfl]
    go_simp
    exact ⟨n, rfl⟩
   refine Stg.lex_nil ?_
   rintro w3 ⟨nq, rfl⟩
   rw [show two2 wr (wr.setCell ⟨g, k, none⟩ (bM mk k)) [12].length = wr.setCell ⟨g, k, none⟩ (bM mk k) from rfl]
   have hst := HO.out.stored k (bM mk k)
   rw [mixB_set mk k xb (by omega)] at hst
   have H1 := hide (hst.1.kept (gd_ _ nq none) (.inr (by simp [Value.ownBlock])))
   have H2 := hide (gt_ (gt_ HG.out hst.2) (gd_ _ nq (some g)))
   clear hst
   go_wp2_with fail
   exact ⟨⟨k + 1, by go_num, by omega, H1, H2⟩, by simp [intOf]; omega⟩
  ·have hkl : k = lb := by omega
   subst hkl
   have hmx : mixB mk k xb = (List.range k).map (bM mk) := by unfold mixB; rw [List.drop_of_length_le (by omega), List.append_nil]
   rw [hmx] at HO
   clear hmx
   go_wp2_with fail
   refine wp_loop_rounds 1 ?_
   rw [rounds_succ]
   go_wp2_with fail
   refine wp_loop_rounds 1 ?_
   rw [rounds_succ]
   go_wp2_with fail
   refine wp_loop_rounds 1 ?_
   rw [rounds_succ]
   go_wp2_with fail
   go_end0
   exact ⟨rfl, HO.out, HG.out⟩
def mixG (f : List Value) (sz k : Nat) (xs : List Value) : List Value := (List.replicate k f).flatten ++ xs.drop (k * sz)
theorem flat_rep_len (f : List Value) (k : Nat) : (List.replicate k f).flatten.length = k * f.length := by
 induction k with
 | zero => simp
 | succ k ih => rw [List.replicate_succ, List.flatten_cons, List.length_append, ih, Nat.add_mul, Nat.one_mul, Nat.add_comm]
theorem flat_rep_succ (f : List Value) (k : Nat) : (List.replicate (k + 1) f).flatten = (List.replicate k f).flatten ++ f := by
 rw [List.replicate_succ', List.flatten_append]; simp
theorem drop1 {xs : List Value} {n : Nat} (h : n + 1 ≤ xs.length) : ∃ a R, xs.drop n = a :: R ∧ xs.drop (n + 1) = R := by
 refine ⟨xs[n], xs.drop (n + 1), ?_, rfl⟩
 rw [List.drop_eq_getElem_cons (by omega)]
theorem mixG_set1 (a : Value) (k : Nat) (xs : List Value) (h : k + 1 ≤ xs.length) : (mixG [a] 1 k xs).set k a = mixG [a] 1 (k + 1) xs := by
 unfold mixG
 obtain ⟨x, R, h1, h2⟩ := drop1 h
 have hl := flat_rep_len [a] k
 simp only [List.length_cons, List.length_nil, Nat.zero_add, Nat.mul_one] at hl
 rw [Nat.mul_one, Nat.mul_one, h1, h2, flat_rep_succ, List.set_append_right _ _ (by omega), hl, Nat.sub_self]
 simp
theorem mixG_set3 (a b c : Value) (k : Nat) (xs : List Value) (h : (k + 1) * 3 ≤ xs.length) : (((mixG [a, b, c] 3 k xs).set (k * 3) a).set (k * 3 + 1) b).set (k * 3 + 2) c = mixG [a, b, c] 3 (k + 1) xs := by
 unfold mixG
 obtain ⟨x, R, h1, h2⟩ := drop1 (xs := xs) (n := k * 3) (by omega)
 obtain ⟨x2, R2, h3, h4⟩ := drop1 (xs := xs) (n := k * 3 + 1) (by omega)
 obtain ⟨x3, R3, h5, h6⟩ := drop1 (xs := xs) (n := k * 3 + 2) (by omega)
 have hl := flat_rep_len [a, b, c] k
 simp only [List.length_cons, List.length_nil, Nat.zero_add] at hl
 have e : (k + 1) * 3 = k * 3 + 2 + 1 := by omega
 have d1 : R = x2 :: x3 :: R3 := by rw [← h2, h3, ← h4, h5, ← h6]
 rw [e, h6, h1, d1, flat_rep_succ, List.set_append_right _ _ (by omega), List.set_append_right _ _ (by omega), List.set_append_right _ _ (by omega), hl, Nat.sub_self, show k * 3 + 1 - k * (1 + 1 + 1) = 1 from by omega, show k * 3 + 2 - k * (1 + 1 + 1) = 2 from by omega]
 simp
theorem mixG_set5 (a b c d f : Value) (k : Nat) (xs : List Value) (h : (k + 1) * 5 ≤ xs.length) : (((((mixG [a, b, c, d, f] 5 k xs).set (k * 5) a).set (k * 5 + 1) b).set (k * 5 + 2) c).set (k * 5 + 3) d).set (k * 5 + 4) f = mixG [a, b, c, d, f] 5 (k + 1) xs := by
 unfold mixG
 obtain ⟨x, R, h1, h2⟩ := drop1 (xs := xs) (n := k * 5) (by omega)
 obtain ⟨x2, R2, h3, h4⟩ := drop1 (xs := xs) (n := k * 5 + 1) (by omega)
 obtain ⟨x3, R3, h5, h6⟩ := drop1 (xs := xs) (n := k * 5 + 2) (by omega)
 obtain ⟨x4, R4, h7, h8⟩ := drop1 (xs := xs) (n := k * 5 + 3) (by omega)
 obtain ⟨x5, R5, h9, h10⟩ := drop1 (xs := xs) (n := k * 5 + 4) (by omega)
 have hl := flat_rep_len [a, b, c, d, f] k
 simp only [List.length_cons, List.length_nil, Nat.zero_add] at hl
 have e : (k + 1) * 5 = k * 5 + 4 + 1 := by omega
 have d1 : R = x2 :: x3 :: x4 :: x5 :: R5 := by rw [← h2, h3, ← h4, h5, ← h6, h7, ← h8, h9, ← h10]
 rw [e, h10, h1, d1, flat_rep_succ, List.set_append_right _ _ (by omega), List.set_append_right _ _ (by omega), List.set_append_right _ _ (by omega), List.set_append_right _ _ (by omega), List.set_append_right _ _ (by omega), hl, Nat.sub_self, show k * 5 + 1 - k * (1 + 1 + 1 + 1 + 1) = 1 from by omega, show k * 5 + 2 - k * (1 + 1 + 1 + 1 + 1) = 2 from by omega, show k * 5 + 3 - k * (1 + 1 + 1 + 1 + 1) = 3 from by omega, show k * 5 + 4 - k * (1 + 1 + 1 + 1 + 1) = 4 from by omega]
 simp
theorem marks0 (w : World) (hb : Nat) (mk : Int)
  (hbox : w.heap[hb]? = some (.cells #[.slice none 0 0, .slice none 0 0, .slice none 0 0, .slice none 0 0, .int .i64 mk] 121)) :
  Calls Tryz.prog 92 #[.pointer (some ⟨hb, 0, none⟩)] w fun e w' => e = .returned (.tuple #[]) ∧ w' = w := by
 have hcb := bc_ hbox
 clear hbox
 go_enter Tryz.func92, Tryz.ntmps92
 go_wp2_with fail
 refine wp_loop_rounds 1 ?_
 rw [rounds_succ]
 go_wp2_with fail
 refine wp_loop_rounds 1 ?_
 rw [rounds_succ]
 go_wp2_with fail
 refine wp_loop_rounds 1 ?_
 rw [rounds_succ]
 go_wp2_with fail
 refine wp_loop_rounds 1 ?_
 rw [rounds_succ]
 go_wp2_with fail
 go_end0
 exact ⟨rfl, rfl⟩
theorem marksR (w : World) (hb : Nat) (g cap : Nat) (mk : Int) (ln : Nat) (xs : List Value) (h0 : 1 ≤ mk) (h1 : mk ≤ 100000000) (hl : ln ≤ 4194304)
  (hbox : w.heap[hb]? = some (.cells #[.slice none 0 0, .slice (some ⟨g, 0, none⟩) ln cap, .slice none 0 0, .slice none 0 0, .int .i64 mk] 121))
  (hown : w.ownsRow 0 54 1 (.slice (some ⟨g, 0, none⟩) ln cap) ln xs) :
  Calls Tryz.prog 92 #[.pointer (some ⟨hb, 0, none⟩)] w fun e w' => e = .returned (.tuple #[]) ∧ w'.ownsRow 0 54 1 (.slice (some ⟨g, 0, none⟩) ln cap) ln (List.replicate ln [rM mk]).flatten ∧ w.grownBy w' (some g) := by
 have hne : g ≠ hb := by
  have := ot_ hown hbox (by decide)
  simp [Value.ownBlock] at this
  exact this
 have hxl : xs.length = ln * 1 := hown.1
 have HBX := hide hbox
 have hcb := bc_ hbox
 clear hbox
 go_enter Tryz.func92, Tryz.ntmps92
 go_wp2_with fail
 refine wp_loop_rounds 1 ?_
 rw [rounds_succ]
 go_wp2_with fail
 clear hcb
 go_loopw [3] (fun i wr => ∃ k : Nat, i = .int .i64 k ∧ k ≤ ln ∧ Hid (wr.ownsRow 0 54 1 (.slice (some ⟨g, 0, none⟩) ln cap) ln (mixG [rM mk] 1 k xs)) ∧ Hid (w.grownBy wr (some g))) (fun i _ => ln - (intOf i).toNat)
 case atStart => exact ⟨0, rfl, Nat.zero_le _, by show World.ownsRow _ _ _ _ _ _ _; simpa [mixG] using hown, grownBy_refl _ _⟩
 case round =>
  obtain ⟨k, rfl, hk, HO, HG⟩ := hrel
  have hbx : wr.heap[hb]? = _ := (HG.out.block hb (Array.getElem?_eq_some_iff.1 HBX.out).1 (by simp; omega)).trans HBX.out
  have hcr := bc_ hbx
  clear hbx
  by_cases hlt : k < ln
  ·have hmem : ∀ o, o < ln * 1 → ∃ u, wr.cell? ⟨g, o, none⟩ = some u := fun o ho => by
    have := HO.out.cellAt o ho
    rw [this]
    exact ⟨_, List.getElem?_eq_getElem (by have := HO.out.1; omega)⟩
   obtain ⟨u0, hu0⟩ := hmem (k) (by omega)
   have hf0 : wr.frozen? ⟨g, k, none⟩ = false := HO.out.frozenAt _
   clear hmem
   go_wp2_with fail
   refine Stg.wp_region_stage [12] (fun j w' => ∃ n, w' = (two2 wr (wr.setCell ⟨g, k, none⟩ (rM mk)) j).drewN n) (by kernel_rfl) (by kernel_rfl) ⟨1, rfl⟩ ?_
   refine Stg.lex_uptoC 12 (by decide) (by kernel_rfl) ?_
   simp only [List.take_succ_cons, List.take_zero, List.drop_succ_cons, List.drop_zero]
   rw [show two2 wr (wr.setCell ⟨g, k, none⟩ (rM mk)) 0 = wr from rfl]
   repeat (first | go_big_quiet_step (fail) | quiet_step (fail))
   refine wpQuiet_nil ?_
   refine Stg.lex_move 0 (by kernel_rfl) undef ?_ ?_
   ·rintro w' ⟨n, rfl⟩
    rw [show two2 wr (wr.setCell ⟨g, k, none⟩ (rM mk)) 0 = wr from rfl, show two2 wr (wr.setCell ⟨g, k, none⟩ (rM mk)) (0 + 1) = wr.setCell ⟨g, k, none⟩ (rM mk) from rfl]
    go_simp
    exact ⟨n, rfl⟩
   refine Stg.lex_nil ?_
   rintro w3 ⟨nq, rfl⟩
   rw [show two2 wr (wr.setCell ⟨g, k, none⟩ (rM mk)) [12].length = wr.setCell ⟨g, k, none⟩ (rM mk) from rfl]
   have hst0 := (HO.out).stored (k) (rM mk)
   have hlast := hst0.1
   rw [mixG_set1 _ k xs (by omega)] at hlast
   have H1 := hide (hlast.kept (gd_ _ nq none) (.inr (by simp [Value.ownBlock])))
   have H2 := hide (gt_ (gt_ HG.out hst0.2) (gd_ _ nq (some g)))
   clear hlast hst0
   go_wp2_with fail
   exact ⟨⟨k + 1, by go_num, by omega, H1, H2⟩, by simp [intOf]; omega⟩
  ·have hkl : k = ln := by omega
   subst hkl
   have hmx : mixG [rM mk] 1 k xs = (List.replicate k [rM mk]).flatten := by unfold mixG; rw [List.drop_of_length_le (by omega), List.append_nil]
   rw [hmx] at HO
   clear hmx
   go_wp2_with fail
   refine wp_loop_rounds 1 ?_
   rw [rounds_succ]
   go_wp2_with fail
   refine wp_loop_rounds 1 ?_
   rw [rounds_succ]
   go_wp2_with fail
   go_end0
   exact ⟨rfl, HO.out, HG.out⟩
theorem marksQ (w : World) (hb : Nat) (g cap : Nat) (mk : Int) (ln : Nat) (xs : List Value) (_h0 : 1 ≤ mk) (_h1 : mk ≤ 100000000) (hl : ln ≤ 4194304)
  (hbox : w.heap[hb]? = some (.cells #[.slice none 0 0, .slice none 0 0, .slice (some ⟨g, 0, none⟩) ln cap, .slice none 0 0, .int .i64 mk] 121))
  (hown : w.ownsRow 0 41 3 (.slice (some ⟨g, 0, none⟩) ln cap) ln xs) :
  Calls Tryz.prog 92 #[.pointer (some ⟨hb, 0, none⟩)] w fun e w' => e = .returned (.tuple #[]) ∧ w'.ownsRow 0 41 3 (.slice (some ⟨g, 0, none⟩) ln cap) ln (List.replicate ln [.string ⟨#[109, 97, 114, 107]⟩, .int .u16 (IntKind.u16.wrap mk), .int .u16 0]).flatten ∧ w.grownBy w' (some g) := by
 have hne : g ≠ hb := by
  have := ot_ hown hbox (by decide)
  simp [Value.ownBlock] at this
  exact this
 have hxl : xs.length = ln * 3 := hown.1
 have HBX := hide hbox
 have hcb := bc_ hbox
 clear hbox
 go_enter Tryz.func92, Tryz.ntmps92
 go_wp2_with fail
 refine wp_loop_rounds 1 ?_
 rw [rounds_succ]
 go_wp2_with fail
 refine wp_loop_rounds 1 ?_
 rw [rounds_succ]
 go_wp2_with fail
 clear hcb
 go_loopw [4] (fun i wr => ∃ k : Nat, i = .int .i64 k ∧ k ≤ ln ∧ Hid (wr.ownsRow 0 41 3 (.slice (some ⟨g, 0, none⟩) ln cap) ln (mixG [.string ⟨#[109, 97, 114, 107]⟩, .int .u16 (IntKind.u16.wrap mk), .int .u16 0] 3 k xs)) ∧ Hid (w.grownBy wr (some g))) (fun i _ => ln - (intOf i).toNat)
 case atStart => exact ⟨0, rfl, Nat.zero_le _, by show World.ownsRow _ _ _ _ _ _ _; simpa [mixG] using hown, grownBy_refl _ _⟩
 case round =>
  obtain ⟨k, rfl, hk, HO, HG⟩ := hrel
  have hbx : wr.heap[hb]? = _ := (HG.out.block hb (Array.getElem?_eq_some_iff.1 HBX.out).1 (by simp; omega)).trans HBX.out
  have hcr := bc_ hbx
  clear hbx
  by_cases hlt : k < ln
  ·have hmem : ∀ o, o < ln * 3 → ∃ u, wr.cell? ⟨g, o, none⟩ = some u := fun o ho => by
    have := HO.out.cellAt o ho
    rw [this]
    exact ⟨_, List.getElem?_eq_getElem (by have := HO.out.1; omega)⟩
   obtain ⟨u0, hu0⟩ := hmem (k * 3) (by omega)
   have hf0 : wr.frozen? ⟨g, k * 3, none⟩ = false := HO.out.frozenAt _
   obtain ⟨u1, hu1⟩ := hmem (k * 3 + 1) (by omega)
   have hf1 : wr.frozen? ⟨g, k * 3 + 1, none⟩ = false := HO.out.frozenAt _
   obtain ⟨u2, hu2⟩ := hmem (k * 3 + 2) (by omega)
   have hf2 : wr.frozen? ⟨g, k * 3 + 2, none⟩ = false := HO.out.frozenAt _
   clear hmem
   go_wp2_with fail
   refine Stg.wp_region_stage [12] (fun j w' => ∃ n, w' = (two2 wr ((((wr.setCell ⟨g, k * 3, none⟩ (.string ⟨#[109, 97, 114, 107]⟩)).setCell ⟨g, k * 3 + 1, none⟩ (.int .u16 (IntKind.u16.wrap mk))).setCell ⟨g, k * 3 + 2, none⟩ (.int .u16 0))) j).drewN n) (by kernel_rfl) (by kernel_rfl) ⟨1, rfl⟩ ?_
   refine Stg.lex_uptoC 12 (by decide) (by kernel_rfl) ?_
   simp only [List.take_succ_cons, List.take_zero, List.drop_succ_cons, List.drop_zero]
   rw [show two2 wr ((((wr.setCell ⟨g, k * 3, none⟩ (.string ⟨#[109, 97, 114, 107]⟩)).setCell ⟨g, k * 3 + 1, none⟩ (.int .u16 (IntKind.u16.wrap mk))).setCell ⟨g, k * 3 + 2, none⟩ (.int .u16 0))) 0 = wr from rfl]
   repeat (first | go_big_quiet_step (fail) | quiet_step (fail))
   refine wpQuiet_nil ?_
   refine Stg.lex_move 0 (by kernel_rfl) undef ?_ ?_
   ·rintro w' ⟨n, rfl⟩
    rw [show two2 wr ((((wr.setCell ⟨g, k * 3, none⟩ (.string ⟨#[109, 97, 114, 107]⟩)).setCell ⟨g, k * 3 + 1, none⟩ (.int .u16 (IntKind.u16.wrap mk))).setCell ⟨g, k * 3 + 2, none⟩ (.int .u16 0))) 0 = wr from rfl, show two2 wr ((((wr.setCell ⟨g, k * 3, none⟩ (.string ⟨#[109, 97, 114, 107]⟩)).setCell ⟨g, k * 3 + 1, none⟩ (.int .u16 (IntKind.u16.wrap mk))).setCell ⟨g, k * 3 + 2, none⟩ (.int .u16 0))) (0 + 1) = (((wr.setCell ⟨g, k * 3, none⟩ (.string ⟨#[109, 97, 114, 107]⟩)).setCell ⟨g, k * 3 + 1, none⟩ (.int .u16 (IntKind.u16.wrap mk))).setCell ⟨g, k * 3 + 2, none⟩ (.int .u16 0)) from rfl]
    go_simp
    exact ⟨n, rfl⟩
   refine Stg.lex_nil ?_
   rintro w3 ⟨nq, rfl⟩
   rw [show two2 wr ((((wr.setCell ⟨g, k * 3, none⟩ (.string ⟨#[109, 97, 114, 107]⟩)).setCell ⟨g, k * 3 + 1, none⟩ (.int .u16 (IntKind.u16.wrap mk))).setCell ⟨g, k * 3 + 2, none⟩ (.int .u16 0))) [12].length = (((wr.setCell ⟨g, k * 3, none⟩ (.string ⟨#[109, 97, 114, 107]⟩)).setCell ⟨g, k * 3 + 1, none⟩ (.int .u16 (IntKind.u16.wrap mk))).setCell ⟨g, k * 3 + 2, none⟩ (.int .u16 0)) from rfl]
   have hst0 := (HO.out).stored (k * 3) (.string ⟨#[109, 97, 114, 107]⟩)
   have hst1 := (hst0.1).stored (k * 3 + 1) (.int .u16 (IntKind.u16.wrap mk))
   have hst2 := (hst1.1).stored (k * 3 + 2) (.int .u16 0)
   have hlast := hst2.1
   rw [mixG_set3 _ _ _ k xs (by omega)] at hlast
   have H1 := hide (hlast.kept (gd_ _ nq none) (.inr (by simp [Value.ownBlock])))
   have H2 := hide (gt_ (gt_ (gt_ (gt_ HG.out hst0.2) hst1.2) hst2.2) (gd_ _ nq (some g)))
   clear hlast hst2 hst1 hst0
   go_wp2_with fail
   exact ⟨⟨k + 1, by go_num, by omega, H1, H2⟩, by simp [intOf]; omega⟩
  ·have hkl : k = ln := by omega
   subst hkl
   have hmx : mixG [.string ⟨#[109, 97, 114, 107]⟩, .int .u16 (IntKind.u16.wrap mk), .int .u16 0] 3 k xs = (List.replicate k [.string ⟨#[109, 97, 114, 107]⟩, .int .u16 (IntKind.u16.wrap mk), .int .u16 0]).flatten := by unfold mixG; rw [List.drop_of_length_le (by omega), List.append_nil]
   rw [hmx] at HO
   clear hmx
   go_wp2_with fail
   refine wp_loop_rounds 1 ?_
   rw [rounds_succ]
   go_wp2_with fail
   go_end0
   exact ⟨rfl, HO.out, HG.out⟩
theorem marksC (w : World) (hb : Nat) (g cap : Nat) (mk : Int) (ln : Nat) (xs : List Value) (h0 : 1 ≤ mk) (h1 : mk ≤ 100000000) (hl : ln ≤ 4194304)
  (hbox : w.heap[hb]? = some (.cells #[.slice none 0 0, .slice none 0 0, .slice none 0 0, .slice (some ⟨g, 0, none⟩) ln cap, .int .i64 mk] 121))
  (hown : w.ownsRow 0 69 5 (.slice (some ⟨g, 0, none⟩) ln cap) ln xs) :
  Calls Tryz.prog 92 #[.pointer (some ⟨hb, 0, none⟩)] w fun e w' => e = .returned (.tuple #[]) ∧ w'.ownsRow 0 69 5 (.slice (some ⟨g, 0, none⟩) ln cap) ln (List.replicate ln [.string ⟨#[109, 97, 114, 107]⟩, .int .u16 0, .int .u16 0, .int .u32 mk, .string ⟨#[]⟩]).flatten ∧ w.grownBy w' (some g) := by
 have hne : g ≠ hb := by
  have := ot_ hown hbox (by decide)
  simp [Value.ownBlock] at this
  exact this
 have hxl : xs.length = ln * 5 := hown.1
 have HBX := hide hbox
 have hcb := bc_ hbox
 clear hbox
 go_enter Tryz.func92, Tryz.ntmps92
 go_wp2_with fail
 refine wp_loop_rounds 1 ?_
 rw [rounds_succ]
 go_wp2_with fail
 refine wp_loop_rounds 1 ?_
 rw [rounds_succ]
 go_wp2_with fail
 refine wp_loop_rounds 1 ?_
 rw [rounds_succ]
 go_wp2_with fail
 clear hcb
 go_loopw [5] (fun i wr => ∃ k : Nat, i = .int .i64 k ∧ k ≤ ln ∧ Hid (wr.ownsRow 0 69 5 (.slice (some ⟨g, 0, none⟩) ln cap) ln (mixG [.string ⟨#[109, 97, 114, 107]⟩, .int .u16 0, .int .u16 0, .int .u32 mk, .string ⟨#[]⟩] 5 k xs)) ∧ Hid (w.grownBy wr (some g))) (fun i _ => ln - (intOf i).toNat)
 case atStart => exact ⟨0, rfl, Nat.zero_le _, by show World.ownsRow _ _ _ _ _ _ _; simpa [mixG] using hown, grownBy_refl _ _⟩
 case round =>
  obtain ⟨k, rfl, hk, HO, HG⟩ := hrel
  have hbx : wr.heap[hb]? = _ := (HG.out.block hb (Array.getElem?_eq_some_iff.1 HBX.out).1 (by simp; omega)).trans HBX.out
  have hcr := bc_ hbx
  clear hbx
  by_cases hlt : k < ln
  ·have hmem : ∀ o, o < ln * 5 → ∃ u, wr.cell? ⟨g, o, none⟩ = some u := fun o ho => by
    have := HO.out.cellAt o ho
    rw [this]
    exact ⟨_, List.getElem?_eq_getElem (by have := HO.out.1; omega)⟩
   obtain ⟨u0, hu0⟩ := hmem (k * 5) (by omega)
   have hf0 : wr.frozen? ⟨g, k * 5, none⟩ = false := HO.out.frozenAt _
   obtain ⟨u1, hu1⟩ := hmem (k * 5 + 1) (by omega)
   have hf1 : wr.frozen? ⟨g, k * 5 + 1, none⟩ = false := HO.out.frozenAt _
   obtain ⟨u2, hu2⟩ := hmem (k * 5 + 2) (by omega)
   have hf2 : wr.frozen? ⟨g, k * 5 + 2, none⟩ = false := HO.out.frozenAt _
   obtain ⟨u3, hu3⟩ := hmem (k * 5 + 3) (by omega)
   have hf3 : wr.frozen? ⟨g, k * 5 + 3, none⟩ = false := HO.out.frozenAt _
   obtain ⟨u4, hu4⟩ := hmem (k * 5 + 4) (by omega)
   have hf4 : wr.frozen? ⟨g, k * 5 + 4, none⟩ = false := HO.out.frozenAt _
   clear hmem
   go_wp2_with fail
   refine Stg.wp_region_stage [12] (fun j w' => ∃ n, w' = (two2 wr ((((((wr.setCell ⟨g, k * 5, none⟩ (.string ⟨#[109, 97, 114, 107]⟩)).setCell ⟨g, k * 5 + 1, none⟩ (.int .u16 0)).setCell ⟨g, k * 5 + 2, none⟩ (.int .u16 0)).setCell ⟨g, k * 5 + 3, none⟩ (.int .u32 mk)).setCell ⟨g, k * 5 + 4, none⟩ (.string ⟨#[]⟩))) j).drewN n) (by kernel_rfl) (by kernel_rfl) ⟨1, rfl⟩ ?_
   refine Stg.lex_uptoC 12 (by decide) (by kernel_rfl) ?_
   simp only [List.take_succ_cons, List.take_zero, List.drop_succ_cons, List.drop_zero]
   rw [show two2 wr ((((((wr.setCell ⟨g, k * 5, none⟩ (.string ⟨#[109, 97, 114, 107]⟩)).setCell ⟨g, k * 5 + 1, none⟩ (.int .u16 0)).setCell ⟨g, k * 5 + 2, none⟩ (.int .u16 0)).setCell ⟨g, k * 5 + 3, none⟩ (.int .u32 mk)).setCell ⟨g, k * 5 + 4, none⟩ (.string ⟨#[]⟩))) 0 = wr from rfl]
   repeat (first | go_big_quiet_step (fail) | quiet_step (fail))
   refine wpQuiet_nil ?_
   refine Stg.lex_move 0 (by kernel_rfl) undef ?_ ?_
   ·rintro w' ⟨n, rfl⟩
    rw [show two2 wr ((((((wr.setCell ⟨g, k * 5, none⟩ (.string ⟨#[109, 97, 114, 107]⟩)).setCell ⟨g, k * 5 + 1, none⟩ (.int .u16 0)).setCell ⟨g, k * 5 + 2, none⟩ (.int .u16 0)).setCell ⟨g, k * 5 + 3, none⟩ (.int .u32 mk)).setCell ⟨g, k * 5 + 4, none⟩ (.string ⟨#[]⟩))) 0 = wr from rfl, show two2 wr ((((((wr.setCell ⟨g, k * 5, none⟩ (.string ⟨#[109, 97, 114, 107]⟩)).setCell ⟨g, k * 5 + 1, none⟩ (.int .u16 0)).setCell ⟨g, k * 5 + 2, none⟩ (.int .u16 0)).setCell ⟨g, k * 5 + 3, none⟩ (.int .u32 mk)).setCell ⟨g, k * 5 + 4, none⟩ (.string ⟨#[]⟩))) (0 + 1) = (((((wr.setCell ⟨g, k * 5, none⟩ (.string ⟨#[109, 97, 114, 107]⟩)).setCell ⟨g, k * 5 + 1, none⟩ (.int .u16 0)).setCell ⟨g, k * 5 + 2, none⟩ (.int .u16 0)).setCell ⟨g, k * 5 + 3, none⟩ (.int .u32 mk)).setCell ⟨g, k * 5 + 4, none⟩ (.string ⟨#[]⟩)) from rfl]
    go_simp
    exact ⟨n, rfl⟩
   refine Stg.lex_nil ?_
   rintro w3 ⟨nq, rfl⟩
   rw [show two2 wr ((((((wr.setCell ⟨g, k * 5, none⟩ (.string ⟨#[109, 97, 114, 107]⟩)).setCell ⟨g, k * 5 + 1, none⟩ (.int .u16 0)).setCell ⟨g, k * 5 + 2, none⟩ (.int .u16 0)).setCell ⟨g, k * 5 + 3, none⟩ (.int .u32 mk)).setCell ⟨g, k * 5 + 4, none⟩ (.string ⟨#[]⟩))) [12].length = (((((wr.setCell ⟨g, k * 5, none⟩ (.string ⟨#[109, 97, 114, 107]⟩)).setCell ⟨g, k * 5 + 1, none⟩ (.int .u16 0)).setCell ⟨g, k * 5 + 2, none⟩ (.int .u16 0)).setCell ⟨g, k * 5 + 3, none⟩ (.int .u32 mk)).setCell ⟨g, k * 5 + 4, none⟩ (.string ⟨#[]⟩)) from rfl]
   have hst0 := (HO.out).stored (k * 5) (.string ⟨#[109, 97, 114, 107]⟩)
   have hst1 := (hst0.1).stored (k * 5 + 1) (.int .u16 0)
   have hst2 := (hst1.1).stored (k * 5 + 2) (.int .u16 0)
   have hst3 := (hst2.1).stored (k * 5 + 3) (.int .u32 mk)
   have hst4 := (hst3.1).stored (k * 5 + 4) (.string ⟨#[]⟩)
   have hlast := hst4.1
   rw [mixG_set5 _ _ _ _ _ k xs (by omega)] at hlast
   have H1 := hide (hlast.kept (gd_ _ nq none) (.inr (by simp [Value.ownBlock])))
   have H2 := hide (gt_ (gt_ (gt_ (gt_ (gt_ (gt_ HG.out hst0.2) hst1.2) hst2.2) hst3.2) hst4.2) (gd_ _ nq (some g)))
   clear hlast hst4 hst3 hst2 hst1 hst0
   go_wp2_with fail
   exact ⟨⟨k + 1, by go_num, by omega, H1, H2⟩, by simp [intOf]; omega⟩
  ·have hkl : k = ln := by omega
   subst hkl
   have hmx : mixG [.string ⟨#[109, 97, 114, 107]⟩, .int .u16 0, .int .u16 0, .int .u32 mk, .string ⟨#[]⟩] 5 k xs = (List.replicate k [.string ⟨#[109, 97, 114, 107]⟩, .int .u16 0, .int .u16 0, .int .u32 mk, .string ⟨#[]⟩]).flatten := by unfold mixG; rw [List.drop_of_length_le (by omega), List.append_nil]
   rw [hmx] at HO
   clear hmx
   go_wp2_with fail
   go_end0
   exact ⟨rfl, HO.out, HG.out⟩
end Go.Proofs.YtafoepfhepdcoaaGreat
