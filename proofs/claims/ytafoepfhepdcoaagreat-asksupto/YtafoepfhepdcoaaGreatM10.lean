import Derived.Test.YtafoepfhepdcoaaGreatM6
import Derived.Test.YtafoepfhepdcoaaGreatM7
import Derived.Test.YtafoepfhepdcoaaGreatM9
/- records: the same records, and behind them spare room; kept: they are as they were. -/
namespace Go.Proofs.YtafoepfhepdcoaaGreat
open Go.RowKit Go.Trawl
attribute [local go_sem] equalQ equalR guardQ guardR buildQ0 buildR0

def zQ : Qn := ⟨⟨#[]⟩, 0, 0⟩
def zR : Rc := ⟨⟨#[]⟩, 0, 0, 0, ⟨#[]⟩⟩
def lentR (L : List Rc) : List Rc := L ++ List.replicate 8 zR
def lentQ (L : List Qn) : List Qn := L ++ List.replicate 8 zQ
theorem qcells_ok (l : List Qn) : ∀ x ∈ l.map Qn.cells, x.length = 3 ∧ ∀ u ∈ x, u.oneCell' = true := by
  intro x hx
  obtain ⟨r, _, rfl⟩ := List.mem_map.1 hx
  refine ⟨rfl, fun u hu => ?_⟩
  simp only [Qn.cells, List.mem_cons, List.not_mem_nil, or_false] at hu
  rcases hu with rfl | rfl | rfl <;> rfl
theorem lentR_flat (L : List Rc) : (L.map Rc.cells).flatten ++ ((List.replicate (L.length + 8) zR.cells).flatten).drop ((L.map Rc.cells).length * 5) = ((lentR L).map Rc.cells).flatten := by
  have := drop_rep_flat zR.cells 8 L.length
  rw [List.length_map]
  rw [show zR.cells.length = 5 from rfl] at this
  rw [this, lentR, List.map_append, List.flatten_append, List.map_replicate]
theorem lentQ_flat (L : List Qn) : (L.map Qn.cells).flatten ++ ((List.replicate (L.length + 8) zQ.cells).flatten).drop ((L.map Qn.cells).length * 3) = ((lentQ L).map Qn.cells).flatten := by
  have := drop_rep_flat zQ.cells 8 L.length
  rw [List.length_map]
  rw [show zQ.cells.length = 3 from rfl] at this
  rw [this, lentQ, List.map_append, List.flatten_append, List.map_replicate]

def newV (g n : Nat) : Value := .slice (some ⟨g, 0, none⟩) n n

set_option maxRecDepth 10000 in
set_option maxHeartbeats 1000000 in
theorem records_any (w : World) (v : Value) (L : List Rc) (hL : L.length ≤ 2097152) (hat : Lies w 5 v (L.map Rc.cells)) :
    Calls Tryz.prog 125 #[v] w fun e w' => e = .returned (newV w.heap.size (L.length + 8)) ∧ w'.ownsRow 0 69 5 (newV w.heap.size (L.length + 8)) (L.length + 8) ((lentR L).map Rc.cells).flatten ∧ Below w.heap.size w w' := by
  obtain ⟨ic, ic0, ic1, ic2, ic3⟩ := info_parts rI
  have HAT := hide hat
  obtain ⟨av, cv, rfl, -⟩ := hat
  rw [List.length_map] at HAT
  rw [List.length_map]
  go_enter Tryz.func125, Tryz.ntmps125
  go_wp2_with (at_make; refine wpList_make_full _ rfl _ _ 28 rfl 0 69 ic _ 5 uC ic0 ic1 ic2 _ _ _ _ (L.length + 8) rfl rfl (by omega) (by omega) (by rw [ic3]; omega) (by unfold maxLen; omega) (Nat.zero_le _) ?_; intro w2 ho2 hg2; have HO2 := hide ho2; have HG2 := hide hg2; clear ho2 hg2)
  have ho2 := HO2.out
  have hm := made_flat zR.cells (by decide) (L.length + 8)
  rw [show zR.cells.length = 5 from rfl] at hm
  have e0 : (Value.agg #[Value.string { data := #[] }, Value.int IntKind.u16 0, Value.int IntKind.u16 0, Value.int IntKind.u32 0, Value.string { data := #[] }]).cells = zR.cells.toArray := rfl
  rw [e0, hm] at ho2
  have hat2 : Lies w2 5 (Value.slice av L.length cv) (List.map Rc.cells L) := HAT.out.below (below_grownBy HG2.out)
  obtain ⟨w3, hr, ho3, hg3⟩ := copy_lies (P := Tryz.prog) w2 28 28 3 69 ic 5 uC ic0 ic2 _ _ _ _ ho2 _ _ hat2 (rcells_ok L) (by rw [List.length_map]; omega)
  rw [hr]
  rw [lentR_flat] at ho3
  have HO3 := hide ho3
  have HG3 := hide hg3
  clear ho3 hg3 hr ho2 hat2 hm e0
  go_wp2_with fail
  go_ret
  refine ⟨rfl, HO3.out, ?_⟩
  have h1 := below_grownBy HG2.out
  have h3 := HG3.out
  exact h1.trans ⟨h3.os, h3.tape, h3.output, h3.size, fun k hk => h3.block k (Nat.lt_of_lt_of_le hk h1.size) (by simp; omega)⟩

theorem ret_pair {v v' : Value} {x x' : Value} (h : v = v') (h2 : x = x') : Ending.returned (.tuple #[v, x]) = .returned (.tuple #[v', x']) := by rw [h, h2]

set_option maxRecDepth 10000 in
set_option maxHeartbeats 1000000 in
theorem tpack_any (m : Msg) (vq va vu vx : Value) (w : World) (hwf : WfM m) (hat : MsgAt w m vq va vu vx) :
    Calls Tryz.prog 15 #[.agg (msgCells m vq va vu vx)] w fun e w' => Below w.heap.size w w' ∧
      (packOk m = false → e = .returned (.tuple #[.slice none 0 0, .int .i64 1])) ∧
      (packOk m = true → ∃ v, e = .returned (.tuple #[v, .int .i64 0]) ∧ w'.ownsRow w.heap.size 5 1 v (pack m).length (bytesV (pack m))) := by
  have HAT := hide hat
  have HWF := hide hwf
  clear hat hwf
  unfold msgCells
  go_enter Tryz.func15, Tryz.ntmps15
  go_wp2_with fail
  have hb1 : Below w.heap.size w (w.alloc (.cells (msgCells m vq va vu vx) 30)) := (Below.refl _ _).alloc (Nat.le_refl _) _
  refine (wirePack_any m vq va vu vx _ HWF.out (HAT.out.below hb1)).mono ?_
  rintro e w2 ⟨hb2, hno, hyes⟩
  have hb3 : Below w.heap.size w w2 := hb1.trans ⟨hb2.os, hb2.tape, hb2.output, hb2.size, fun k hk => hb2.block k (by rw [alloc_size]; omega)⟩
  have HB3 := hide hb3
  clear hb1 hb2 hb3
  by_cases hp : packOk m = true
  · obtain ⟨v, rfl, ho⟩ := hyes hp
    have HO := hide ho
    have HP := hide hp
    clear hno hyes ho hp
    go_wp2_with fail
    go_ret2
    refine ⟨HB3.out, fun h => ?_, fun _ => ⟨v, rfl, ?_⟩⟩
    · rw [HP.out] at h; cases h
    · exact own_base ⟨HO.out.1, by
        rcases HO.out.2 with h | ⟨g, cap, cur, h1, _, h3⟩
        · exact .inl h
        · exact .inr ⟨g, cap, cur, h1, Nat.zero_le _, h3⟩⟩ fun k hk => by
        have := (HO.out.lt k hk).1
        rw [alloc_size] at this; omega
  · have hp' : packOk m = false := by simpa using hp
    have he := hno hp'
    subst he
    have HP := hide hp'
    clear hno hyes hp hp'
    go_wp2_with fail
    go_ret2
    exact ⟨HB3.out, fun _ => rfl, fun h => by rw [HP.out] at h; cases h⟩
end Go.Proofs.YtafoepfhepdcoaaGreat

/- kept: records that were lent are as they were. -/
namespace Go.Proofs.YtafoepfhepdcoaaGreat
open Go.RowKit Go.Trawl

theorem selfR (s t : ByteArray) (a b c : Int) (W : World) : (Op.equalIn 10000 69 (.agg #[.string s, .int .u16 a, .int .u16 b, .int .u32 c, .string t]) (.agg #[.string s, .int .u16 a, .int .u16 b, .int .u32 c, .string t])).run Tryz.prog W = .ok true W := by
  rw [equalR]; simp
theorem selfQ (s : ByteArray) (a b : Int) (W : World) : (Op.equalIn 10000 41 (.agg #[.string s, .int .u16 a, .int .u16 b]) (.agg #[.string s, .int .u16 a, .int .u16 b])).run Tryz.prog W = .ok true W := by
  rw [equalQ]; simp
attribute [local go_sem] selfQ selfR guardQ guardR buildQ0 buildR0

theorem lentR_lt {L : List Rc} {k : Nat} (h : k < L.length) : (lentR L)[k]? = L[k]? := by
  unfold lentR; rw [List.getElem?_append_left h]
theorem lentR_ge {L : List Rc} {k : Nat} (h : L.length ≤ k) (h2 : k < L.length + 8) : (lentR L)[k]? = some zR := by
  unfold lentR; rw [List.getElem?_append_right h, List.getElem?_replicate, if_pos (by omega)]
theorem lentQ_lt {L : List Qn} {k : Nat} (h : k < L.length) : (lentQ L)[k]? = L[k]? := by
  unfold lentQ; rw [List.getElem?_append_left h]
theorem lentQ_ge {L : List Qn} {k : Nat} (h : L.length ≤ k) (h2 : k < L.length + 8) : (lentQ L)[k]? = some zQ := by
  unfold lentQ; rw [List.getElem?_append_right h, List.getElem?_replicate, if_pos (by omega)]
theorem lentR_length (L : List Rc) : (lentR L).length = L.length + 8 := by simp [lentR]
theorem lentQ_length (L : List Qn) : (lentQ L).length = L.length + 8 := by simp [lentQ]

set_option maxRecDepth 10000 in
set_option maxHeartbeats 1000000 in
theorem kept_any (w : World) (b v : Value) (L : List Rc) (hL : L.length ≤ 2097152) (hb : Lies w 5 b ((lentR L).map Rc.cells)) (hv : Lies w 5 v (L.map Rc.cells)) :
    Calls Tryz.prog 126 #[b, v] w fun e w' => e = .returned (.bool true) ∧ ∃ n, w' = w.drewN n := by
  obtain ⟨ab, cb, rfl, -, hb⟩ := hb
  obtain ⟨av, cv, rfl, -, hv⟩ := hv
  rw [List.length_map, lentR_length, List.length_map]
  have HB := hide hb
  have HV := hide hv
  have HW0 : Hid (∃ n, w = w.drewN n) := ⟨0, rfl⟩
  clear hb hv
  go_enter Tryz.func126, Tryz.ntmps126
  go_wp2_with fail
  go_loopw [5] (fun i wr => ∃ k : Nat, i = .int .i64 k ∧ k ≤ L.length + 8 ∧ Hid (∃ n, wr = w.drewN n)) (fun i _ => L.length + 8 - (intOf i).toNat)
  case atStart => exact ⟨0, rfl, Nat.zero_le _, HW0.out⟩
  case round =>
    obtain ⟨k, rfl, hk, HW⟩ := hrel
    have hcw : ∀ p, wr.cell? p = w.cell? p := by obtain ⟨n, rfl⟩ := HW.out; intro p; rfl
    by_cases hlt : k < L.length + 8
    · rcases HB.out with he | ⟨bb, off, rfl, _, hc⟩
      · exfalso; have := congrArg List.length he; simp [lentR_length] at this
      by_cases hin : k < L.length
      · obtain ⟨r, hr⟩ : ∃ r, L[k]? = some r := ⟨_, List.getElem?_eq_getElem hin⟩
        rcases HV.out with he | ⟨bv, offv, rfl, _, hcv⟩
        · exfalso; have := congrArg List.length he; simp at this; subst this; simp at hin
        obtain ⟨c0, c1, c2, c3, c4⟩ := Lies.rat hc (by rw [lentR_lt hin]; exact hr)
        obtain ⟨d0, d1, d2, d3, d4⟩ := Lies.rat hcv hr
        rw [← hcw] at c0 c1 c2 c3 c4 d0 d1 d2 d3 d4
        obtain ⟨nm, kd, cl, tt, dt⟩ := r
        dsimp only at c0 c1 c2 c3 c4 d0 d1 d2 d3 d4
        have hd1 : decide (k < L.length) = true := by simp; omega
        have hd2 : decide (L.length ≤ k) = false := by simp; omega
        clear hc hcv hcw hr HB HV
        go_wp2_with fail
        go_quiet (fail)
        go_wp2_with fail
        exact ⟨⟨k + 1, by go_num, by omega, by obtain ⟨n, hn⟩ := HW.out; exact ⟨n + nq, by rw [hn, World.drewN_drewN]⟩⟩, by simp [intOf]; omega⟩
      · obtain ⟨c0, c1, c2, c3, c4⟩ := Lies.rat hc (lentR_ge (by omega) hlt)
        unfold zR at c0 c1 c2 c3 c4
        rw [← hcw] at c0 c1 c2 c3 c4
        have hd1 : decide (k < L.length) = false := by simp; omega
        have hd2 : decide (L.length ≤ k) = true := by simp; omega
        clear hc hcw HB HV
        go_wp2_with fail
        go_quiet (fail)
        go_wp2_with fail
        exact ⟨⟨k + 1, by go_num, by omega, by obtain ⟨n, hn⟩ := HW.out; exact ⟨n + nq, by rw [hn, World.drewN_drewN]⟩⟩, by simp [intOf]; omega⟩
    · clear hcw
      go_wp2_with fail
      go_ret
      exact ⟨rfl, HW.out⟩
end Go.Proofs.YtafoepfhepdcoaaGreat

/- What stays while a list is kept. -/
namespace Go.Proofs.YtafoepfhepdcoaaGreat
open Go.RowKit Go.Trawl

def ptrV (k : Nat) : Value := .pointer (some ⟨k, 0, none⟩)
def holdT (t : TypeId) : Prop := t = 121 ∨ t = 5 ∨ t = 54 ∨ t = 41 ∨ t = 69

/-- No block of a hold has turned. -/
def SameT (w w' : World) : Prop := ∀ (k : Nat) (cs : Array Value) (t : TypeId), w.heap[k]? = some (.cells cs t) → holdT t → w'.heap[k]? = some (.cells cs t)

theorem RowM.move {U U' : Nat → Prop} {w w' : World} {e : TypeId} {sz : Nat} {v : Value} {es : List (List Value)} (h : RowM U w e sz v es) (hU : ∀ k, U k → U' k) (hk : ∀ (k : Nat) (cur : Array Value), U k → w.heap[k]? = some (.cells cur e) → w'.heap[k]? = some (.cells cur e)) : RowM U' w' e sz v es := by
  obtain ⟨a, c, h1, h2, h3⟩ := h
  refine ⟨a, c, h1, h2, ?_⟩
  rcases h3 with h3 | ⟨g, cur, h4, h5, h6, h7⟩
  · exact .inl h3
  · exact .inr ⟨g, cur, h4, hU g h5, hk g cur h5 h6, h7⟩

def HoldX (U : Nat → Prop) (w : World) (hb : Nat) : Prop := ∃ vb vr vq vc mk lb lr lq lc, HoldM U w hb vb vr vq vc mk lb lr lq lc

theorem HoldM.move {U U' : Nat → Prop} {w w' : World} {hb : Nat} {vb vr vq vc : Value} {mk : Int} {lb lr lq lc : Nat} (h : HoldM U w hb vb vr vq vc mk lb lr lq lc) (hU : ∀ k, U k → U' k) (hk : ∀ (k : Nat) (cs : Array Value) (t : TypeId), U k → holdT t → w.heap[k]? = some (.cells cs t) → w'.heap[k]? = some (.cells cs t)) : HoldM U' w' hb vb vr vq vc mk lb lr lq lc :=
  ⟨hU _ h.use, hk _ _ _ h.use (.inl rfl) h.box, h.lo, h.hi, h.b.move hU fun k cur hu => hk k cur _ hu (.inr (.inl rfl)), h.r.move hU fun k cur hu => hk k cur _ hu (.inr (.inr (.inl rfl))),
    h.q.move hU fun k cur hu => hk k cur _ hu (.inr (.inr (.inr (.inl rfl)))), h.c.move hU fun k cur hu => hk k cur _ hu (.inr (.inr (.inr (.inr rfl))))⟩
theorem HoldX.move {U U' : Nat → Prop} {w w' : World} {hb : Nat} (h : HoldX U w hb) (hU : ∀ k, U k → U' k) (hk : ∀ (k : Nat) (cs : Array Value) (t : TypeId), U k → holdT t → w.heap[k]? = some (.cells cs t) → w'.heap[k]? = some (.cells cs t)) : HoldX U' w' hb := by
  obtain ⟨vb, vr, vq, vc, mk, lb, lr, lq, lc, h⟩ := h
  exact ⟨vb, vr, vq, vc, mk, lb, lr, lq, lc, h.move hU hk⟩

theorem own_same {w w' : World} {e : TypeId} {sz : Nat} {v : Value} {n : Nat} {x : List Value} (h : w.ownsRow 0 e sz v n x) (hk : ∀ (k : Nat) (cs : Array Value), w.heap[k]? = some (.cells cs e) → w'.heap[k]? = some (.cells cs e)) : w'.ownsRow 0 e sz v n x := by
  refine ⟨h.1, ?_⟩
  rcases h.2 with h2 | ⟨g, cap, cur, h3, h4, h5, r⟩
  · exact .inl h2
  · exact .inr ⟨g, cap, cur, h3, h4, hk g cur h5, r⟩
theorem HoldO.same {w w' : World} {hb : Nat} {vb vr vq vc : Value} {mk : Int} {lb lr lq lc : Nat} (h : HoldO w hb vb vr vq vc mk lb lr lq lc) (hs : SameT w w') : HoldO w' hb vb vr vq vc mk lb lr lq lc :=
  ⟨hs _ _ _ h.box (.inl rfl), own_same h.b fun k cs hk => hs k cs _ hk (.inr (.inl rfl)), own_same h.r fun k cs hk => hs k cs _ hk (.inr (.inr (.inl rfl))),
    own_same h.q fun k cs hk => hs k cs _ hk (.inr (.inr (.inr (.inl rfl)))), own_same h.c fun k cs hk => hs k cs _ hk (.inr (.inr (.inr (.inr rfl))))⟩

theorem bEs_flat (mk : Int) (n : Nat) : (bEs mk n).flatten = bL mk n := by
  unfold bEs bL
  induction List.range n with
  | nil => rfl
  | cons x r ih => simp only [List.map_cons, List.flatten_cons, ih]; rfl

/-- A row of one's own reads as it does. -/
theorem own_rowM {U : Nat → Prop} {w : World} {e : TypeId} {sz : Nat} {v : Value} {n : Nat} {es : List (List Value)} (h : w.ownsRow 0 e sz v n es.flatten) (hlen : ∀ x ∈ es, x.length = sz) (hn : n = es.length) (hl : n ≤ 4194304) (hU : ∀ k, v.ownBlock = some k → U k) : RowM U w e sz v es := by
  rcases h.2 with ⟨rfl, h0⟩ | ⟨g, cap, cur, rfl, _, hg, hnc, hcm, hcs, htake⟩
  · have : es = [] := List.eq_nil_of_length_eq_zero (by omega)
    subst this
    exact ⟨none, 0, rfl, by simp, .inl rfl⟩
  · refine ⟨some ⟨g, 0, none⟩, cap, by rw [hn], by omega, .inr ⟨g, cur, rfl, hU g rfl, hg, fun i x hi j u hj => ?_⟩⟩
    have := flat_at es hlen i x j u hi hj
    rw [← htake, List.getElem?_take] at this
    split at this
    · simpa using this
    · cases this

/-- A row over the same block, of a shorter list. -/
theorem rowM_step {U : Nat → Prop} {w w' : World} {e : TypeId} {sz : Nat} {v v0 : Value} {n : Nat} {es es0 : List (List Value)} (h : RowM U w e sz v0 es0) (hpre : ∀ (i : Nat) (x : List Value), es0[i]? = some x → es[i]? = some x) (hlen : ∀ x ∈ es, x.length = sz)
    (old : w'.ownsRow 0 e sz v n es.flatten) (frame : ∀ (k : Nat) (cur : Array Value), w.heap[k]? = some (.cells cur e) → v.ownBlock ≠ some k → w'.heap[k]? = some (.cells cur e)) : RowM U w' e sz v0 es0 := by
  obtain ⟨a, c, h1, h2, h3⟩ := h
  refine ⟨a, c, h1, h2, ?_⟩
  rcases h3 with h3 | ⟨g, cur, h4, h5, h6, h7⟩
  · exact .inl h3
  · by_cases hg : v.ownBlock = some g
    · rcases old.2 with ⟨rfl, _⟩ | ⟨g2, cap, cur2, rfl, _, hg2, hnc, hcm, hcs, htake⟩
      · cases hg
      · have : g2 = g := Option.some.inj hg
        subst this
        refine .inr ⟨g2, cur2, h4, h5, hg2, fun i x hi j u hj => ?_⟩
        have := flat_at es hlen i x j u (hpre i x hi) hj
        rw [← htake, List.getElem?_take] at this
        split at this
        · simpa using this
        · cases this
    · exact .inr ⟨g, cur, h4, h5, frame g cur h6 hg, h7⟩

theorem bEs_len (mk : Int) (n : Nat) : ∀ x ∈ bEs mk n, x.length = 1 := by
  intro x hx; obtain ⟨j, _, rfl⟩ := List.mem_map.1 hx; rfl
theorem bEs_pre (mk : Int) {m n : Nat} (h : m ≤ n) : ∀ (i : Nat) (x : List Value), (bEs mk m)[i]? = some x → (bEs mk n)[i]? = some x := by
  intro i x hi
  simp only [bEs, List.getElem?_map, Option.map_eq_some_iff] at hi ⊢
  obtain ⟨j, hj, hx⟩ := hi
  rw [List.getElem?_eq_some_iff] at hj
  obtain ⟨hlt, hje⟩ := hj
  simp only [List.length_range] at hlt
  simp only [List.getElem_range] at hje
  subst hje
  exact ⟨i, by rw [List.getElem?_eq_some_iff]; exact ⟨by simp; omega, by simp⟩, hx⟩
theorem rep_pre (f : List Value) {m n : Nat} (h : m ≤ n) : ∀ (i : Nat) (x : List Value), (List.replicate m f)[i]? = some x → (List.replicate n f)[i]? = some x := by
  intro i x hi
  rw [List.getElem?_replicate] at hi ⊢
  split at hi
  · rw [if_pos (by omega)]; exact hi
  · cases hi
theorem rep_len (f : List Value) (n : Nat) : ∀ x ∈ List.replicate n f, x.length = f.length := by
  intro x hx; rw [List.eq_of_mem_replicate hx]

/-- A hold of one's own reads as it does. -/
theorem HoldO.holdM {U : Nat → Prop} {w : World} {hb : Nat} {vb vr vq vc : Value} {mk : Int} {lb lr lq lc : Nat} (h : HoldO w hb vb vr vq vc mk lb lr lq lc) (h0 : 1 ≤ mk) (h1 : mk ≤ 100000000) (b1 : lb ≤ 4194304) (b2 : lr ≤ 4194304) (b3 : lq ≤ 4194304) (b4 : lc ≤ 4194304) (hU : U hb)
    (u1 : ∀ k, vb.ownBlock = some k → U k) (u2 : ∀ k, vr.ownBlock = some k → U k) (u3 : ∀ k, vq.ownBlock = some k → U k) (u4 : ∀ k, vc.ownBlock = some k → U k) : HoldM U w hb vb vr vq vc mk lb lr lq lc := by
  refine ⟨hU, h.box, h0, h1, ?_, ?_, ?_, ?_⟩
  · have := h.b; rw [← bEs_flat] at this; exact own_rowM this (bEs_len mk lb) (by simp [bEs]) b1 u1
  · exact own_rowM h.r (rep_len _ _) (by simp) b2 u2
  · exact own_rowM h.q (rep_len _ _) (by simp) b3 u3
  · exact own_rowM h.c (rep_len _ _) (by simp) b4 u4

/-- An elder hold of the same mark, while longer makes another. -/
theorem HoldM.longer {U : Nat → Prop} {w w' : World} {h0 hb G : Nat} {vb vr vq vc yb yr yq yc x0 x1 x2 x3 : Value} {mk : Int} {lb lr lq lc mb mr mq mc : Nat} (h : HoldM U w h0 yb yr yq yc mk mb mr mq mc) (L : Lg w w' hb G vb vr vq vc mk lb lr lq lc x0 x1 x2 x3)
    (hO : HoldO w hb vb vr vq vc mk lb lr lq lc) (e1 : mb ≤ lb) (e2 : mr ≤ lr) (e3 : mq ≤ lq) (e4 : mc ≤ lc) : HoldM U w' h0 yb yr yq yc mk mb mr mq mc := by
  have fr : ∀ (k : Nat) (cs : Array Value) (t : TypeId), w.heap[k]? = some (.cells cs t) → vb.ownBlock ≠ some k → vr.ownBlock ≠ some k → vq.ownBlock ≠ some k → vc.ownBlock ≠ some k → w'.heap[k]? = some (.cells cs t) :=
    fun k cs t hk n1 n2 n3 n4 => (L.frame k (heap_lt hk) n1 n2 n3 n4).trans hk
  refine ⟨h.use, ?_, h.lo, h.hi, ?_, ?_, ?_, ?_⟩
  · exact fr _ _ _ h.box (own_type_ne' hO.b h.box (by decide)) (own_type_ne' hO.r h.box (by decide)) (own_type_ne' hO.q h.box (by decide)) (own_type_ne' hO.c h.box (by decide))
  · refine rowM_step h.b (bEs_pre mk e1) (bEs_len mk lb) (by rw [bEs_flat]; exact L.b) fun k cur hk n1 => ?_
    exact fr k cur _ hk n1 (own_type_ne' hO.r hk (by decide)) (own_type_ne' hO.q hk (by decide)) (own_type_ne' hO.c hk (by decide))
  · refine rowM_step h.r (rep_pre _ e2) (rep_len _ _) L.r fun k cur hk n1 => ?_
    exact fr k cur _ hk (own_type_ne' hO.b hk (by decide)) n1 (own_type_ne' hO.q hk (by decide)) (own_type_ne' hO.c hk (by decide))
  · refine rowM_step h.q (rep_pre _ e3) (rep_len _ _) L.q fun k cur hk n1 => ?_
    exact fr k cur _ hk (own_type_ne' hO.b hk (by decide)) (own_type_ne' hO.r hk (by decide)) n1 (own_type_ne' hO.c hk (by decide))
  · refine rowM_step h.c (rep_pre _ e4) (rep_len _ _) L.c fun k cur hk n1 => ?_
    exact fr k cur _ hk (own_type_ne' hO.b hk (by decide)) (own_type_ne' hO.r hk (by decide)) (own_type_ne' hO.q hk (by decide)) n1
end Go.Proofs.YtafoepfhepdcoaaGreat
