import Derived.Test.YtafoepfhepdcoaaGreatM53
/- Amid a step of a script. -/
namespace Go.Proofs.YtafoepfhepdcoaaGreat
open Go.RowKit Go.Trawl
attribute [local go_sem] buildH0

def pickN (c : Int) (n : Nat) : Nat := ((if c < 0 then -(c + 1) else c) % (n : Int)).toNat
theorem pickN_lt {c : Int} {n : Nat} (h : 1 ≤ n) : pickN c n < n := by
  unfold pickN
  have := Int.emod_lt_of_pos (if c < 0 then -(c + 1) else c) (show (0 : Int) < n by omega)
  have := Int.emod_nonneg (if c < 0 then -(c + 1) else c) (show (n : Int) ≠ 0 by omega)
  omega
set_option maxHeartbeats 1000000 in
theorem pick_any (c : Int) (n : Nat) (h1 : 1 ≤ n) (h2 : n ≤ 4) (c0 : -9223372036854775808 ≤ c) (c1 : c ≤ 9223372036854775807) (w : World) :
    Calls Tryz.prog 51 #[.int .i64 c, .int .i64 n] w fun e w' => e = .returned (.int .i64 (pickN c n : Nat)) ∧ w' = w := by
  have hn : ¬ (n : Int) = 0 := by omega
  by_cases hc : c < 0
  · have hw : IntKind.i64.wrap (-(IntKind.i64.wrap (c + 1))) = -(c + 1) := by rw [IntKind.wrap_i64, IntKind.wrap_i64]; omega
    go_enter Tryz.func51, Tryz.ntmps51
    go_wp2
    go_ret
    have hx : -(c + 1).tmod (n : Int) = ((pickN c n : Nat) : Int) := by
      unfold pickN
      rw [if_pos hc, ← Int.neg_tmod, Int.tmod_eq_emod_of_nonneg (by omega), Int.toNat_of_nonneg (Int.emod_nonneg _ hn)]
    exact ⟨congrArg (fun x => Ending.returned (.int .i64 x)) hx, rfl⟩
  · go_enter Tryz.func51, Tryz.ntmps51
    go_wp2
    go_ret
    have hx : c % (n : Int) = ((pickN c n : Nat) : Int) := by
      unfold pickN
      rw [if_neg (by omega), Int.toNat_of_nonneg (Int.emod_nonneg _ hn)]
    exact ⟨congrArg (fun x => Ending.returned (.int .i64 x)) hx, rfl⟩

/-- The pointer that lies at a place of the list. -/
theorem row_ptr {w : World} {a : Option Addr} {n c : Nat} {ps : List Pl} (h : w.ownsRow 0 105 1 (.slice a n c) ps.length (ps.map fun p => ptrV p.pb)) {i : Nat} {p : Pl} (hi : ps[i]? = some p) : ∃ g, a = some ⟨g, 0, none⟩ ∧ w.cell? ⟨g, i, none⟩ = some (.pointer (some ⟨p.pb, 0, none⟩)) := by
  rcases h.2 with ⟨_, h0⟩ | ⟨g, cap, cur, e, _⟩
  · have : ps = [] := List.eq_nil_of_length_eq_zero h0
    subst this
    simp at hi
  · cases e
    have := h.cells (g := g) rfl i (ptrV p.pb) (by rw [List.getElem?_map, hi]; rfl)
    refine ⟨g, rfl, ?_⟩
    have e : (⟨g, 0, none⟩ : Addr).add i = ⟨g, i, none⟩ := by
      unfold Addr.add
      by_cases h : i = 0
      · rw [h]; rfl
      · rw [if_neg h]; simp
    rw [e] at this
    exact this
/-- A step's box. -/
structure OpB (w : World) (N : Nat) (s : ByteArray) (kd frm : Int) : Prop where
  box : ∃ cs t, w.heap[N]? = some (.cells cs t) ∧ cs[14]? = some (.string s) ∧ cs[0]? = some (.int .i64 kd) ∧ cs[15]? = some (.int .u32 frm)
theorem OpB.lt {w : World} {N : Nat} {s : ByteArray} {kd frm : Int} (h : OpB w N s kd frm) : N < w.heap.size := by
  obtain ⟨cs, t, h1, _⟩ := h.box
  exact heap_lt h1
theorem OpB.at {w w' : World} {N : Nat} {s : ByteArray} {kd frm : Int} (h : OpB w N s kd frm) (hk : w'.heap[N]? = w.heap[N]?) : OpB w' N s kd frm := by
  obtain ⟨cs, t, h1, r⟩ := h.box
  exact ⟨cs, t, hk.trans h1, r⟩
theorem OpB.below {w w' : World} {N : Nat} {s : ByteArray} {kd frm : Int} (h : OpB w N s kd frm) (hb : Below w.heap.size w w') : OpB w' N s kd frm := h.at (hb.block N h.lt)
theorem OpB.cells {w : World} {N : Nat} {s : ByteArray} {kd frm : Int} (h : OpB w N s kd frm) : w.cell? ⟨N, 14, none⟩ = some (.string s) ∧ w.cell? ⟨N, 0, none⟩ = some (.int .i64 kd) ∧ w.cell? ⟨N, 15, none⟩ = some (.int .u32 frm) := by
  obtain ⟨cs, t, h1, h2, h3, h4⟩ := h.box
  exact ⟨by rw [box_cells h1 14, h2], by rw [box_cells h1 0, h3], by rw [box_cells h1 15, h4]⟩
/-- Amid a step: the program has spoken. -/
structure Mid (B : Nat) (U : Nat → Prop) (ws : Nat) (vps : Value) (hs : List Nat) (vh : Value) (w W : World) (ps : List Pl) (X gb : Nat) (s : ByteArray) (kd frm k t : Int) (v : Value) (l : List UInt8) : Prop where
  game : Game B U W ws vps hs vh ps
  box : W.heap[X]? = some (.cells #[.int .i64 k, .int .u32 t, v] 59)
  lent : W.heap[gb]? = some (.cells (lentC s 8).toArray 5)
  op : OpB W w.heap.size s kd frm
  own : W.ownsRow 0 5 1 v l.length (bytesV l)
  vlo : ∀ i, v.ownBlock = some i → w.heap.size < i ∧ i ≠ X ∧ i ≠ gb
  xlo : w.heap.size < X
  xg : X ≠ gb
  glo : w.heap.size < gb
  free : ∀ a i, Own ws vps vh U ps a i → i ≠ X ∧ i ≠ gb ∧ v.ownBlock ≠ some i ∧ i ≠ w.heap.size
  below : Below B w W
  bw : B ≤ w.heap.size
section
variable {B : Nat} {U : Nat → Prop} {ws : Nat} {vps : Value} {hs : List Nat} {vh : Value} {w W W' : World} {ps : List Pl} {X gb : Nat} {s : ByteArray} {kd frm k t : Int} {v : Value} {l : List UInt8}
theorem Mid.next (h : Mid B U ws vps hs vh w W ps X gb s kd frm k t v l) (hb : Below W.heap.size W W') : Mid B U ws vps hs vh w W' ps X gb s kd frm k t v l :=
  { h with game := h.game.below hb, box := (hb.block _ (heap_lt h.box)).trans h.box, lent := (hb.block _ (heap_lt h.lent)).trans h.lent, op := h.op.below hb, own := own_below h.own hb, below := h.below.trans (hb.mono h.game.st.sz) }
theorem own_set {i : Nat} {p : Pl} (hi : ps[i]? = some p) {vr' : PV} {st : RSt} {a : Whose} {j : Nat} (h : Own ws vps vh U (ps.set i { p with vr := vr', sx := st }) a j) : Own ws vps vh U ps a j ∨ pOwns p.xb p.sb vr' j := by
  have hm : ∀ q ∈ ps.set i { p with vr := vr', sx := st }, ∃ q' ∈ ps, q.pb = q'.pb := fun q hq => by
    obtain ⟨n, hn⟩ := mem_get hq
    rcases get_set hn with ⟨_, rfl⟩ | ⟨_, hj⟩
    · exact ⟨p, List.mem_of_getElem? hi, rfl⟩
    · exact ⟨q, List.mem_of_getElem? hj, rfl⟩
  cases a with
  | law =>
    rcases h with e | e | e | ⟨q, hq, e⟩ | e
    · exact .inl (.inl e)
    · exact .inl (.inr (.inl e))
    · exact .inl (.inr (.inr (.inl e)))
    · obtain ⟨q', hq', e'⟩ := hm q hq
      exact .inl (.inr (.inr (.inr (.inl ⟨q', hq', e.trans e'⟩))))
    · exact .inl (.inr (.inr (.inr (.inr e))))
  | prog n =>
    obtain ⟨q, hq, hk⟩ := h
    rcases get_set hq with ⟨rfl, rfl⟩ | ⟨_, hj⟩
    · exact .inr hk
    · exact .inl ⟨q, hj, hk⟩
  | ref n =>
    obtain ⟨q, hq, hk⟩ := h
    rcases get_set hq with ⟨rfl, rfl⟩ | ⟨_, hj⟩
    · exact .inl ⟨p, hi, hk⟩
    · exact .inl ⟨q, hj, hk⟩
theorem fr_below {W w5 : World} {O O' : Nat → Prop} (h : Fr W w5 O O') (ho : ∀ k, O k → B ≤ k) (hB : B ≤ W.heap.size) : Below B W w5 := ⟨h.os, h.tape, h.output, h.size, fun k hk => h.block k (by omega) (fun e => by have := ho k e; omega)⟩
theorem below_put {W W' : World} {r : Nat} (h : W.grownBy W' (some r)) (hr : B ≤ r) (hB : B ≤ W.heap.size) : Below B W W' := ⟨h.os, h.tape, h.output, h.size, fun k hk => h.block k (by omega) (by simp; omega)⟩
theorem Game.aside (h : Game B U W ws vps hs vh ps) {r : Nat} (hw : W.grownBy W' (some r)) (hr : ∀ a, ¬ Own ws vps vh U ps a r) : Game B U W' ws vps hs vh ps := by
  have keep : ∀ a i, Own ws vps vh U ps a i → W'.heap[i]? = W.heap[i]? := fun a i hi => hw.block i (h.lt a i hi) (fun e => hr a (by rw [← Option.some.inj e]; exact hi))
  refine ⟨h.st.at hw.size (fun i hi => keep .law i (by rcases hi with e | e | e; exact .inl e; exact .inr (.inl e); exact .inr (.inr (.inr (.inr e))))), own_at h.row (fun i hi => keep .law i (.inr (.inr (.inl hi)))), fun p hp => (keep .law p.pb (.inr (.inr (.inr (.inl ⟨p, hp, rfl⟩))))).trans (h.box p hp), fun p hp => ?_, fun p hp => ?_, h.lo, fun a i hi => Nat.lt_of_lt_of_le (h.lt a i hi) hw.size, h.one⟩
  · obtain ⟨j, hj⟩ := mem_get hp
    exact (h.prog p hp).keep hw.size (fun i hi => keep (.prog j) i ⟨p, hj, hi⟩)
  · obtain ⟨j, hj⟩ := mem_get hp
    exact (h.ref p hp).at hw.size (fun i hi => keep (.ref j) i ⟨p, hj, hi⟩)
/-- Whose a block is when the program has spoken. -/
theorem spoken {W4 w5 : World} {i : Nat} {p : Pl} {vr' : PV} {st' : RSt} (hLT : ∀ a i, Own ws vps vh U ps a i → i < w.heap.size) (hp : ps[i]? = some p) (sp : Spoke W4 w5 p.xb p.sb p.vr vr' st' v l) (hz : w.heap.size < W4.heap.size) : ∀ a j, Own ws vps vh U (ps.set i { p with vr := vr', sx := st' }) a j → (j < w.heap.size ∨ W4.heap.size ≤ j) ∧ v.ownBlock ≠ some j := by
  intro a j hj
  rcases own_set hp hj with e | e
  · have := hLT a j e
    exact ⟨.inl this, fun e2 => by have := sp.new j e2; omega⟩
  · refine ⟨?_, fun e2 => sp.apart j e2 e⟩
    rcases sp.fr.new j e with e | e
    · exact .inl (hLT (.prog i) j ⟨p, hp, e⟩)
    · exact .inr e
/-- The program has spoken: the box comes behind the call. -/
theorem mid1 {W3 W4 w5 : World} {i : Nat} {p : Pl} {vr' : PV} {st' : RSt} (hB3 : Below w.heap.size w W3) (hG3 : Game B U W3 ws vps hs vh ps) (hO3 : OpB W3 w.heap.size s kd frm) (hL3 : W3.heap[gb]? = some (.cells (lentC s 8).toArray 5)) (hN : w.heap.size < gb)
    (hLT : ∀ a i, Own ws vps vh U ps a i → i < w.heap.size) (hp : ps[i]? = some p) (hb4 : Below W3.heap.size W3 W4) (sp : Spoke W4 w5 p.xb p.sb p.vr vr' st' v l) (g5 : Game B U w5 ws vps hs vh (ps.set i { p with vr := vr', sx := st' })) (hB : B ≤ w.heap.size) :
    Mid B U ws vps hs vh w (w5.alloc (.cells #[.int .i64 k, .int .u32 t, v] 59)) (ps.set i { p with vr := vr', sx := st' }) w5.heap.size gb s kd frm k t v l := by
  have z3 := heap_lt hL3
  have z4 := hb4.size
  have z5 := sp.fr.size
  have hno : ∀ j, w.heap.size ≤ j → ¬ pOwns p.xb p.sb p.vr j := fun j hj e => by have := hLT (.prog i) j ⟨p, hp, e⟩; omega
  have kp : ∀ j, w.heap.size ≤ j → j < W3.heap.size → w5.heap[j]? = W3.heap[j]? := fun j h1 h2 => (sp.fr.block j (by omega) (hno j h1)).trans (hb4.block j h2)
  have hba := (Below.refl w5.heap.size w5).alloc (Nat.le_refl _) (.cells #[.int .i64 k, .int .u32 t, v] 59)
  have hb5 : Below B w w5 := ((hB3.mono hB).trans (hb4.mono (by have := hB3.size; omega))).trans (fr_below sp.fr (fun j hj => hG3.lo (.prog i) j ⟨p, hp, hj⟩) (by have := hB3.size; omega))
  refine ⟨g5.below hba, heap_new _ _, (hba.block _ (by omega)).trans ((kp gb (by omega) z3).trans hL3), (hO3.at (kp _ (Nat.le_refl _) hO3.lt)).below hba, own_below sp.own hba, fun j hj => ?_, by have := hB3.size; omega, by omega, hN, fun a j hj => ?_, hb5.trans (hba.mono (by have := hB3.size; omega)), hB⟩
  · have h1 := sp.new j hj
    have h2 := (sp.own.lt j hj).2
    exact ⟨by omega, by omega, by omega⟩
  · have h1 := spoken hLT hp sp (by omega) a j hj
    have h2 := g5.lt a j hj
    exact ⟨by omega, by omega, h1.2, by omega⟩
/-- The program has spoken: the box was there. -/
theorem mid2 {W3 W4 w5 : World} {i : Nat} {p : Pl} {vr' : PV} {st' : RSt} {z : Array Value} (hz : ∃ u0 u1 u2, z = #[u0, u1, u2]) (hB3 : Below w.heap.size w W3) (hG3 : Game B U W3 ws vps hs vh ps) (hO3 : OpB W3 w.heap.size s kd frm) (hL3 : W3.heap[gb]? = some (.cells (lentC s 8).toArray 5)) (hN : w.heap.size < gb)
    (hLT : ∀ a i, Own ws vps vh U ps a i → i < w.heap.size) (hp : ps[i]? = some p) (hb4 : Below W3.heap.size W3 W4) (hz4 : W3.heap.size < W4.heap.size) (sp : Spoke W4 w5 p.xb p.sb p.vr vr' st' v l) (g5 : Game B U w5 ws vps hs vh (ps.set i { p with vr := vr', sx := st' })) (hB : B ≤ w.heap.size) (hx : w5.heap[W3.heap.size]? = some (.cells z 59)) :
    Mid B U ws vps hs vh w (put3 w5 W3.heap.size (.int .i64 k) (.int .u32 t) v) (ps.set i { p with vr := vr', sx := st' }) W3.heap.size gb s kd frm k t v l := by
  obtain ⟨u0, u1, u2, rfl⟩ := hz
  have z3 := heap_lt hL3
  have z5 := sp.fr.size
  have s3 := hB3.size
  have hno : ∀ j, w.heap.size ≤ j → ¬ pOwns p.xb p.sb p.vr j := fun j hj e => by have := hLT (.prog i) j ⟨p, hp, e⟩; omega
  have kp : ∀ j, w.heap.size ≤ j → j < W3.heap.size → w5.heap[j]? = W3.heap[j]? := fun j h1 h2 => (sp.fr.block j (by omega) (hno j h1)).trans (hb4.block j h2)
  have hG := put3_grown w5 W3.heap.size (.int .i64 k) (.int .u32 t) v
  have hb5 : Below B w w5 := ((hB3.mono hB).trans (hb4.mono (by omega))).trans (fr_below sp.fr (fun j hj => hG3.lo (.prog i) j ⟨p, hp, hj⟩) (by omega))
  have hfr := spoken hLT hp sp (by omega)
  have hlt := heap_lt hx
  refine ⟨g5.aside hG (fun a e => by have := (hfr a _ e).1; omega), put3_box _ _ _ hx, (hG.block gb (by omega) (by simp; omega)).trans ((kp gb (by omega) z3).trans hL3), (hO3.at (kp _ (Nat.le_refl _) hO3.lt)).at (hG.block _ (by have := hO3.lt; omega) (by simp; omega)), own_grown sp.own hG (fun e => by have := sp.new _ e; omega), fun j hj => ?_, by omega, by omega, hN, fun a j hj => ?_, hb5.trans (below_put hG (by omega) (by omega)), hB⟩
  · have h1 := sp.new j hj
    exact ⟨by omega, by omega, by omega⟩
  · have h1 := hfr a j hj
    exact ⟨by omega, by omega, h1.2, by omega⟩
theorem own_setR {i : Nat} {p : Pl} (hi : ps[i]? = some p) {st : RSt} {V' : RV} {cs' : List ChV} {a : Whose} {j : Nat} (h : Own ws vps vh U (ps.set i { p with V := V', cs := cs', sr := st }) a j) : Own ws vps vh U ps a j ∨ V'.owns cs' p.rb j := by
  have hm : ∀ q ∈ ps.set i { p with V := V', cs := cs', sr := st }, ∃ q' ∈ ps, q.pb = q'.pb := fun q hq => by
    obtain ⟨n, hn⟩ := mem_get hq
    rcases get_set hn with ⟨_, rfl⟩ | ⟨_, hj⟩
    · exact ⟨p, List.mem_of_getElem? hi, rfl⟩
    · exact ⟨q, List.mem_of_getElem? hj, rfl⟩
  cases a with
  | law =>
    rcases h with e | e | e | ⟨q, hq, e⟩ | e
    · exact .inl (.inl e)
    · exact .inl (.inr (.inl e))
    · exact .inl (.inr (.inr (.inl e)))
    · obtain ⟨q', hq', e'⟩ := hm q hq
      exact .inl (.inr (.inr (.inr (.inl ⟨q', hq', e.trans e'⟩))))
    · exact .inl (.inr (.inr (.inr (.inr e))))
  | prog n =>
    obtain ⟨q, hq, hk⟩ := h
    rcases get_set hq with ⟨rfl, rfl⟩ | ⟨_, hj⟩
    · exact .inl ⟨p, hi, hk⟩
    · exact .inl ⟨q, hj, hk⟩
  | ref n =>
    obtain ⟨q, hq, hk⟩ := h
    rcases get_set hq with ⟨rfl, rfl⟩ | ⟨_, hj⟩
    · exact .inr hk
    · exact .inl ⟨q, hj, hk⟩
/-- The document's resolver has spoken too. -/
theorem mid3 {W7 w8 : World} {i : Nat} {p : Pl} {st' : RSt} {V' : RV} {cs' : List ChV} (h : Mid B U ws vps hs vh w W ps X gb s kd frm k t v l) (hp : ps[i]? = some p) (hb7 : Below W.heap.size W W7) (ha : RefAt w8 p.rb st' V' cs') (fr : Fr W7 w8 p.ro (V'.owns cs' p.rb)) :
    Mid B U ws vps hs vh w w8 (ps.set i { p with V := V', cs := cs', sr := st' }) X gb s kd frm k t v l ∧ ∀ a j, Own ws vps vh U (ps.set i { p with V := V', cs := cs', sr := st' }) a j → j < W.heap.size ∨ W7.heap.size ≤ j := by
  have h7 := h.next hb7
  have hno : ∀ j, p.ro j → j ≠ X ∧ j ≠ gb ∧ v.ownBlock ≠ some j ∧ j ≠ w.heap.size := fun j e => h.free (.ref i) j ⟨p, hp, e⟩
  have l1 := h.xlo
  have l2 := heap_lt h.box
  have l3 := h.glo
  have l4 := heap_lt h.lent
  have l6 := hb7.size
  have l7 := fr.size
  have l8 := h.op.lt
  refine ⟨⟨h7.game.turnR hp ha fr, (fr.block X (by omega) (fun e => (hno _ e).1 rfl)).trans h7.box, (fr.block gb (by omega) (fun e => (hno _ e).2.1 rfl)).trans h7.lent, h7.op.at (fr.block _ (by omega) (fun e => (hno _ e).2.2.2 rfl)), own_at h7.own (fun j hj => fr.block j (by have := (h7.own.lt j hj).2; omega) (fun e => (hno _ e).2.2.1 hj)), h.vlo, h.xlo, h.xg, h.glo, fun a j hj => ?_, h7.below.trans (fr_below fr (fun j hj => h.game.lo (.ref i) j ⟨p, hp, hj⟩) h7.game.st.sz), h.bw⟩, fun a j hj => ?_⟩
  · rcases own_setR hp hj with e | e
    · exact h.free a j e
    · rcases fr.new j e with e | e
      · exact h.free (.ref i) j ⟨p, hp, e⟩
      · exact ⟨by omega, by omega, (fun e2 => by have := (h.own.lt j e2).2; omega), by omega⟩
  · rcases own_setR hp hj with e | e
    · exact .inl (h.game.lt a j e)
    · rcases fr.new j e with e | e
      · exact .inl (h.game.lt (.ref i) j ⟨p, hp, e⟩)
      · exact .inr e
theorem Mid.put (h : Mid B U ws vps hs vh w W ps X gb s kd frm k t v l) {r : Nat} (hr : r ≠ X ∧ r ≠ gb ∧ v.ownBlock ≠ some r ∧ w.heap.size < r) (hn : ∀ a, ¬ Own ws vps vh U ps a r) (hw : W.grownBy W' (some r)) : Mid B U ws vps hs vh w W' ps X gb s kd frm k t v l := by
  obtain ⟨r1, r2, r3, r4⟩ := hr
  exact { h with game := h.game.aside hw hn, box := (hw.block X (heap_lt h.box) (by simp; omega)).trans h.box, lent := (hw.block gb (heap_lt h.lent) (by simp; omega)).trans h.lent, op := h.op.at (hw.block _ h.op.lt (by simp; omega)), own := own_grown h.own hw r3, below := h.below.trans (below_put hw (by have := h.bw; omega) h.game.st.sz) }
theorem keep_own {vb : Value} {U' : Nat → Prop} {hs' : List Nat} {vh' : Value} (K : Kept B U W W' ws vps hs vb (.slice none 0 0) (.slice none 0 0) (.slice none 0 0) U' hs' vh vh') {a : Whose} {i : Nat} (h : Own ws vps vh' U' ps a i) : Own ws vps vh U ps a i ∨ vb.ownBlock = some i ∨ W.heap.size ≤ i := by
  cases a with
  | law =>
    rcases h with e | e | e | e | e
    · exact .inl (.inl e)
    · rcases loc_new K.loc i e with e | e
      · exact .inl (.inr (.inl e))
      · exact .inr (.inr e)
    · exact .inl (.inr (.inr (.inl e)))
    · exact .inl (.inr (.inr (.inr (.inl e))))
    · rcases K.use i e with e | e | e | e | e | e
      · exact .inl (.inr (.inr (.inr (.inr e))))
      · exact .inr (.inl e)
      · cases e
      · cases e
      · cases e
      · exact .inr (.inr e)
  | prog j => exact .inl h
  | ref j => exact .inl h
end
theorem askS_size (st : RSt) (s : ByteArray) : ∃ k t x, (askS st s).2.1 = stepV k t x ∧ x.size ≤ 512 := by
  have hp : ∀ m, (str (packL m)).size ≤ 512 := fun m => by
    have := packL_length m
    show (packL m).toArray.size ≤ 512
    simpa using this
  have hr : ∀ m, (str (replyL m)).size ≤ 512 := fun m => by
    unfold replyL
    split
    · exact hp _
    · exact hp _
  unfold askS
  split
  · exact ⟨_, _, _, rfl, by decide⟩
  split
  · exact ⟨_, _, _, rfl, by decide⟩
  split
  · exact ⟨_, _, _, rfl, hr _⟩
  split
  · exact ⟨_, _, _, rfl, hr _⟩
  split
  · split
    · exact ⟨_, _, _, rfl, hr _⟩
    · unfold askP
      split
      · exact ⟨_, _, _, rfl, hr _⟩
      · exact ⟨_, _, _, rfl, hp _⟩
  · exact ⟨_, _, _, rfl, hr _⟩
theorem askS_len {st : RSt} {s : ByteArray} {k t : Int} {l : List UInt8} (h : (askS st s).2.1 = stepV k t (str l)) : l.length ≤ 512 := by
  obtain ⟨k', t', x, h1, h2⟩ := askS_size st s
  rw [h] at h1
  unfold stepV at h1
  injection h1 with h1
  have h3 := congrArg (fun a : Array Value => a[2]?) h1
  simp only [List.getElem?_toArray, List.getElem?_cons_succ, List.getElem?_cons_zero, Option.some.injEq, Value.string.injEq] at h3
  rw [← h3] at h2
  simpa [str, ByteArray.size] using h2
def Even (ps : List Pl) : Prop := ∀ p ∈ ps, p.sx = p.sr ∧ StOk p.sr
end Go.Proofs.YtafoepfhepdcoaaGreat
