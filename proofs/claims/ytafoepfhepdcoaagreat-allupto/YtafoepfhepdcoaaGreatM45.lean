import Derived.Test.YtafoepfhepdcoaaGreatM36
import Derived.Test.YtafoepfhepdcoaaGreatM44
set_option maxRecDepth 100000
set_option maxHeartbeats 8000000
namespace Go.Proofs.YtafoepfhepdcoaaGreat
open Go.RowKit Go.Trawl
attribute [local go_sem] buildH0
def pickN (c : Int) (n : Nat) : Nat := ((if c < 0 then -(c + 1) else c) % (n : Int)).toNat
theorem pickN_lt {c : Int} {n : Nat} (h : 1 ≤ n) : pickN c n < n := by
 unfold pickN
 have := Int.emod_lt_of_pos (if c < 0 then -(c + 1) else c) (show (0 : Int) < n by omega)
 have := Int.emod_nonneg (if c < 0 then -(c + 1) else c) (show (n : Int) ≠ 0 by omega)
 omega
theorem pick_any (c : Int) (n : Nat) (h1 : 1 ≤ n) (h2 : n ≤ 4) (c0 : -9223372036854775808 ≤ c) (c1 : c ≤ 9223372036854775807) (w : World) :
  Calls Tryz.prog 51 #[.int .i64 c, .int .i64 n] w fun e w' => e = .returned (.int .i64 (pickN c n : Nat)) ∧ w' = w := by
 have hn : ¬ (n : Int) = 0 := by omega
 by_cases hc : c < 0
 ·have hw : IntKind.i64.wrap (-(IntKind.i64.wrap (c + 1))) = -(c + 1) := by rw [IntKind.wrap_i64, IntKind.wrap_i64]; omega
  go_enter Tryz.func51, Tryz.ntmps51
  go_wp2
  go_ret
  have hx : -(c + 1).tmod (n : Int) = ((pickN c n : Nat) : Int) := by
   unfold pickN
   rw [if_pos hc, ← Int.neg_tmod, Int.tmod_eq_emod_of_nonneg (by omega), Int.toNat_of_nonneg (Int.emod_nonneg _ hn)]
  exact ⟨congrArg (fun x => Ending.returned (.int .i64 x)) hx, rfl⟩
 ·go_enter Tryz.func51, Tryz.ntmps51
  go_wp2
  go_ret
  have hx : c % (n : Int) = ((pickN c n : Nat) : Int) := by
   unfold pickN
   rw [if_neg (by omega), Int.toNat_of_nonneg (Int.emod_nonneg _ hn)]
  exact ⟨congrArg (fun x => Ending.returned (.int .i64 x)) hx, rfl⟩
theorem row_ptr {w : World} {a : Option Addr} {n c : Nat} {ps : List Pl} (h : w.ownsRow 0 105 1 (.slice a n c) ps.length (ps.map fun p => ptrV p.pb)) {i : Nat} {p : Pl} (hi : ps[i]? = some p) : ∃ g, a = some ⟨g, 0, none⟩ ∧ w.cell? ⟨g, i, none⟩ = some (.pointer (some ⟨p.pb, 0, none⟩)) := by
 rcases h.2 with ⟨_, h0⟩ | ⟨g, cap, cur, e, _⟩
 ·have : ps = [] := List.eq_nil_of_length_eq_zero h0
  subst this
  simp at hi
 ·cases e
  have := h.cells (g := g) rfl i (ptrV p.pb) (by rw [List.getElem?_map, hi]; rfl)
  refine ⟨g, rfl, ?_⟩
  have e : (⟨g, 0, none⟩ : Addr).add i = ⟨g, i, none⟩ := by
   unfold Addr.add
   by_cases h : i = 0
   ·rw [h]; rfl
   ·rw [if_neg h]; simp
  rw [e] at this
  exact this
structure OpB (w : World) (N : Nat) (s : ByteArray) (kd frm : Int) : Prop where
 box : ∃ cs t, w.heap[N]? = some (.cells cs t) ∧ cs[14]? = some (.string s) ∧ cs[0]? = some (.int .i64 kd) ∧ cs[15]? = some (.int .u32 frm)
theorem OpB.lt {w : World} {N : Nat} {s : ByteArray} {kd frm : Int} (h : OpB w N s kd frm) : N < w.heap.size := by
 obtain ⟨cs, t, h1, _⟩ := h.box
 exact hl_ h1
theorem OpB.at {w w' : World} {N : Nat} {s : ByteArray} {kd frm : Int} (h : OpB w N s kd frm) (hk : w'.heap[N]? = w.heap[N]?) : OpB w' N s kd frm := by
 obtain ⟨cs, t, h1, r⟩ := h.box
 exact ⟨cs, t, hk.trans h1, r⟩
theorem OpB.below {w w' : World} {N : Nat} {s : ByteArray} {kd frm : Int} (h : OpB w N s kd frm) (hb : Below w.heap.size w w') : OpB w' N s kd frm := h.at (hb.block N h.lt)
theorem OpB.cells {w : World} {N : Nat} {s : ByteArray} {kd frm : Int} (h : OpB w N s kd frm) : w.cell? ⟨N, 14, none⟩ = some (.string s) ∧ w.cell? ⟨N, 0, none⟩ = some (.int .i64 kd) ∧ w.cell? ⟨N, 15, none⟩ = some (.int .u32 frm) := by
 obtain ⟨cs, t, h1, h2, h3, h4⟩ := h.box
 exact ⟨by rw [bc_ h1 14, h2], by rw [bc_ h1 0, h3], by rw [bc_ h1 15, h4]⟩
structure Mid (B : Nat) (U : Nat → Prop) (ws : Nat) (vps : Value) (hs : List Nat) (vh : Value) (w W : World) (ps : List Pl) (X gb : Nat) (s : ByteArray) (kd frm k t : Int) (v : Value) (l : List UInt8) : Prop where
 game : Game B U W ws vps hs vh ps
 box : W.heap[X]? = some (.cells #[.int .i64 k, .int .u32 t, v] 59)
 lent : W.heap[gb]? = some (.cells (lentC s 8).toArray 5)
 op : OpB W w.heap.size s kd frm
 own : W.ownsRow 0 5 1 v l.length (bytesV l)
 vlo : ∀ i, v.ownBlock = some i → w.heap.size < i ∧ i ≠ X ∧ i ≠ gb
 xlo : w.heap.size < X
 xg : X ≠ gb
 glo : w.heap.size < gb
 free : ∀ a i, Own ws vps vh U ps a i → i ≠ X ∧ i ≠ gb ∧ v.ownBlock ≠ some i ∧ i ≠ w.heap.size
 below : Below B w W
 bw : B ≤ w.heap.size
section
variable {B : Nat} {U : Nat → Prop} {ws : Nat} {vps : Value} {hs : List Nat} {vh : Value} {w W W' : World} {ps : List Pl} {X gb : Nat} {s : ByteArray} {kd frm k t : Int} {v : Value} {l : List UInt8}
theorem Mid.next (h : Mid B U ws vps hs vh w W ps X gb s kd frm k t v l) (hb : Below W.heap.size W W') : Mid B U ws vps hs vh w W' ps X gb s kd frm k t v l :=
 { h with game := h.game.below hb, box := (hb.block _ (hl_ h.box)).trans h.box, lent := (hb.block _ (hl_ h.lent)).trans h.lent, op := h.op.below hb, own := own_below h.own hb, below := h.below.trans (hb.mono h.game.st.sz) }
theorem own_set {i : Nat} {p : Pl} (hi : ps[i]? = some p) {vr' : PV} {st : RSt} {a : Whose} {j : Nat} (h : Own ws vps vh U (ps.set i { p with vr := vr', sx := st }) a j) : Own ws vps vh U ps a j ∨ pOwns p.xb p.sb vr' j := by
 have hm : ∀ q ∈ ps.set i { p with vr := vr', sx := st }, ∃ q' ∈ ps, q.pb = q'.pb := fun q hq => by
  obtain ⟨n, hn⟩ := mem_get hq
  rcases get_set hn with ⟨_, rfl⟩ | ⟨_, hj⟩
  ·exact ⟨p, List.mem_of_getElem? hi, rfl⟩
  ·exact ⟨q, List.mem_of_getElem? hj, rfl⟩
 cases a with
 | law =>
  rcases h with e | e | e | ⟨q, hq, e⟩ | e
  ·exact .inl (.inl e)
  ·exact .inl (.inr (.inl e))
  ·exact .inl (.inr (.inr (.inl e)))
  ·obtain ⟨q', hq', e'⟩ := hm q hq
   exact .inl (.inr (.inr (.inr (.inl ⟨q', hq', e.trans e'⟩))))
  ·exact .inl (.inr (.inr (.inr (.inr e))))
 | prog n =>
  obtain ⟨q, hq, hk⟩ := h
  rcases get_set hq with ⟨rfl, rfl⟩ | ⟨_, hj⟩
  ·exact .inr hk
  ·exact .inl ⟨q, hj, hk⟩
 | ref n =>
  obtain ⟨q, hq, hk⟩ := h
  rcases get_set hq with ⟨rfl, rfl⟩ | ⟨_, hj⟩
  ·exact .inl ⟨p, hi, hk⟩
  ·exact .inl ⟨q, hj, hk⟩
theorem fr_below {W w5 : World} {O O' : Nat → Prop} (h : Fr W w5 O O') (ho : ∀ k, O k → B ≤ k) (hB : B ≤ W.heap.size) : Below B W w5 := ⟨h.os, h.tape, h.output, h.size, fun k hk => h.block k (by omega) (fun e => by have := ho k e; omega)⟩
theorem below_put {W W' : World} {r : Nat} (h : W.grownBy W' (some r)) (hr : B ≤ r) (hB : B ≤ W.heap.size) : Below B W W' := ⟨h.os, h.tape, h.output, h.size, fun k hk => h.block k (by omega) (by simp; omega)⟩
theorem Game.aside (h : Game B U W ws vps hs vh ps) {r : Nat} (hw : W.grownBy W' (some r)) (hr : ∀ a, ¬ Own ws vps vh U ps a r) : Game B U W' ws vps hs vh ps := by
 have keep : ∀ a i, Own ws vps vh U ps a i → W'.heap[i]? = W.heap[i]? := fun a i hi => hw.block i (h.lt a i hi) (fun e => hr a (by rw [← Option.some.inj e]; exact hi))
 refine ⟨h.st.at hw.size (fun i hi => keep .law i (by rcases hi with e | e | e; exact .inl e; exact .inr (.inl e); exact .inr (.inr (.inr (.inr e))))), own_at h.row (fun i hi => keep .law i (.inr (.inr (.inl hi)))), fun p hp => (keep .law p.pb (.inr (.inr (.inr (.inl ⟨p, hp, rfl⟩))))).trans (h.box p hp), fun p hp => ?_, fun p hp => ?_, h.lo, fun a i hi => Nat.lt_of_lt_of_le (h.lt a i hi) hw.size, h.one⟩
 ·obtain ⟨j, hj⟩ := mem_get hp
  exact (h.prog p hp).keep hw.size (fun i hi => keep (.prog j) i ⟨p, hj, hi⟩)
 ·obtain ⟨j, hj⟩ := mem_get hp
  exact (h.ref p hp).at hw.size (fun i hi => keep (.ref j) i ⟨p, hj, hi⟩)
theorem spoken {W4 w5 : World} {i : Nat} {p : Pl} {vr' : PV} {st' : RSt} (hLT : ∀ a i, Own ws vps vh U ps a i → i < w.heap.size) (hp : ps[i]? = some p) (sp : Spoke W4 w5 p.xb p.sb p.vr vr' st' v l) (hz : w.heap.size < W4.heap.size) : ∀ a j, Own ws vps vh U (ps.set i { p with vr := vr', sx := st' }) a j → (j < w.heap.size ∨ W4.heap.size ≤ j) ∧ v.ownBlock ≠ some j := by
 intro a j hj
 rcases own_set hp hj with e | e
 ·have := hLT a j e
  exact ⟨.inl this, fun e2 => by have := sp.new j e2; omega⟩
 ·refine ⟨?_, fun e2 => sp.apart j e2 e⟩
  rcases sp.fr.new j e with e | e
  ·exact .inl (hLT (.prog i) j ⟨p, hp, e⟩)
  ·exact .inr e
theorem mid1 {W3 W4 w5 : World} {i : Nat} {p : Pl} {vr' : PV} {st' : RSt} (hB3 : Below w.heap.size w W3) (hG3 : Game B U W3 ws vps hs vh ps) (hO3 : OpB W3 w.heap.size s kd frm) (hL3 : W3.heap[gb]? = some (.cells (lentC s 8).toArray 5)) (hN : w.heap.size < gb)
  (hLT : ∀ a i, Own ws vps vh U ps a i → i < w.heap.size) (hp : ps[i]? = some p) (hb4 : Below W3.heap.size W3 W4) (sp : Spoke W4 w5 p.xb p.sb p.vr vr' st' v l) (g5 : Game B U w5 ws vps hs vh (ps.set i { p with vr := vr', sx := st' })) (hB : B ≤ w.heap.size) :
  Mid B U ws vps hs vh w (w5.alloc (.cells #[.int .i64 k, .int .u32 t, v] 59)) (ps.set i { p with vr := vr', sx := st' }) w5.heap.size gb s kd frm k t v l := by
 have z3 := hl_ hL3
 have z4 := hb4.size
 have z5 := sp.fr.size
 have hno : ∀ j, w.heap.size ≤ j → ¬ pOwns p.xb p.sb p.vr j := fun j hj e => by have := hLT (.prog i) j ⟨p, hp, e⟩; omega
 have kp : ∀ j, w.heap.size ≤ j → j < W3.heap.size → w5.heap[j]? = W3.heap[j]? := fun j h1 h2 => (sp.fr.block j (by omega) (hno j h1)).trans (hb4.block j h2)
 have hba := (Below.refl w5.heap.size w5).alloc (Nat.le_refl _) (.cells #[.int .i64 k, .int .u32 t, v] 59)
 have hb5 : Below B w w5 := ((hB3.mono hB).trans (hb4.mono (by have := hB3.size; omega))).trans (fr_below sp.fr (fun j hj => hG3.lo (.prog i) j ⟨p, hp, hj⟩) (by have := hB3.size; omega))
 refine ⟨g5.below hba, hn_ _ _, (hba.block _ (by omega)).trans ((kp gb (by omega) z3).trans hL3), (hO3.at (kp _ (Nat.le_refl _) hO3.lt)).below hba, own_below sp.own hba, fun j hj => ?_, by have := hB3.size; omega, by omega, hN, fun a j hj => ?_, hb5.trans (hba.mono (by have := hB3.size; omega)), hB⟩
 ·have h1 := sp.new j hj
  have h2 := (sp.own.lt j hj).2
  exact ⟨by omega, by omega, by omega⟩
 ·have h1 := spoken hLT hp sp (by omega) a j hj
  have h2 := g5.lt a j hj
  exact ⟨by omega, by omega, h1.2, by omega⟩
theorem mid2 {W3 W4 w5 : World} {i : Nat} {p : Pl} {vr' : PV} {st' : RSt} {z : Array Value} (hz : ∃ u0 u1 u2, z = #[u0, u1, u2]) (hB3 : Below w.heap.size w W3) (hG3 : Game B U W3 ws vps hs vh ps) (hO3 : OpB W3 w.heap.size s kd frm) (hL3 : W3.heap[gb]? = some (.cells (lentC s 8).toArray 5)) (hN : w.heap.size < gb)
  (hLT : ∀ a i, Own ws vps vh U ps a i → i < w.heap.size) (hp : ps[i]? = some p) (hb4 : Below W3.heap.size W3 W4) (hz4 : W3.heap.size < W4.heap.size) (sp : Spoke W4 w5 p.xb p.sb p.vr vr' st' v l) (g5 : Game B U w5 ws vps hs vh (ps.set i { p with vr := vr', sx := st' })) (hB : B ≤ w.heap.size) (hx : w5.heap[W3.heap.size]? = some (.cells z 59)) :
  Mid B U ws vps hs vh w (put3 w5 W3.heap.size (.int .i64 k) (.int .u32 t) v) (ps.set i { p with vr := vr', sx := st' }) W3.heap.size gb s kd frm k t v l := by
 obtain ⟨u0, u1, u2, rfl⟩ := hz
 have z3 := hl_ hL3
 have z5 := sp.fr.size
 have s3 := hB3.size
 have hno : ∀ j, w.heap.size ≤ j → ¬ pOwns p.xb p.sb p.vr j := fun j hj e => by have := hLT (.prog i) j ⟨p, hp, e⟩; omega
 have kp : ∀ j, w.heap.size ≤ j → j < W3.heap.size → w5.heap[j]? = W3.heap[j]? := fun j h1 h2 => (sp.fr.block j (by omega) (hno j h1)).trans (hb4.block j h2)
 have hG := pg_ w5 W3.heap.size (.int .i64 k) (.int .u32 t) v
 have hb5 : Below B w w5 := ((hB3.mono hB).trans (hb4.mono (by omega))).trans (fr_below sp.fr (fun j hj => hG3.lo (.prog i) j ⟨p, hp, hj⟩) (by omega))
 have hfr := spoken hLT hp sp (by omega)
 have hlt := hl_ hx
 refine ⟨g5.aside hG (fun a e => by have := (hfr a _ e).1; omega), pb_ _ _ _ hx, (hG.block gb (by omega) (by simp; omega)).trans ((kp gb (by omega) z3).trans hL3), (hO3.at (kp _ (Nat.le_refl _) hO3.lt)).at (hG.block _ (by have := hO3.lt; omega) (by simp; omega)), own_grown sp.own hG (fun e => by have := sp.new _ e; omega), fun j hj => ?_, by omega, by omega, hN, fun a j hj => ?_, hb5.trans (below_put hG (by omega) (by omega)), hB⟩
 ·have h1 := sp.new j hj
  exact ⟨by omega, by omega, by omega⟩
 ·have h1 := hfr a j hj
  exact ⟨by omega, by omega, h1.2, by omega⟩
theorem own_setR {i : Nat} {p : Pl} (hi : ps[i]? = some p) {st : RSt} {V' : RV} {cs' : List ChV} {a : Whose} {j : Nat} (h : Own ws vps vh U (ps.set i { p with V := V', cs := cs', sr := st }) a j) : Own ws vps vh U ps a j ∨ V'.owns cs' p.rb j := by
 have hm : ∀ q ∈ ps.set i { p with V := V', cs := cs', sr := st }, ∃ q' ∈ ps, q.pb = q'.pb := fun q hq => by
  obtain ⟨n, hn⟩ := mem_get hq
  rcases get_set hn with ⟨_, rfl⟩ | ⟨_, hj⟩
  ·exact ⟨p, List.mem_of_getElem? hi, rfl⟩
  ·exact ⟨q, List.mem_of_getElem? hj, rfl⟩
 cases a with
 | law =>
  rcases h with e | e | e | ⟨q, hq, e⟩ | e
  ·exact .inl (.inl e)
  ·exact .inl (.inr (.inl e))
  ·exact .inl (.inr (.inr (.inl e)))
  ·obtain ⟨q', hq', e'⟩ := hm q hq
   exact .inl (.inr (.inr (.inr (.inl ⟨q', hq', e.trans e'⟩))))
  ·exact .inl (.inr (.inr (.inr (.inr e))))
 | prog n =>
  obtain ⟨q, hq, hk⟩ := h
  rcases get_set hq with ⟨rfl, rfl⟩ | ⟨_, hj⟩
  ·exact .inl ⟨p, hi, hk⟩
  ·exact .inl ⟨q, hj, hk⟩
 | ref n =>
  obtain ⟨q, hq, hk⟩ := h
  rcases get_set hq with ⟨rfl, rfl⟩ | ⟨_, hj⟩
  ·exact .inr hk
  ·exact .inl ⟨q, hj, hk⟩
theorem mid3 {W7 w8 : World} {i : Nat} {p : Pl} {st' : RSt} {V' : RV} {cs' : List ChV} (h : Mid B U ws vps hs vh w W ps X gb s kd frm k t v l) (hp : ps[i]? = some p) (hb7 : Below W.heap.size W W7) (ha : RefAt w8 p.rb st' V' cs') (fr : Fr W7 w8 p.ro (V'.owns cs' p.rb)) :
  Mid B U ws vps hs vh w w8 (ps.set i { p with V := V', cs := cs', sr := st' }) X gb s kd frm k t v l ∧ ∀ a j, Own ws vps vh U (ps.set i { p with V := V', cs := cs', sr := st' }) a j → j < W.heap.size ∨ W7.heap.size ≤ j := by
 have h7 := h.next hb7
 have hno : ∀ j, p.ro j → j ≠ X ∧ j ≠ gb ∧ v.ownBlock ≠ some j ∧ j ≠ w.heap.size := fun j e => h.free (.ref i) j ⟨p, hp, e⟩
 have l1 := h.xlo
 have l2 := hl_ h.box
 have l3 := h.glo
 have l4 := hl_ h.lent
 have l6 := hb7.size
 have l7 := fr.size
 have l8 := h.op.lt
 refine ⟨⟨h7.game.turnR hp ha fr, (fr.block X (by omega) (fun e => (hno _ e).1 rfl)).trans h7.box, (fr.block gb (by omega) (fun e => (hno _ e).2.1 rfl)).trans h7.lent, h7.op.at (fr.block _ (by omega) (fun e => (hno _ e).2.2.2 rfl)), own_at h7.own (fun j hj => fr.block j (by have := (h7.own.lt j hj).2; omega) (fun e => (hno _ e).2.2.1 hj)), h.vlo, h.xlo, h.xg, h.glo, fun a j hj => ?_, h7.below.trans (fr_below fr (fun j hj => h.game.lo (.ref i) j ⟨p, hp, hj⟩) h7.game.st.sz), h.bw⟩, fun a j hj => ?_⟩
 ·rcases own_setR hp hj with e | e
  ·exact h.free a j e
  ·rcases fr.new j e with e | e
   ·exact h.free (.ref i) j ⟨p, hp, e⟩
   ·exact ⟨by omega, by omega, (fun e2 => by have := (h.own.lt j e2).2; omega), by omega⟩
 ·rcases own_setR hp hj with e | e
  ·exact .inl (h.game.lt a j e)
  ·rcases fr.new j e with e | e
   ·exact .inl (h.game.lt (.ref i) j ⟨p, hp, e⟩)
   ·exact .inr e
theorem Mid.put (h : Mid B U ws vps hs vh w W ps X gb s kd frm k t v l) {r : Nat} (hr : r ≠ X ∧ r ≠ gb ∧ v.ownBlock ≠ some r ∧ w.heap.size < r) (hn : ∀ a, ¬ Own ws vps vh U ps a r) (hw : W.grownBy W' (some r)) : Mid B U ws vps hs vh w W' ps X gb s kd frm k t v l := by
 obtain ⟨r1, r2, r3, r4⟩ := hr
 exact { h with game := h.game.aside hw hn, box := (hw.block X (hl_ h.box) (by simp; omega)).trans h.box, lent := (hw.block gb (hl_ h.lent) (by simp; omega)).trans h.lent, op := h.op.at (hw.block _ h.op.lt (by simp; omega)), own := own_grown h.own hw r3, below := h.below.trans (below_put hw (by have := h.bw; omega) h.game.st.sz) }
theorem keep_own {vb : Value} {U' : Nat → Prop} {hs' : List Nat} {vh' : Value} (K : Kept B U W W' ws vps hs vb (.slice none 0 0) (.slice none 0 0) (.slice none 0 0) U' hs' vh vh') {a : Whose} {i : Nat} (h : Own ws vps vh' U' ps a i) : Own ws vps vh U ps a i ∨ vb.ownBlock = some i ∨ W.heap.size ≤ i := by
 cases a with
 | law =>
  rcases h with e | e | e | e | e
  ·exact .inl (.inl e)
  ·rcases loc_new K.loc i e with e | e
   ·exact .inl (.inr (.inl e))
   ·exact .inr (.inr e)
  ·exact .inl (.inr (.inr (.inl e)))
  ·exact .inl (.inr (.inr (.inr (.inl e))))
  ·rcases K.use i e with e | e | e | e | e | e
   ·exact .inl (.inr (.inr (.inr (.inr e))))
   ·exact .inr (.inl e)
   ·cases e
   ·cases e
   ·cases e
   ·exact .inr (.inr e)
 | prog j => exact .inl h
 | ref j => exact .inl h
end
theorem askS_size (st : RSt) (s : ByteArray) : ∃ k t x, (askS st s).2.1 = stepV k t x ∧ x.size ≤ 512 := by
 have hp : ∀ m, (str (packL m)).size ≤ 512 := fun m => by
  have := packL_length m
  show (packL m).toArray.size ≤ 512
  simpa using this
 have hr : ∀ m, (str (replyL m)).size ≤ 512 := fun m => by
  unfold replyL
  split
  ·exact hp _
  ·exact hp _
 unfold askS
 split
 ·exact ⟨_, _, _, rfl, by decide⟩
 split
 ·exact ⟨_, _, _, rfl, by decide⟩
 split
 ·exact ⟨_, _, _, rfl, hr _⟩
 split
 ·exact ⟨_, _, _, rfl, hr _⟩
 split
 ·split
  ·exact ⟨_, _, _, rfl, hr _⟩
  ·unfold askP
   split
   ·exact ⟨_, _, _, rfl, hr _⟩
   ·exact ⟨_, _, _, rfl, hp _⟩
 ·exact ⟨_, _, _, rfl, hr _⟩
theorem step_len {v : Value} {k t : Int} {l : List UInt8} (h : v = stepV k t (str l)) (hx : ∃ k t x, v = stepV k t x ∧ x.size ≤ 512) : l.length ≤ 512 := by
 obtain ⟨k', t', x, h1, h2⟩ := hx
 rw [h] at h1
 unfold stepV at h1
 injection h1 with h1
 have h3 := congrArg (fun a : Array Value => a[2]?) h1
 simp only [List.getElem?_toArray, List.getElem?_cons_succ, List.getElem?_cons_zero, Option.some.injEq, Value.string.injEq] at h3
 rw [← h3] at h2
 simpa [str, ByteArray.size] using h2
theorem askS_len {st : RSt} {s : ByteArray} {k t : Int} {l : List UInt8} (h : (askS st s).2.1 = stepV k t (str l)) : l.length ≤ 512 := step_len h (askS_size st s)
theorem comes_size {st : RSt} {p : RSt × Value} (h : Comes st p) : ∃ k t x, p.2 = stepV k t x ∧ x.size ≤ 512 := by
 have hp : ∀ m, (str (packL m)).size ≤ 512 := fun m => by
  have := packL_length m
  show (packL m).toArray.size ≤ 512
  simpa using this
 rcases h with h | h
 ·obtain ⟨_, _, _, e⟩ := h.says
  exact ⟨_, _, _, e, hp _⟩
 ·obtain ⟨_, _, _, _, _, _, _, e⟩ := h.says
  refine ⟨_, _, _, e, ?_⟩
  unfold replyL
  split
  ·exact hp _
  ·exact hp _
theorem lateS_size {st : RSt} (h : Inv st) : ∃ k t x, (lateS st).2.1 = stepV k t x ∧ x.size ≤ 512 := by
 cases hb : st.busy with
 | false => rw [idle_late hb]; exact ⟨_, _, _, rfl, by decide⟩
 | true => exact comes_size (comes_late h hb).1
theorem heardS_size {st : RSt} (h : Inv st) (fr : Int) (s : ByteArray) : ∃ k t x, (heardS st fr s).2.1 = stepV k t x ∧ x.size ≤ 512 := by
 cases hb : st.busy with
 | false => rw [idle_heard hb]; exact ⟨_, _, _, rfl, by decide⟩
 | true =>
  rcases comes_heard h hb fr s with e | e
  ·rw [e]; exact ⟨_, _, _, rfl, by decide⟩
  ·exact comes_size e.1
def Even (ps : List Pl) : Prop := ∀ p ∈ ps, p.sx = p.sr ∧ Inv p.sr
end Go.Proofs.YtafoepfhepdcoaaGreat
namespace Go.Proofs.YtafoepfhepdcoaaGreat
open Go.RowKit Go.Trawl
attribute [local go_sem] buildH0
theorem step4_none (w : World) (B ws : Nat) (U : Nat → Prop) (vps : Value) (hs : List Nat) (vh : Value) (o : OpV) (hk : o.kind = 4) (hg : Game B U w ws vps hs vh []) :
  Calls Tryz.prog 28 #[ptrV ws, .agg o.arr] w fun e w' => e = .returned (.bool true) ∧ Hid (Below w.heap.size w w') := by
 have HB := hide ((Below.refl w.heap.size w).alloc (Nat.le_refl _) (.cells o.arr 79))
 have hcw := bc_ (hg.below HB.out).st.world.boxw
 obtain ⟨a, c, rfl⟩ := os_ hg.row
 obtain ⟨kind, n, m, vq, va, vu, vx, s, frm, b, d, c', t, vr, rs⟩ := o
 dsimp only at hk
 subst hk
 clear hg
 unfold ptrV
 simp only [OpV.arr] at hcw HB ⊢
 go_enter Tryz.func28, Tryz.ntmps28
 go_wp2_with fail
 go_ret
 exact ⟨rfl, HB.out⟩
theorem step4 (w : World) (B ws : Nat) (U : Nat → Prop) (vps : Value) (hs : List Nat) (vh : Value) (ps : List Pl) (o : OpV) (hk : o.kind = 4) (hl : hs.length ≤ 99999900) (hg : Game B U w ws vps hs vh ps) (he : Even ps) (ho : OpAt w o) (h1 : 1 ≤ ps.length) (h4 : ps.length ≤ 4) :
    Calls Tryz.prog 28 #[ptrV ws, .agg o.arr] w fun e w' => e = .returned (.bool true) ∧ Hid (Below B w w' ∧ ∃ U' hs' vh' ps', Game B U' w' ws vps hs' vh' ps' ∧ Even ps' ∧ ps'.length = ps.length ∧ hs'.length ≤ hs.length + 20) := by
  have hb1 := (Below.refl w.heap.size w).alloc (Nat.le_refl _) (.cells o.arr 79)
  have HB1 := hide hb1
  have HG1 := hide (hg.below hb1)
  have HOB1 : Hid (OpB (w.alloc (.cells o.arr 79)) w.heap.size o.s 4 o.frm) := ⟨_, _, hn_ _ _, rfl, by rw [← hk]; rfl, rfl⟩
  have HLT := hide hg.lt
  have HBW := hide hg.st.sz
  have hn0 := ho.n0
  have hn1 := ho.n1
  have hos := ho.s
  have HE := hide he
  have hcw := bc_ HG1.out.st.world.boxw
  obtain ⟨a, c, rfl⟩ := os_ hg.row
  have hpl := pickN_lt (c := o.n) h1
  obtain ⟨p, hp⟩ : ∃ p, ps[pickN o.n ps.length]? = some p := ⟨_, List.getElem?_eq_getElem hpl⟩
  have HPK := hide (fun W => pick_any o.n ps.length h1 h4 hn0 hn1 W)
  clear hg he ho hb1
  obtain ⟨kind, n, m, vq, va, vu, vx, s, frm, b, d, c', t, vr, rs⟩ := o
  dsimp only at hk hn0 hn1 hos HOB1 hpl hp HPK
  subst hk
  unfold ptrV
  simp only [OpV.arr] at hcw HB1 HG1 HOB1 ⊢
  have hco := bc_ (hn_ w (.cells #[.int .i64 4, .int .i64 n, .int .u16 m.id, .bool m.resp, .int .i64 m.op, .bool m.own, .bool m.cut, .bool m.wanted, .bool m.able, .int .i64 m.code, vq, va, vu, vx, .string s, .int .u32 frm, .int .i64 b, .int .i64 d, .int .i64 c', .int .i64 t, vr] 79))
  obtain ⟨g, hga, hcell⟩ := row_ptr HG1.out.row hp
  cases hga
  go_enter Tryz.func28, Tryz.ntmps28
  go_wp2_with fail
  generalize w.alloc _ = W1 at HB1 HG1 HOB1 hcw hco hcell ⊢
  go_quiet ((go_at_call 51; exact Calls.quiet_of_same (HPK.out _)))
  clear hcw hco hcell
  have hdr := below_drewN (Below.refl W1.heap.size W1) nq
  have HB2 := hide (HB1.out.trans (hdr.mono HB1.out.size))
  have HG2 := hide (HG1.out.below hdr)
  have HOB2 := hide (HOB1.out.below hdr)
  clear hdr HB1 HG1 HOB1 HPK
  generalize W1.drewN nq = W2 at HB2 HG2 HOB2 ⊢
  have hN2 : w.heap.size < W2.heap.size := HOB2.out.lt
  have hcs := HOB2.out.cells.1
  go_wp2_with fail
  refine (lent_any W2 s hos).mono ?_
  rintro e W3 ⟨rfl, H3⟩
  have HL3 := hide H3.out.1
  have HB3 := hide (HB2.out.trans (H3.out.2.mono HB2.out.size))
  have HG3 := hide (HG2.out.below H3.out.2)
  have HOB3 := hide (HOB2.out.below H3.out.2)
  have hz3 : W2.heap.size < W3.heap.size := hl_ H3.out.1
  clear H3 hcs HB2 HG2 HOB2
  generalize W2.heap.size = gb at HL3 hz3 hN2 ⊢
  have hmp := List.mem_of_getElem? hp
  obtain ⟨hcs, hkd, -⟩ := HOB3.out.cells
  simp only [newV]
  go_wp2_with fail
  clear hkd
  have hq1 : (0 : Int) ≤ (s.size : Int) := by omega
  have hq2 : ((s.size : Nat) : Int) ≤ ((s.size + 8 : Nat) : Int) := by omega
  have hq3 : (s.size : Int) ≤ (s.size : Int) + 8 := by omega
  have hq4 : s.size ≤ s.size + 8 := by omega
  obtain ⟨hsx, hsk⟩ := HE.out p hmp
  have hbx := bc_ (HG3.out.box p hmp)
  simp only [ptrV] at hbx
  have hNo : ∀ k, w.heap.size ≤ k → ¬ p.po k := fun k hk hpo => by have := HLT.out (.prog _) k ⟨p, hp, hpo⟩; omega
  have HNO := hide hNo
  have HPA : Hid (PAt W3 p.xb p.sb p.vr p.sr) := by rw [← hsx]; exact HG3.out.prog p hmp
  have HC : Hid (∀ W4, Below W3.heap.size W3 W4 → Calls Tryz.prog 20 #[.pointer (some ⟨p.xb, 0, none⟩), .slice (some ⟨gb, 0, none⟩) s.size (s.size + 8)] W4 fun e w5 => ∃ (k5 t5 : Int) (a5 : Option Addr) (l5 : List UInt8) (c5 : Nat) (vr5 : PV), e = .returned (.tuple #[.agg #[.int .i64 k5, .int .u32 t5, .slice a5 l5.length c5], .int .i64 (askS p.sr s).2.2]) ∧
      Hid ((askS p.sr s).2.1 = stepV k5 t5 (str l5) ∧ Spoke W4 w5 p.xb p.sb p.vr vr5 (askS p.sr s).1 (.slice a5 l5.length c5) l5 ∧ Game B U w5 ws (.slice (some ⟨g, 0, none⟩) ps.length c) hs vh (ps.set (pickN n ps.length) { p with vr := vr5, sx := (askS p.sr s).1 }) ∧ (∀ k, w.heap.size ≤ k → k < W4.heap.size → w5.heap[k]? = W4.heap[k]?) ∧ W4.heap.size ≤ w5.heap.size) ∧
      (w5.cell? ⟨p.pb, 0, none⟩ = some (.pointer (some ⟨p.xb, 0, none⟩)) ∧ w5.cell? ⟨w.heap.size, 14, none⟩ = some (.string s))) := by
    intro W4 hb4
    have hz4 : gb < W4.heap.size := Nat.lt_of_lt_of_le hz3 hb4.size
    have hL4 := (hb4.block _ hz3).trans HL3.out
    refine (pAsk_any W4 p.xb p.sb gb (s.size + 8) p.vr p.sr s (HPA.out.keep hb4.size (fun k hk => hb4.block k (HPA.out.lt k hk))) hsk.ok hos (by omega) hz4 (lent_bytes hL4) (fun e => HNO.out gb (by omega) (.inl e))).mono ?_
    rintro e w5 ⟨k5, t5, a5, l5, c5, rfl, H5⟩
    obtain ⟨vr5, sp5⟩ := H5.out.2
    have hf := sp5.fr
    have g5 := (HG3.out.below hb4).turnX hp sp5.at_ hf
    have hkp : ∀ k, w.heap.size ≤ k → k < W4.heap.size → w5.heap[k]? = W4.heap[k]? := fun k h1 h2 => hf.block k h2 (HNO.out k h1)
    have e1 := bc_ (g5.box _ (List.mem_of_getElem? (List.getElem?_set_self hpl)))
    have hob := HOB3.out.below hb4
    have e2 := (hob.at (hkp _ (Nat.le_refl _) hob.lt)).cells.1
    exact ⟨k5, t5, a5, l5, c5, vr5, rfl, ⟨H5.out.1, sp5, g5, hkp, hf.size⟩, (e1 0).trans rfl, e2⟩
  have hpbl : p.pb < w.heap.size := HLT.out .law p.pb (.inr (.inr (.inr (.inl ⟨p, hmp, rfl⟩))))
  have m1 : ¬ W3.heap.size = p.pb := by omega
  have m2 : ¬ p.pb = W3.heap.size := by omega
  have m3 : ¬ W3.heap.size = w.heap.size := by omega
  have m4 : ¬ w.heap.size = W3.heap.size := by omega
  clear hNo hsx HPA
  have HSK := hide hsk
  clear hsk
  go_region_held3 (fun w' => w'.cell? ⟨p.pb, 0, none⟩ = some (.pointer (some ⟨p.xb, 0, none⟩)) ∧ w'.cell? ⟨w.heap.size, 14, none⟩ = some (.string s)) (first | (go_keep; done) | exact hs5) (first | (go_at_call 20; refine (HC.out _ (by first | exact below_drewN (Below.refl _ _) 1 | exact below_drewN ((Below.refl _ _).alloc (Nat.le_refl _) _) 1)).mono ?_; rintro e w5 ⟨k5, t5, a5, l5, c5, vr5, rfl, H5, hs5⟩; (first | (have hx5 := (H5.out.2.2.2.1 W3.heap.size (by omega) (by simp)).trans (hn_ W3 (.cells #[.int .i64 0, .int .u32 0, .slice none 0 0] 59)); have hcz := bc_ hx5; have hfz := fz_ hx5) | skip)))
  all_goals
    first
    | (have HM := hide (mid2 (k := k5) (t := t5) ⟨_, _, _, rfl⟩ HB3.out HG3.out HOB3.out HL3.out hN2 HLT.out hp (below_drewN ((Below.refl _ _).alloc (Nat.le_refl _) _) 1) (by simp) H5.out.2.1 H5.out.2.2.1 HBW.out hx5)
       unfold put3 at HM
       generalize ((w5.setCell ⟨W3.heap.size, 0, none⟩ (.int .i64 k5)).setCell ⟨W3.heap.size, 1, none⟩ (.int .u32 t5)).setCell ⟨W3.heap.size, 2, none⟩ (.slice a5 l5.length c5) = W6 at HM ⊢
       generalize W3.heap.size = X at HM ⊢)
    | (have HM := hide (mid1 (k := k5) (t := t5) HB3.out HG3.out HOB3.out HL3.out hN2 HLT.out hp (below_drewN (Below.refl _ W3) 1) H5.out.2.1 H5.out.2.2.1 HBW.out)
       generalize w5.alloc (.cells #[.int .i64 k5, .int .u32 t5, .slice a5 l5.length c5] 59) = W6 at HM ⊢
       generalize w5.heap.size = X at HM ⊢)
    have HEQ := hide H5.out.1
    clear H5 hs5
  all_goals
    have hp1 : (ps.set (pickN n ps.length) { p with vr := vr5, sx := (askS p.sr s).1 })[pickN n ps.length]? = some { p with vr := vr5, sx := (askS p.sr s).1 } := List.getElem?_set_self hpl
    clear hbx hcs
    have hbx := bc_ (HM.out.game.box _ (List.mem_of_getElem? hp1))
    simp only [ptrV] at hbx
    obtain ⟨hcs, -, -⟩ := HM.out.op.cells
    have HC2 : Hid (∀ W7, Below W6.heap.size W6 W7 → Calls Tryz.prog 53 #[.pointer (some ⟨p.rb, 0, none⟩), .string s] W7 fun e w8 => e = .returned (.tuple #[.agg #[.int .i64 k5, .int .u32 t5, .string (str l5)], .int .i64 (askS p.sr s).2.2]) ∧
        Hid (∃ V' cs', RefAt w8 p.rb (askS p.sr s).1 V' cs' ∧ Fr W7 w8 p.ro (V'.owns cs' p.rb)) ∧ (w8.cell? ⟨p.pb, 1, none⟩ = some (.pointer (some ⟨p.rb, 0, none⟩)) ∧ w8.cell? ⟨w.heap.size, 14, none⟩ = some (.string s))) := by
      intro W7 hb7
      refine (rAsk_any W7 p.rb p.sr p.V p.cs s ((HM.out.next hb7).game.ref { p with vr := vr5, sx := (askS p.sr s).1 } (List.mem_of_getElem? hp1)) HSK.out.ok hos).mono ?_
      rintro e w8 ⟨rfl, H8⟩
      obtain ⟨V', cs', h8, f8⟩ := H8.out
      have m8 := (mid3 (p := { p with vr := vr5, sx := (askS p.sr s).1 }) HM.out hp1 hb7 h8 f8).1
      have e1 := bc_ (m8.game.box _ (List.mem_of_getElem? (List.getElem?_set_self (by rw [List.length_set]; exact hpl))))
      exact ⟨by rw [HEQ.out]; rfl, ⟨V', cs', h8, f8⟩, (e1 1).trans rfl, m8.op.cells.1⟩
    have HKP : Hid (∀ (W7 w8 : World), Below W6.heap.size W6 W7 → (∃ V' cs', RefAt w8 p.rb (askS p.sr s).1 V' cs' ∧ Fr W7 w8 p.ro (V'.owns cs' p.rb)) → ∀ j, W6.heap.size ≤ j → j < W7.heap.size → ∀ o, W7.heap[j]? = some o → w8.heap[j]? = some o) := by
      intro W7 w8 hb7 h8 j h1 h2 o ho
      obtain ⟨V', cs', h8, f8⟩ := h8
      rw [f8.block j h2 (fun e => by have := HM.out.game.lt (.ref _) j ⟨_, hp1, e⟩; omega)]
      exact ho
    clear m1 m2 m3 m4
    have q1 := hl_ HM.out.box
    have q2 := HM.out.xlo
    have m1 : ¬ W6.heap.size = p.pb := by omega
    have m2 : ¬ p.pb = W6.heap.size := by omega
    have m3 : ¬ W6.heap.size = w.heap.size := by omega
    have m4 : ¬ w.heap.size = W6.heap.size := by omega
    go_wp2_with fail
    generalize hsl : str l5 = sl at HC2
    go_region_held3 (fun w' => w'.cell? ⟨p.pb, 1, none⟩ = some (.pointer (some ⟨p.rb, 0, none⟩)) ∧ w'.cell? ⟨w.heap.size, 14, none⟩ = some (.string s)) (first | (go_keep; done) | exact hs8) (first | (go_at_call 53; refine (HC2.out _ (by first | exact below_drewN (Below.refl _ _) 1 | exact below_drewN ((Below.refl _ _).alloc (Nat.le_refl _) _) 1)).mono ?_; rintro e w8 ⟨rfl, H8, hs8⟩; (first | (have hx8 := HKP.out _ w8 (below_drewN ((Below.refl _ _).alloc (Nat.le_refl _) _) 1) H8.out W6.heap.size (by simp) (by simp) _ (hn_ W6 (.cells #[.int .i64 0, .int .u32 0, .string ⟨#[]⟩] 111)); have hcz := bc_ hx8; have hfz := fz_ hx8) | skip)))
  all_goals
    obtain ⟨V8, cs8, h8, f8⟩ := H8.out
    clear hbx hcs hs8 m1 m2 m3 m4
    first
    | (have hm9 := mid3 (p := { p with vr := vr5, sx := (askS p.sr s).1 }) HM.out hp1 (below_drewN ((Below.refl _ _).alloc (Nat.le_refl _) (.cells #[.int .i64 0, .int .u32 0, .string ⟨#[]⟩] 111)) 1) h8 f8
       have HM9 := hide (hm9.1.put (r := W6.heap.size) ⟨by omega, by have := hl_ HM.out.lent; omega, (fun e => by have := (HM.out.own.lt _ e).2; omega), by omega⟩ (fun a e => by
         rcases hm9.2 a _ e with e | e
         · omega
         · rw [show (World.drewN (W6.alloc (.cells #[.int .i64 0, .int .u32 0, .string ⟨#[]⟩] 111)) 1).heap.size = W6.heap.size + 1 from as_ _ _] at e
           omega) (pg_ w8 W6.heap.size (.int .i64 k5) (.int .u32 t5) (.string sl)))
       have HY9 := hide (pb_ (.int .i64 k5) (.int .u32 t5) (.string sl) hx8)
       clear hcz hfz hx8 hm9
       unfold put3 at HM9 HY9
       generalize ((w8.setCell ⟨W6.heap.size, 0, none⟩ (.int .i64 k5)).setCell ⟨W6.heap.size, 1, none⟩ (.int .u32 t5)).setCell ⟨W6.heap.size, 2, none⟩ (.string sl) = W9 at HM9 HY9 ⊢
       generalize W6.heap.size = Y at HY9 ⊢)
    | (have hm9 := mid3 (p := { p with vr := vr5, sx := (askS p.sr s).1 }) HM.out hp1 (below_drewN (Below.refl _ W6) 1) h8 f8
       have HM9 := hide (hm9.1.next ((Below.refl _ _).alloc (Nat.le_refl _) (.cells #[.int .i64 k5, .int .u32 t5, .string sl] 111)))
       have HY9 := hide (hn_ w8 (.cells #[.int .i64 k5, .int .u32 t5, .string sl] 111))
       clear hm9
       generalize w8.alloc (.cells #[.int .i64 k5, .int .u32 t5, .string sl] 111) = W9 at HM9 HY9 ⊢
       generalize w8.heap.size = Y at HY9 ⊢)
    clear H8 h8 f8 HKP HC2 HM
    have hcx := bc_ HM9.out.box
    have hcy := bc_ HY9.out
    subst hsl
    go_wp2_with fail
  all_goals
    have hll := askS_len HEQ.out
    clear hcx hcy
    have q3 := hl_ HM9.out.lent
    have q4 := HM9.out.glo
    refine (answered_any W9 B ws U _ hs vh k5 t5 _ l5 a5 c5 (by omega) HM9.out.game.st HM9.out.own (fun i hi => ⟨by have := HM9.out.vlo i hi; have := HM9.out.bw; omega, fun hu => (HM9.out.free .law i (.inr (.inr (.inr (.inr hu))))).2.2.1 hi⟩) (by omega)).mono ?_
    rintro e y1 ⟨rfl, HY1⟩
    obtain ⟨w0, U1, hs1, vh1, hb0, K1⟩ := HY1.out
    have M0 := HM9.out.next hb0
    have hws : ∀ i, i = gb ∨ i = w.heap.size → i ≠ ws ∧ vh.ownBlock ≠ some i := fun i hi => by
      refine ⟨fun e => ?_, fun e => ?_⟩
      · have := M0.free .law i (.inl e)
        rcases hi with h | h
        · exact this.2.1 h
        · exact this.2.2.2 h
      · have := M0.free .law i (.inr (.inl e))
        rcases hi with h | h
        · exact this.2.1 h
        · exact this.2.2.2 h
    have G1 := hide (M0.game.keep K1 (fun i hi => by
      rcases hi with hi | hi | hi | hi
      · have hv := M0.vlo i hi
        have hlt := (M0.own.lt i hi).2
        have := M0.bw
        exact ⟨by omega, hlt, fun a e => (M0.free a i e).2.2.1 hi⟩
      · cases hi
      · cases hi
      · cases hi))
    have kp1 : ∀ i, i = gb ∨ i = w.heap.size → i < w0.heap.size → (Value.slice a5 l5.length c5).ownBlock ≠ some i → y1.heap[i]? = w0.heap[i]? := fun i h1 h2 h3 => K1.block i h2 (hws i h1).1 (hws i h1).2 h3 (by simp [Value.ownBlock]) (by simp [Value.ownBlock]) (by simp [Value.ownBlock])
    have HL1 := hide ((kp1 gb (.inl rfl) (hl_ M0.lent) (fun e => by have := M0.vlo gb e; omega)).trans M0.lent)
    have HO1 := hide (M0.op.at (kp1 w.heap.size (.inr rfl) M0.op.lt (fun e => by have := M0.vlo _ e; omega)))
    have HB1 := hide (M0.below.trans K1.below)
    have hlen1 := K1.len
    have HN1 : Hid (∀ a, ¬ Own ws _ vh1 U1 _ a gb) := fun a e => by
      rcases keep_own K1 e with e | e | e
      · exact (M0.free a gb e).2.1 rfl
      · have := M0.vlo gb e; omega
      · have := hl_ M0.lent; omega
    have HBW2 := hide M0.bw
    clear K1 hb0 HY1 M0 hws kp1 HM9 HY9
    obtain ⟨hcs, -, -⟩ := HO1.out.cells
    go_wp2_with fail
    refine (still_any y1 gb s hos HL1.out).mono ?_
    rintro e y2 ⟨rfl, n2, rfl⟩
    have hbd := below_drewN (Below.refl y1.heap.size y1) n2
    have G2 := hide (G1.out.below hbd)
    have HL2 := hide ((hbd.block _ (hl_ HL1.out)).trans HL1.out)
    have HB2' := hide (HB1.out.trans (hbd.mono G1.out.st.sz))
    clear hbd hcs
    generalize y1.drewN n2 = Y2 at G2 HL2 HB2' ⊢
    go_wp2_with fail
    refine (keepBox Y2 B ws U1 _ hs1 (newV gb (s.size + 8)) (.slice none 0 0) (.slice none 0 0) (.slice none 0 0) vh1 (s.size + 8) 0 0 0 (by omega) (by omega) (by omega) (by omega) (by omega) G2.out.st (.inl ⟨rfl, rfl, rfl⟩) ⟨_, lent_own hos HL2.out⟩ (own_nilx _ _ _) (own_nilx _ _ _) (own_nilx _ _ _) (new_free ⟨by have := HBW2.out; omega, fun hu => HN1.out .law (.inr (.inr (.inr (.inr hu))))⟩) nf_ nf_ nf_).mono ?_
    rintro e y3 ⟨rfl, U3, hs3, vh3, K3⟩
    have H3 := hide K3
    clear K3
    go_wp2_with fail
    go_ret
    have hlen3 := H3.out.len
    refine ⟨rfl, HB2'.out.trans H3.out.below, U3, hs3, vh3, _, G2.out.keep H3.out (fun i hi => ?_), ?_, by simp, by omega⟩
    · rcases hi with hi | hi | hi | hi
      · have hi' : gb = i := Option.some.inj hi
        subst hi'
        exact ⟨by have := HBW2.out; omega, hl_ HL2.out, HN1.out⟩
      · cases hi
      · cases hi
      · cases hi
    · intro q hq
      obtain ⟨j, hj⟩ := mem_get hq
      rcases get_set hj with ⟨_, rfl⟩ | ⟨_, hj⟩
      · exact ⟨rfl, ask_inv HSK.out s⟩
      · rcases get_set hj with ⟨h1, _⟩ | ⟨_, hj⟩
        · exfalso; simp_all
        · exact HE.out q (List.mem_of_getElem? hj)
end Go.Proofs.YtafoepfhepdcoaaGreat
