import Derived.Test.YtafoepfhepdcoaaGreatM9
import Derived.Test.YtafoepfhepdcoaaGreatM1
import Derived.Test.YtafoepfhepdcoaaGreatM2
import Derived.Lib.QuietBelow
set_option maxRecDepth 100000
set_option maxHeartbeats 8000000
namespace Go.Proofs.YtafoepfhepdcoaaGreat
open Go.RowKit Go.Trawl
structure St (B : Nat) (U : Nat → Prop) (w : World) (ws : Nat) (vps : Value) (hs : List Nat) (vh : Value) : Prop where
 world : WorldW B U w ws vps hs vh
 lt : ∀ k, U k → k < w.heap.size
 lo : B ≤ ws
 sz : B ≤ w.heap.size
theorem own_below {w w' : World} {e : TypeId} {sz : Nat} {v : Value} {n : Nat} {x : List Value} (h : w.ownsRow 0 e sz v n x) (hb : Below w.heap.size w w') : w'.ownsRow 0 e sz v n x :=
 h.kept (row := none) ⟨hb.os, hb.tape, hb.output, hb.size, fun k hk _ => hb.block k hk⟩ (by cases h1 : v.ownBlock <;> simp)
theorem St.below {B : Nat} {U : Nat → Prop} {w w' : World} {ws : Nat} {vps : Value} {hs : List Nat} {vh : Value} (h : St B U w ws vps hs vh) (hb : Below w.heap.size w w') : St B U w' ws vps hs vh := by
 refine ⟨⟨?_, own_below h.world.row hb, h.world.rowB, fun x hx => ?_⟩, fun k hk => Nat.lt_of_lt_of_le (h.lt k hk) hb.size, h.lo, Nat.le_trans h.sz hb.size⟩
 ·rw [hb.block ws (hl_ h.world.boxw)]; exact h.world.boxw
 ·exact (h.world.old x hx).move (fun _ h => h) fun k cs t hu _ hk => by rw [hb.block k (h.lt k hu)]; exact hk
structure Kept (B : Nat) (U : Nat → Prop) (w w' : World) (ws : Nat) (vps : Value) (hs : List Nat) (vb vr vq vc : Value) (U' : Nat → Prop) (hs' : List Nat) (vh vh' : Value) : Prop where
 st : St B U' w' ws vps hs' vh'
 len : hs'.length = hs.length + 4
 use : ∀ k, U' k → U k ∨ vb.ownBlock = some k ∨ vr.ownBlock = some k ∨ vq.ownBlock = some k ∨ vc.ownBlock = some k ∨ w.heap.size ≤ k
 below : Below B w w'
 loc : Go.Trawl.Loc w vh vh'
 block : ∀ k, k < w.heap.size → k ≠ ws → vh.ownBlock ≠ some k → vb.ownBlock ≠ some k → vr.ownBlock ≠ some k → vq.ownBlock ≠ some k → vc.ownBlock ≠ some k → w'.heap[k]? = w.heap[k]?
 own : ∀ (e : TypeId) (sz : Nat) (v : Value) (n : Nat) (x : List Value), w.ownsRow 0 e sz v n x → e ≠ 84 → e ≠ 119 →
  (∀ k, v.ownBlock = some k → vb.ownBlock ≠ some k ∧ vr.ownBlock ≠ some k ∧ vq.ownBlock ≠ some k ∧ vc.ownBlock ≠ some k) → w'.ownsRow 0 e sz v n x
theorem keepBox (w : World) (B ws : Nat) (U : Nat → Prop) (vps : Value) (hs : List Nat) (vb vr vq vc vh : Value) (lb lr lq lc : Nat) (hl : hs.length ≤ 99999990) (b1 : lb ≤ 4194300) (b2 : lr ≤ 4194300) (b3 : lq ≤ 4194300) (b4 : lc ≤ 4194300)
  (hst : St B U w ws vps hs vh) (hone : One vb vr vq vc)
  (ob : ∃ x, w.ownsRow 0 5 1 vb lb x) (or : ∃ x, w.ownsRow 0 54 1 vr lr x) (oq : ∃ x, w.ownsRow 0 41 3 vq lq x) (oc : ∃ x, w.ownsRow 0 69 5 vc lc x)
  (nb : ∀ k, vb.ownBlock = some k → B ≤ k ∧ ¬ U k) (nr : ∀ k, vr.ownBlock = some k → B ≤ k ∧ ¬ U k) (nq : ∀ k, vq.ownBlock = some k → B ≤ k ∧ ¬ U k) (nc : ∀ k, vc.ownBlock = some k → B ≤ k ∧ ¬ U k) :
  Calls Tryz.prog 58 #[ptrV ws, ptrV w.heap.size] (w.alloc (.cells #[vb, vr, vq, vc, .int .i64 0] 121)) fun e w' =>
   e = .returned (.tuple #[]) ∧ ∃ U' hs' vh', Kept B U w w' ws vps hs vb vr vq vc U' hs' vh vh' := by
 have hbl : Below w.heap.size w (w.alloc (.cells #[vb, vr, vq, vc, .int .i64 0] 121)) := (Below.refl _ _).alloc (Nat.le_refl _) _
 have hs1 := hst.below hbl
 have hH : HoldP (w.alloc (.cells #[vb, vr, vq, vc, .int .i64 0] 121)) w.heap.size vb vr vq vc 0 lb lr lq lc := by
  refine ⟨hn_ _ _, ?_, ?_, ?_, ?_⟩
  ·obtain ⟨x, hx⟩ := ob; exact ⟨x, hx.alloc _⟩
  ·obtain ⟨x, hx⟩ := or; exact ⟨x, hx.alloc _⟩
  ·obtain ⟨x, hx⟩ := oq; exact ⟨x, hx.alloc _⟩
  ·obtain ⟨x, hx⟩ := oc; exact ⟨x, hx.alloc _⟩
 have hP : KPre (w.alloc (.cells #[vb, vr, vq, vc, .int .i64 0] 121)) B ws U w.heap.size vb vr vq vc :=
  ⟨hst.lo, hst.sz, nb, nr, nq, nc, fun h => Nat.lt_irrefl _ (hst.lt _ h), hs1.lt, hs1.sz⟩
 refine (keep_any _ B ws U vps hs w.heap.size vb vr vq vc vh lb lr lq lc hl b1 b2 b3 b4 hs1.world hP hone hH).mono ?_
 rintro e w' ⟨rfl, hsn, G, x0, x1, x2, x3, vh', hlen, K, F⟩
 refine ⟨rfl, _, _, _, ⟨K.world, fun k hk => hk.2, hst.lo, Nat.le_trans hs1.sz K.below.size⟩, by simp [hlen], ?_, (hbl.mono hst.sz).trans K.below, ?_, ?_, ?_⟩
 ·rintro k ⟨h | h, _⟩
  ·exact .inl h
  ·rcases h with h | h | h | h | h | h
   ·exact .inr (.inr (.inr (.inr (.inr (by omega)))))
   ·exact .inr (.inl h)
   ·exact .inr (.inr (.inl h))
   ·exact .inr (.inr (.inr (.inl h)))
   ·exact .inr (.inr (.inr (.inr (.inl h))))
   ·rw [as_] at h; exact .inr (.inr (.inr (.inr (.inr (by omega)))))
 ·rcases F.loc with e | ⟨i, e, hi⟩
  ·exact .inl e
  ·rw [as_] at hi; exact .inr ⟨i, e, by omega⟩
 ·intro k hk n1 n3 n4 n5 n6 n7
  rw [F.block k (by rw [as_]; omega) n1 (by omega) n3 n4 n5 n6 n7, Below.heap_alloc w _ k hk]
 ·intro e sz v n x ho n1 n2 hne
  refine ⟨ho.1, ?_⟩
  rcases ho.2 with h2 | ⟨g, cap, cur, h3, h4, h5, r⟩
  ·exact .inl h2
  ·subst h3
   obtain ⟨m1, m2, m3, m4⟩ := hne g rfl
   have hlt := hl_ h5
   exact .inr ⟨g, cap, cur, rfl, h4, K.frame g cur e (heap_old h5 _) n1 n2 (by omega) m1 m2 m3 m4, r⟩
structure Went (w w' : World) (ws : Nat) (T U U' : Nat → Prop) (vh vh' : Value) : Prop where
 os : w'.os = w.os
 tape : w'.tape = w.tape
 output : w'.output = w.output
 size : w.heap.size ≤ w'.heap.size
 block : ∀ k, k < w.heap.size → k ≠ ws → vh.ownBlock ≠ some k → ¬ T k → w'.heap[k]? = w.heap[k]?
 use : ∀ k, U' k → U k ∨ w.heap.size ≤ k
 loc : ∀ k, vh'.ownBlock = some k → vh.ownBlock = some k ∨ w.heap.size ≤ k
theorem Went.of_below {w w' : World} {ws : Nat} {T U : Nat → Prop} {vh : Value} (h : Below w.heap.size w w') : Went w w' ws T U U vh vh :=
 ⟨h.os, h.tape, h.output, h.size, fun k hk _ _ _ => h.block k hk, fun _ h => .inl h, fun _ h => .inl h⟩
theorem Went.after {w w1 w' : World} {ws : Nat} {T U U' : Nat → Prop} {vh vh' : Value} (h : Below w.heap.size w w1) (k : Went w1 w' ws T U U' vh vh') : Went w w' ws T U U' vh vh' :=
 ⟨k.os.trans h.os, k.tape.trans h.tape, k.output.trans h.output, Nat.le_trans h.size k.size, fun i hi n1 n2 n3 => (k.block i (Nat.lt_of_lt_of_le hi h.size) n1 n2 n3).trans (h.block i hi),
  fun i hi => (k.use i hi).imp id (Nat.le_trans h.size), fun i hi => (k.loc i hi).imp id (Nat.le_trans h.size)⟩
theorem Went.below {w w1 w' : World} {ws : Nat} {T U U' : Nat → Prop} {vh vh' : Value} (h : Went w w1 ws T U U' vh vh') (k : Below w1.heap.size w1 w') : Went w w' ws T U U' vh vh' :=
 ⟨k.os.trans h.os, k.tape.trans h.tape, k.output.trans h.output, Nat.le_trans h.size k.size, fun i hi n1 n2 n3 => (k.block i (Nat.lt_of_lt_of_le hi h.size)).trans (h.block i hi n1 n2 n3), h.use, h.loc⟩
theorem Went.trans {w w1 w' : World} {ws : Nat} {T U U1 U' : Nat → Prop} {vh vh1 vh' : Value} (h : Went w w1 ws T U U1 vh vh1) (k : Went w1 w' ws T U1 U' vh1 vh') : Went w w' ws T U U' vh vh' := by
 refine ⟨k.os.trans h.os, k.tape.trans h.tape, k.output.trans h.output, Nat.le_trans h.size k.size, fun i hi n1 n2 n3 => ?_, fun i hi => ?_, fun i hi => ?_⟩
 ·rw [k.block i (Nat.lt_of_lt_of_le hi h.size) n1 (fun e => by
   rcases h.loc i e with e | e
   ·exact n2 e
   ·omega) n3]
  exact h.block i hi n1 n2 n3
 ·rcases k.use i hi with e | e
  ·exact h.use i e
  ·exact .inr (Nat.le_trans h.size e)
 ·rcases k.loc i hi with e | e
  ·exact h.loc i e
  ·exact .inr (Nat.le_trans h.size e)
theorem Went.keep {w0 w w' : World} {B ws : Nat} {T U U1 U' : Nat → Prop} {vps : Value} {hs hs' : List Nat} {vb vr vq vc vh vh1 vh' : Value} (h : Went w0 w ws T U U1 vh vh1) (K : Kept B U1 w w' ws vps hs vb vr vq vc U' hs' vh1 vh')
  (nb : ∀ k, vb.ownBlock = some k → w0.heap.size ≤ k) (nr : ∀ k, vr.ownBlock = some k → w0.heap.size ≤ k) (nq : ∀ k, vq.ownBlock = some k → w0.heap.size ≤ k) (nc : ∀ k, vc.ownBlock = some k → w0.heap.size ≤ k) : Went w0 w' ws T U U' vh vh' := by
 refine ⟨K.below.os.trans h.os, K.below.tape.trans h.tape, K.below.output.trans h.output, Nat.le_trans h.size K.below.size, fun i hi n1 n2 n3 => ?_, fun i hi => ?_, fun i hi => ?_⟩
 ·rw [K.block i (Nat.lt_of_lt_of_le hi h.size) n1 (fun e => by
   rcases h.loc i e with e | e
   ·exact n2 e
   ·omega) (fun e => by have := nb i e; omega) (fun e => by have := nr i e; omega) (fun e => by have := nq i e; omega) (fun e => by have := nc i e; omega)]
  exact h.block i hi n1 n2 n3
 ·rcases K.use i hi with e | e | e | e | e | e
  ·exact h.use i e
  ·exact .inr (nb i e)
  ·exact .inr (nr i e)
  ·exact .inr (nq i e)
  ·exact .inr (nc i e)
  ·exact .inr (Nat.le_trans h.size e)
 ·rcases loc_new K.loc i hi with e | e
  ·exact h.loc i e
  ·exact .inr (Nat.le_trans h.size e)
theorem und_bytes' : Tryz.prog.underlying 32 = some (.slice 5) := by kernel_rfl
theorem und_u8' : Tryz.prog.underlying 5 = some (.int .u8) := by kernel_rfl
theorem und_string' : Tryz.prog.underlying 9 = some .string := by kernel_rfl
def str (l : List UInt8) : ByteArray := ⟨l.toArray⟩
theorem conv2 (w : World) (a b : Int) : (convert 32 9 (.slice (some ⟨w.heap.size, 0, none⟩) 2 2)).run Tryz.prog (w.alloc (.cells #[.int .u8 a, .int .u8 b] 5)) = .ok (.string (str [UInt8.ofNat a.toNat, UInt8.ofNat b.toNat])) (w.alloc (.cells #[.int .u8 a, .int .u8 b] 5)) := by
 rw [run_convert_bytes_string _ _ _ 5 _ _ _ und_bytes' und_u8' und_string']
 refine run_bytesToString _ _ 2 2 [a, b] ?_
 exact run_loadCells_list _ ⟨w.heap.size, 0, none⟩ [.int .u8 a, .int .u8 b] (cell_two_new _ _ _ _)
theorem two_any (n : Int) (h0 : 0 ≤ n) (h1 : n ≤ 4194304) (w : World) :
  Calls Tryz.prog 46 #[.int .i64 n] w fun e w' => e = .returned (.string (str (two n))) ∧ Below w.heap.size w w' := by
 have hc := conv2 w
 go_enter Tryz.func46, Tryz.ntmps46
 go_wp2
 go_ret
 exact ⟨rfl, (Below.refl _ _).alloc (Nat.le_refl _) _⟩
theorem str_append (a b : List UInt8) : str a ++ str b = str (a ++ b) := by
 apply ByteArray.ext
 simp [str]
theorem str_size (a : List UInt8) : (str a).size = a.length := rfl
theorem tdiv32 {n : Int} (h0 : 0 ≤ n) (h1 : n ≤ 4294967295) : n.tdiv 65536 % 4294967296 = n / 65536 := by
 rw [Int.tdiv_eq_ediv_of_nonneg h0]; omega
theorem four_any (n : Int) (h0 : 0 ≤ n) (h1 : n ≤ 4294967295) (w : World) :
  Calls Tryz.prog 49 #[.int .u32 n] w fun e w' => e = .returned (.string (str (two (n / 65536) ++ two (n % 65536)))) ∧ Below w.heap.size w w' := by
 have H1 : Hid (n ≤ 4294967295) := h1
 clear h1
 go_enter Tryz.func49, Tryz.ntmps49
 go_wp2_with fail
 rw [tdiv32 h0 H1.out]
 refine (two_any _ (by omega) (by have := H1.out; omega) _).mono ?_
 rintro e w1 ⟨rfl, hb1⟩
 have hz1 := hb1.size
 go_wp2_with fail
 refine (two_any _ (by omega) (by omega) _).mono ?_
 rintro e w2 ⟨rfl, hb2⟩
 have hs1 : (str (two (n / 65536))).size = 2 := rfl
 have hs2 : (str (two (n % 65536))).size = 2 := rfl
 go_wp2_with fail
 go_ret
 exact ⟨by rw [← str_append]; rfl, hb1.trans (hb2.mono (by omega))⟩
end Go.Proofs.YtafoepfhepdcoaaGreat
