import Derived.Test.YtafoepfhepdcoaaGreatProg
import Derived.WalkKit
import Derived.WalkSpells
import Derived.WalkLawsBesides
import Derived.Outline
import Derived.Lib.AppendStr
set_option maxRecDepth 100000
set_option maxHeartbeats 8000000
namespace Go.Trawl
structure Qn where
 name : ByteArray
 kind : Int
 cls : Int
structure Rc where
 name : ByteArray
 kind : Int
 cls : Int
 ttl : Int
 data : ByteArray
structure Msg where
 id : Int
 resp : Bool
 op : Int
 own : Bool
 cut : Bool
 wanted : Bool
 able : Bool
 code : Int
 qs : List Qn
 an : List Rc
 au : List Rc
 ex : List Rc
def at8 (s : ByteArray) (k : Nat) : Nat := (s.data.getD k 0).toNat
def beh (s : ByteArray) : Nat → Nat → Nat
 | 0, k => k
 | n + 1, k => if k < s.size ∧ 0 < at8 s k ∧ at8 s k ≤ 63 then beh s n (k + 1 + at8 s k) else k
def behind (s : ByteArray) (k : Nat) : Nat := beh s (s.size + 1 - k) k
def nameB (s : ByteArray) : Bool := decide (s.size ≤ 255 ∧ behind s 0 + 1 = s.size ∧ at8 s (behind s 0) = 0)
theorem at8_eq (s : ByteArray) (k : Nat) (h : k < s.size) : s[k].toNat = at8 s k := by
 have h' : k < s.data.size := h
 have e : s.data.getD k 0 = s.data[k] := by
  rw [Array.getD_eq_getD_getElem?, Array.getElem?_eq_getElem h']; rfl
 unfold at8
 rw [e]
 rfl
theorem beh_enough (s : ByteArray) : ∀ n m k, s.size + 1 - k ≤ n → s.size + 1 - k ≤ m → beh s n k = beh s m k
 | 0, 0, k, _, _ => rfl
 | 0, m + 1, k, h, _ => by
  unfold beh; rw [if_neg (by omega)]
 | n + 1, 0, k, _, h => by
  unfold beh; rw [if_neg (by omega)]
 | n + 1, m + 1, k, h, h' => by
  unfold beh
  split
  ·exact beh_enough s n m _ (by omega) (by omega)
  ·rfl
theorem behind_next (s : ByteArray) (k : Nat) (h : k < s.size) (h1 : 0 < at8 s k) (h2 : at8 s k ≤ 63) : behind s k = behind s (k + 1 + at8 s k) := by
 unfold behind
 have : s.size + 1 - k = (s.size - k) + 1 := by omega
 rw [this]
 conv => lhs; unfold beh
 rw [if_pos ⟨h, h1, h2⟩]
 exact beh_enough s _ _ _ (by omega) (by omega)
theorem behind_stop (s : ByteArray) (k : Nat) (h : ¬ (k < s.size ∧ 0 < at8 s k ∧ at8 s k ≤ 63)) : behind s k = k := by
 unfold behind
 cases s.size + 1 - k with
 | zero => rfl
 | succ n => unfold beh; rw [if_neg h]
theorem le_beh (s : ByteArray) : ∀ n k, k ≤ beh s n k
 | 0, k => Nat.le_refl _
 | n + 1, k => by
  unfold beh
  split
  ·have := le_beh s n (k + 1 + at8 s k); omega
  ·exact Nat.le_refl _
def two (n : Int) : List UInt8 := [UInt8.ofNat (n / 256 % 256).toNat, UInt8.ofNat (n % 256).toNat]
def bit (b : Bool) (n : Int) : Int := if b then n else 0
def flags (m : Msg) : Int := bit m.resp 32768 + 2048 * m.op + bit m.own 1024 + bit m.cut 512 + bit m.wanted 256 + bit m.able 128 + m.code
def head (m : Msg) : List UInt8 := two m.id ++ two (flags m) ++ two m.qs.length ++ two m.an.length ++ two m.au.length ++ two m.ex.length
def qbytes (q : Qn) : List UInt8 := q.name.data.toList ++ two q.kind ++ two q.cls
def rbytes (r : Rc) : List UInt8 := r.name.data.toList ++ two r.kind ++ two r.cls ++ two (r.ttl / 65536) ++ two (r.ttl % 65536) ++ two r.data.size ++ r.data.data.toList
def named (k : Int) : Bool := decide (k = 2 ∨ k = 5)
def okQ (q : Qn) : Bool := nameB q.name
def okR (r : Rc) : Bool := nameB r.name && (!named r.kind || nameB r.data)
def recs (m : Msg) : List Rc := m.an ++ m.au ++ m.ex
def body (m : Msg) : List UInt8 := m.qs.flatMap qbytes ++ (recs m).flatMap rbytes
def inRange (m : Msg) : Bool := decide (0 ≤ m.op ∧ m.op ≤ 15 ∧ 0 ≤ m.code ∧ m.code ≤ 15)
def packOk (m : Msg) : Bool := inRange m && m.qs.all okQ && (recs m).all okR && decide (12 + (body m).length ≤ 512)
def pack (m : Msg) : List UInt8 := head m ++ body m
theorem length_two (n : Int) : (two n).length = 2 := rfl
theorem length_head (m : Msg) : (head m).length = 12 := rfl
theorem length_qbytes (q : Qn) : (qbytes q).length = q.name.size + 4 := by
 simp [qbytes, length_two]
theorem length_rbytes (r : Rc) : (rbytes r).length = r.name.size + 10 + r.data.size := by
 simp [rbytes, length_two]; omega
theorem nameB_size {s : ByteArray} (h : nameB s = true) : 1 ≤ s.size ∧ s.size ≤ 255 := by
 unfold nameB at h
 have := of_decide_eq_true h
 omega
end Go.Trawl
namespace Go.Proofs.YtafoepfhepdcoaaGreat
open Go.RowKit Go.Trawl
theorem ret_bool {a b : Bool} (h : a = b) : Ending.returned (.bool a) = .returned (.bool b) := by rw [h]
theorem ret_int {k : IntKind} {a b : Int} (h : a = b) : Ending.returned (.int k a) = .returned (.int k b) := by rw [h]
theorem named_or (n : Int) : (n == 2 || n == 5) = named n := by
 unfold named
 by_cases h : n = 2 <;> by_cases h' : n = 5 <;> simp [h, h']
theorem isNameType_any (n : Int) (w : World) :
  Calls Tryz.prog 141 #[.int .u16 n] w fun e w' => e = .returned (.bool (named n)) ∧ w' = w := by
 have hn := named_or n
 have Hn : Hid ((n == 2 || n == 5) = named n) := hn
 clear hn
 go_enter Tryz.func141, Tryz.ntmps141
 go_wp2
 ·go_ret
  exact ⟨ret_bool (by rw [← Hn.out]; simp [*]), rfl⟩
 ·go_ret
  exact ⟨ret_bool Hn.out, rfl⟩
theorem lab_next {s : ByteArray} {k : Nat} (h : k < s.size) (h1 : 0 < s[k].toNat) (h2 : (s[k].toNat : Int) ≤ 63) : behind s k = behind s (k + 1 + s[k].toNat) := by
 rw [at8_eq s k h] at *
 exact behind_next s k h h1 (by omega)
theorem lab_stop1 {s : ByteArray} {k : Nat} (h : k < s.size) (h2 : 63 < (s[k].toNat : Int)) : behind s k = k := by
 rw [at8_eq s k h] at *
 exact behind_stop s k (by omega)
theorem lab_stop2 {s : ByteArray} {k : Nat} (h : k < s.size) (h2 : ¬ 0 < s[k].toNat) : behind s k = k := by
 rw [at8_eq s k h] at *
 exact behind_stop s k (by omega)
theorem lab_stop3 {s : ByteArray} {k : Nat} (h : ¬ k < s.size) : behind s k = k := behind_stop s k (by omega)
theorem name_no {s : ByteArray} {k : Nat} (hb : behind s 0 = k) (h : ¬ (k : Int) = (s.size : Int) - 1) : nameB s = false := by
 unfold nameB
 rw [hb]
 simp only [decide_eq_false_iff_not]
 omega
theorem name_long {s : ByteArray} (h : ¬ s.size ≤ 255) : nameB s = false := by
 unfold nameB
 simp only [decide_eq_false_iff_not]
 omega
theorem name_yes {s : ByteArray} {k : Nat} (hb : behind s 0 = k) (hs : s.size ≤ 255) (hk : (k : Int) = (s.size : Int) - 1) (h : s.size - 1 < s.size) : ((s[s.size - 1].toNat : Int) == 0) = nameB s := by
 rw [at8_eq s (s.size - 1) h]
 have e : s.size - 1 = behind s 0 := by omega
 unfold nameB
 rw [e]
 by_cases h0 : at8 s (behind s 0) = 0
 ·simp [h0]; omega
 ·have : ¬ ((at8 s (behind s 0) : Int) = 0) := by omega
  simp [h0]
end Go.Proofs.YtafoepfhepdcoaaGreat
namespace Go.Trawl
open Go.RowKit
theorem hide {p : Prop} (h : p) : Hid p := h
theorem unhide {p : Prop} (h : Hid p) : p := h
def bytesV (l : List UInt8) : List Value := l.map fun b => .int .u8 (b.toNat : Int)
theorem bytesV_append (a b : List UInt8) : bytesV (a ++ b) = bytesV a ++ bytesV b := List.map_append
theorem bytesV_length (a : List UInt8) : (bytesV a).length = a.length := List.length_map _
theorem strCells_bytesV (s : ByteArray) : Lib.strCells s = bytesV s.data.toList := rfl
theorem ofNat_toNat {n : Nat} (h : n < 256) : (UInt8.ofNat n).toNat = n := by
 simp [Nat.mod_eq_of_lt h]
theorem two_cells (x : Int) : bytesV (two x) = [.int .u8 (x / 256 % 256), .int .u8 (x % 256)] := by
 have h1 : (x / 256 % 256).toNat < 256 := by omega
 have h2 : (x % 256).toNat < 256 := by omega
 simp only [bytesV, two, List.map_cons, List.map_nil, ofNat_toNat h1, ofNat_toNat h2]
 congr 2
 ·omega
 ·congr 2; omega
theorem two_cells' {x : Int} (h0 : 0 ≤ x) (h1 : x ≤ 65535) : bytesV (two x) = [.int .u8 (x / 256), .int .u8 (x % 256)] := by
 rw [two_cells x]
 have : x / 256 % 256 = x / 256 := by omega
 rw [this]
def Loc (w : World) (v v' : Value) : Prop := v'.ownBlock = v.ownBlock ∨ ∃ k, v'.ownBlock = some k ∧ w.heap.size ≤ k
structure Grew (e : TypeId) (sz : Nat) (w w' : World) (v v' : Value) (n' : Nat) (xs' : List Value) : Prop where
 own : w'.ownsRow 0 e sz v' n' xs'
 grown : w.grownBy w' v.ownBlock
 loc : Loc w v v'
theorem grownBy_refl (w : World) (r : Option Nat) : w.grownBy w r := ⟨rfl, rfl, rfl, Nat.le_refl _, fun _ _ _ => rfl⟩
theorem grownBy_drew (w : World) (r : Option Nat) : w.grownBy w.drew r := ⟨rfl, rfl, rfl, Nat.le_refl _, fun _ _ _ => rfl⟩
theorem grownBy_drewN (w : World) (n : Nat) (r : Option Nat) : w.grownBy (w.drewN n) r := ⟨rfl, rfl, rfl, Nat.le_refl _, fun _ _ _ => rfl⟩
theorem grownBy_trans {a b c : World} {r : Option Nat} (h : a.grownBy b r) (k : b.grownBy c r) : a.grownBy c r :=
 ⟨k.os.trans h.os, k.tape.trans h.tape, k.output.trans h.output, Nat.le_trans h.size k.size, fun i hi hr => (k.block i (Nat.lt_of_lt_of_le hi h.size) hr).trans (h.block i hi hr)⟩
theorem grownBy_trans' {a b c : World} {r r' : Option Nat} (h : a.grownBy b r) (k : b.grownBy c r') (hr : r' = r ∨ ∃ j, r' = some j ∧ a.heap.size ≤ j) : a.grownBy c r :=
 ⟨k.os.trans h.os, k.tape.trans h.tape, k.output.trans h.output, Nat.le_trans h.size k.size, fun i hi hne => (k.block i (Nat.lt_of_lt_of_le hi h.size) (by
  rcases hr with rfl | ⟨j, rfl, hj⟩
  ·exact hne
  ·intro e; have := Option.some.inj e; omega)).trans (h.block i hi hne)⟩
theorem grownBy_none {a b : World} {r : Option Nat} (h : a.grownBy b none) : a.grownBy b r :=
 ⟨h.os, h.tape, h.output, h.size, fun i hi _ => h.block i hi (by simp)⟩
theorem grownBy_below {a b : World} (h : Below a.heap.size a b) (r : Option Nat) : a.grownBy b r :=
 ⟨h.os, h.tape, h.output, h.size, fun i hi _ => h.block i hi⟩
theorem below_grownBy {a b : World} (h : a.grownBy b none) : Below a.heap.size a b :=
 ⟨h.os, h.tape, h.output, h.size, fun i hi => h.block i hi (by simp)⟩
theorem Grew.trans {e : TypeId} {sz : Nat} {w w1 w2 : World} {v v1 v2 : Value} {n1 n2 : Nat} {x1 x2 : List Value} (h : Grew e sz w w1 v v1 n1 x1) (k : Grew e sz w1 w2 v1 v2 n2 x2) : Grew e sz w w2 v v2 n2 x2 := by
 refine ⟨k.own, grownBy_trans' h.grown k.grown h.loc, ?_⟩
 rcases k.loc with e1 | ⟨j, e1, hj⟩
 ·rcases h.loc with e2 | ⟨i, e2, hi⟩
  ·exact .inl (e1.trans e2)
  ·exact .inr ⟨i, e1.trans e2, hi⟩
 ·exact .inr ⟨j, e1, Nat.le_trans h.grown.size hj⟩
theorem Grew.pre {e : TypeId} {sz : Nat} {w0 w w' : World} {v v' : Value} {n' : Nat} {x' : List Value} (hb : w0.grownBy w v.ownBlock) (h : Grew e sz w w' v v' n' x') : Grew e sz w0 w' v v' n' x' := by
 refine ⟨h.own, grownBy_trans hb h.grown, ?_⟩
 rcases h.loc with e1 | ⟨j, e1, hj⟩
 ·exact .inl e1
 ·exact .inr ⟨j, e1, Nat.le_trans hb.size hj⟩
theorem Grew.post {e : TypeId} {sz : Nat} {w w1 w2 : World} {v v' : Value} {n' : Nat} {x' : List Value} (h : Grew e sz w w1 v v' n' x') (hb : w1.grownBy w2 none) : Grew e sz w w2 v v' n' x' :=
 ⟨h.own.kept hb (by cases h1 : v'.ownBlock <;> simp), grownBy_trans h.grown (grownBy_none hb), h.loc⟩
theorem Grew.keeps {e : TypeId} {sz : Nat} {w w' : World} {v v' : Value} {n : Nat} {x : List Value} (h : Grew e sz w w' v v' n x) {b : Nat} (hb : b < w.heap.size) (hv : v.ownBlock ≠ some b) : w'.heap[b]? = w.heap[b]? ∧ v'.ownBlock ≠ some b ∧ b < w'.heap.size := by
 refine ⟨h.grown.block b hb (Ne.symm hv), ?_, Nat.lt_of_lt_of_le hb h.grown.size⟩
 rcases h.loc with e1 | ⟨j, e1, hj⟩
 ·rw [e1]; exact hv
 ·rw [e1]; intro e2; have := Option.some.inj e2; omega
theorem cell_of_heap {w w' : World} {b : Nat} (h : w'.heap[b]? = w.heap[b]?) {o : Nat} {v : Value} (hc : w.cell? ⟨b, o, none⟩ = some v) : w'.cell? ⟨b, o, none⟩ = some v := by
 rw [World.cell?_of_block (w := w) (a := ⟨b, o, none⟩) h]; exact hc
theorem Grew.below {e : TypeId} {sz : Nat} {w w' : World} {v v' : Value} {n : Nat} {x : List Value} {B : Nat} (h : Grew e sz w w' v v' n x) (hB : B ≤ w.heap.size) (hv : ∀ k, v.ownBlock = some k → B ≤ k) : Below B w w' ∧ (∀ k, v'.ownBlock = some k → B ≤ k) := by
 refine ⟨⟨h.grown.os, h.grown.tape, h.grown.output, h.grown.size, fun k hk => h.grown.block k (by omega) fun e1 => ?_⟩, fun k hk => ?_⟩
 ·have := hv k e1.symm; omega
 ·rcases h.loc with e1 | ⟨j, e1, hj⟩
  ·exact hv k (by rw [← e1]; exact hk)
  ·rw [e1] at hk; have := Option.some.inj hk; omega
theorem own_base {w : World} {e : TypeId} {sz : Nat} {v : Value} {n : Nat} {x : List Value} {B : Nat} (h : w.ownsRow 0 e sz v n x) (hv : ∀ k, v.ownBlock = some k → B ≤ k) : w.ownsRow B e sz v n x := by
 refine ⟨h.1, ?_⟩
 rcases h.2 with h2 | ⟨g, cap, cur, rfl, _, r⟩
 ·exact .inl h2
 ·exact .inr ⟨g, cap, cur, rfl, hv g rfl, r⟩
theorem box_cells {w : World} {b : Nat} {cs : Array Value} {t : TypeId} (h : w.heap[b]? = some (.cells cs t)) : ∀ o, w.cell? ⟨b, o, none⟩ = cs[o]? := by
 intro o
 simp [World.cell?, h]
theorem heap_new (w : World) (o : Obj) : (w.alloc o).heap[w.heap.size]? = some o := by
 show (w.heap.push o)[w.heap.size]? = _
 simp
theorem alloc_drewN (A : World) (o : Obj) (n : Nat) : (A.drewN n).alloc o = (A.alloc o).drewN n := rfl
theorem alloc_size (w : World) (o : Obj) : (w.alloc o).heap.size = w.heap.size + 1 := Array.size_push _
theorem own_ne {w : World} {base : Nat} {e : TypeId} {sz : Nat} {v : Value} {n : Nat} {x : List Value} (h : w.ownsRow base e sz v n x) {b : Nat} (hb : w.heap.size ≤ b) : v.ownBlock ≠ some b := by
 intro e1
 have := (h.lt b e1).2
 omega
theorem Grew.refl {e : TypeId} {sz : Nat} {w : World} {v : Value} {n : Nat} {x : List Value} (h : w.ownsRow 0 e sz v n x) : Grew e sz w w v v n x := ⟨h, grownBy_refl _ _, .inl rfl⟩
section
variable {P : Program} (w : World)
theorem append_grew (t ty e : TypeId) (i : TypeInfo) (z : Value) (size bytes : Nat) (ht : P.underlying t = some (.slice e)) (hi : P.info? e = some i) (hz : i.zero = some z)
  (hsize : i.size = size) (hby : i.bytes = bytes) (hzs : z.cells.size = size) (hsz : 0 < size)
  (v : Value) (n : Nat) (xs : List Value) (hown : w.ownsRow 0 e size v n xs)
  (a : Addr) (m c : Nat) (news : List Value) (hl : news.length = m * size) (hnews : ∀ j u, news[j]? = some u → w.cell? (a.add j) = some u) (h1 : ∀ u ∈ news, u.oneCell' = true)
  (h63 : n + m ≤ maxLen) (hbytes : (n + m) * bytes ≤ 140737488355328) :
  ∃ v' w', (Builtin.append_ #[t, t] ty #[v, .slice (some a) m c]).run P w = .ok v' w' ∧ Grew e size w w' v v' (n + m) (xs ++ news) := by
 obtain ⟨v', w', hr, ho, hg, hnil⟩ := run_append_own (P := P) w 0 t ty e i z size bytes ht hi hz hsize hby hzs hsz v n xs hown a m c news hl hnews h1 h63 hbytes (Nat.zero_le _)
 refine ⟨v', w', hr, ho, hg, ?_⟩
 rcases hown.2 with ⟨rfl, rfl⟩ | ⟨g, cap, cur, rfl, _, hgc, hnc, hcm, hcs, htake⟩
 ·by_cases hm : m = 0
  ·have := hnil.2 ⟨rfl, hm⟩
   subst this
   exact .inl rfl
  ·have h := run_append_nil (P := P) w t ty e i z ht hi hz a m c news (by rw [hsize]; exact hl) hnews (by omega) (by unfold maxLen at h63; omega) (by rw [hby]; rw [Nat.zero_add] at hbytes; omega)
   rw [h] at hr
   injection hr with h2 h3
   exact .inr ⟨w.heap.size, by rw [← h2]; rfl, Nat.le_refl _⟩
 ·by_cases hroom : n + m ≤ cap
  ·obtain ⟨w2, h, _⟩ := run_append_fits (P := P) w 0 t ty e i size ht hi hsize g n cap xs hown a m c news hl hnews h1 hroom
   rw [h] at hr
   injection hr with h2 h3
   exact .inl (by rw [← h2]; rfl)
  ·have hxl : xs.length = n * size := hown.1
   obtain ⟨v2, w2, h, ho2, _⟩ := run_append_arg_grows (P := P) w t ty e i z size bytes ht hi hz hsize hby hzs hsz ⟨g, 0, none⟩ n cap xs hxl (fun j u hj => by
    have := hown.cells (g := g) rfl j u hj
    exact this) a m c news hl hnews (by omega) h63 hbytes
   rw [h] at hr
   injection hr with h2 h3
   subst h2
   rcases ho2.2 with ⟨_, hn0⟩ | ⟨g2, cap2, cur2, e2, hg2, _⟩
   ·omega
   ·exact .inr ⟨g2, by rw [e2]; rfl, hg2⟩
theorem append_grew_string (t u ty e : TypeId) (i : TypeInfo) (ht : P.underlying t = some (.slice e)) (hu : P.underlying u = some .string) (hi : P.info? e = some i) (hz : i.zero = some (.int .u8 0))
  (hsize : i.size = 1) (hby : i.bytes = 1)
  (v : Value) (n : Nat) (xs : List Value) (hown : w.ownsRow 0 e 1 v n xs) (s : ByteArray) (h63 : n + s.size ≤ maxLen) (hbytes : n + s.size ≤ 140737488355328) :
  ∃ v' w', (Builtin.append_ #[t, u] ty #[v, .string s]).run P w = .ok v' w' ∧ Grew e 1 w w' v v' (n + s.size) (xs ++ Lib.strCells s) := by
 obtain ⟨v', w', hr, ho, hg, hnil⟩ := Lib.run_append_own_string (P := P) w 0 t u ty e i ht hu hi hz hsize hby v n xs hown s h63 hbytes (Nat.zero_le _)
 refine ⟨v', w', hr, ho, hg, ?_⟩
 rcases hown.2 with ⟨rfl, rfl⟩ | ⟨g, cap, cur, rfl, _, hgc, hnc, hcm, hcs, htake⟩
 ·by_cases h0 : s.size = 0
  ·have := hnil.2 ⟨rfl, h0⟩
   subst this
   exact .inl rfl
  ·have h := run_append_nil_string (P := P) w t u ty e i (.int .u8 0) ht hu hi hz s (by omega) (by unfold maxLen at h63; omega) (by rw [hby]; omega)
   rw [h] at hr
   injection hr with h2 h3
   exact .inr ⟨w.heap.size, by rw [← h2]; rfl, Nat.le_refl _⟩
 ·by_cases hroom : n + s.size ≤ cap
  ·have h := Lib.run_append_room_string (P := P) w t u ty e i ht hu hi hsize g n cap cur hgc s hroom (by omega)
   rw [h] at hr
   injection hr with h2 h3
   exact .inl (by rw [← h2]; rfl)
  ·have hxl : xs.length = n := by simpa using hown.1
   have h := Lib.run_append_grow_string (P := P) w t u ty e i (.int .u8 0) ht hu hi hz ⟨g, 0, none⟩ n cap xs (by rw [hsize]; omega) (fun j u hj => by
    have := hown.cells (g := g) rfl j u hj
    exact this) s (by omega) (by unfold maxLen at h63; omega) (growslice_fits (by omega) (by rw [hby]; omega))
   rw [h] at hr
   injection hr with h2 h3
   exact .inr ⟨w.heap.size, by rw [← h2]; rfl, Nat.le_refl _⟩
variable {ops : Array Oper} {rest : List Oper} {o : Oper} {a : Act} {Q : Exit → Act → World → Prop}
theorem wpList_append_grew (hgd : o.guard = none) (s x : Operand) (t : TypeId) (ho : o.op = .call { callee := .builtin .append, args := #[s, x], argTypes := #[t, t] })
  (e : TypeId) (i : TypeInfo) (z : Value) (size bytes : Nat) (ht : P.underlying t = some (.slice e)) (hi : P.info? e = some i) (hz : i.zero = some z)
  (hsize : i.size = size) (hby : i.bytes = bytes) (hzs : z.cells.size = size) (hsz : 0 < size)
  (v : Value) (n : Nat) (xs : List Value) (hs : a.eval s = v) (ad : Addr) (m c : Nat) (news : List Value) (hx : a.eval x = .slice (some ad) m c) (hl : news.length = m * size)
  (h1 : ∀ u ∈ news, u.oneCell' = true)
  (hown : w.ownsRow 0 e size v n xs) (hnews : ∀ j u, news[j]? = some u → w.cell? (ad.add j) = some u) (h63 : n + m ≤ maxLen) (hbytes : (n + m) * bytes ≤ 140737488355328)
  (h : ∀ v' w', Grew e size w w' v v' (n + m) (xs ++ news) → wpList P ops Q rest (a.put o.dst v') w') : wpList P ops Q (o :: rest) a w := by
 refine wpList_plain hgd fun K hK => ?_
 obtain ⟨v', w', hr, h2⟩ := append_grew (P := P) w t o.type e i z size bytes ht hi hz hsize hby hzs hsz v n xs hown ad m c news hl hnews h1 h63 hbytes
 unfold Oper.wp execOp
 simp only [ho, resolve, invoke, builtin, Sem.run_bind, Sem.run_pure, Result.andThen_ok, List.map_toArray, List.map_cons, List.map_nil, hs, hx, hr]
 exact hK _ _ (h v' w' h2)
theorem wpList_append_grew_string (hgd : o.guard = none) (s x : Operand) (t u : TypeId) (ho : o.op = .call { callee := .builtin .append, args := #[s, x], argTypes := #[t, u] })
  (e : TypeId) (i : TypeInfo) (ht : P.underlying t = some (.slice e)) (hu : P.underlying u = some .string) (hi : P.info? e = some i) (hz : i.zero = some (.int .u8 0))
  (hsize : i.size = 1) (hby : i.bytes = 1)
  (v : Value) (n : Nat) (xs : List Value) (hs : a.eval s = v) (str : ByteArray) (hx : a.eval x = .string str)
  (hown : w.ownsRow 0 e 1 v n xs) (h63 : n + str.size ≤ maxLen) (hbytes : n + str.size ≤ 140737488355328)
  (h : ∀ v' w', Grew e 1 w w' v v' (n + str.size) (xs ++ Lib.strCells str) → wpList P ops Q rest (a.put o.dst v') w') : wpList P ops Q (o :: rest) a w := by
 refine wpList_plain hgd fun K hK => ?_
 obtain ⟨v', w', hr, h2⟩ := append_grew_string (P := P) w t u o.type e i ht hu hi hz hsize hby v n xs hown str h63 hbytes
 unfold Oper.wp execOp
 simp only [ho, resolve, invoke, builtin, Sem.run_bind, Sem.run_pure, Result.andThen_ok, List.map_toArray, List.map_cons, List.map_nil, hs, hx, hr]
 exact hK _ _ (h v' w' h2)
end
def Qn.cells (q : Qn) : List Value := [.string q.name, .int .u16 q.kind, .int .u16 q.cls]
def Rc.cells (r : Rc) : List Value := [.string r.name, .int .u16 r.kind, .int .u16 r.cls, .int .u32 r.ttl, .string r.data]
def Lies (w : World) (sz : Nat) (v : Value) (es : List (List Value)) : Prop :=
 ∃ a c, v = .slice a es.length c ∧ (a = none → c = 0) ∧ (es = [] ∨ ∃ b off, a = some ⟨b, off, none⟩ ∧ b < w.heap.size ∧
  ∀ i e, es[i]? = some e → ∀ j u, e[j]? = some u → w.cell? ⟨b, off + i * sz + j, none⟩ = some u)
theorem Lies.keep {w w' : World} {sz : Nat} {v : Value} {es : List (List Value)} (h : Lies w sz v es) (hs : w.heap.size ≤ w'.heap.size) (hk : ∀ b, v.ownBlock = some b → b < w.heap.size → w'.heap[b]? = w.heap[b]?) : Lies w' sz v es := by
 obtain ⟨a, c, rfl, hac, h⟩ := h
 refine ⟨a, c, rfl, hac, ?_⟩
 rcases h with h | ⟨b, off, rfl, hb, h⟩
 ·exact .inl h
 ·refine .inr ⟨b, off, rfl, Nat.lt_of_lt_of_le hb hs, fun i e hi j u hj => ?_⟩
  exact cell_of_heap (hk b rfl hb) (h i e hi j u hj)
theorem Lies.below {w w' : World} {sz : Nat} {v : Value} {es : List (List Value)} (h : Lies w sz v es) (hb : Below w.heap.size w w') : Lies w' sz v es :=
 h.keep hb.size fun b _ hlt => hb.block b hlt
structure WfQ (q : Qn) : Prop where
 name : q.name.size ≤ 2097152
 k0 : 0 ≤ q.kind
 k1 : q.kind ≤ 65535
 c0 : 0 ≤ q.cls
 c1 : q.cls ≤ 65535
structure WfR (r : Rc) : Prop where
 name : r.name.size ≤ 2097152
 data : r.data.size ≤ 2097152
 k0 : 0 ≤ r.kind
 k1 : r.kind ≤ 65535
 c0 : 0 ≤ r.cls
 c1 : r.cls ≤ 65535
 t0 : 0 ≤ r.ttl
 t1 : r.ttl ≤ 4294967295
structure WfM (m : Msg) : Prop where
 id0 : 0 ≤ m.id
 id1 : m.id ≤ 65535
 op0 : -9223372036854775808 ≤ m.op
 op1 : m.op ≤ 9223372036854775807
 code0 : -9223372036854775808 ≤ m.code
 code1 : m.code ≤ 9223372036854775807
 nq : m.qs.length ≤ 2097152
 na : m.an.length ≤ 2097152
 nu : m.au.length ≤ 2097152
 nx : m.ex.length ≤ 2097152
 qs : ∀ q ∈ m.qs, WfQ q
 rs : ∀ r ∈ recs m, WfR r
structure MsgAt (w : World) (m : Msg) (vq va vu vx : Value) : Prop where
 q : Lies w 3 vq (m.qs.map Qn.cells)
 a : Lies w 5 va (m.an.map Rc.cells)
 u : Lies w 5 vu (m.au.map Rc.cells)
 x : Lies w 5 vx (m.ex.map Rc.cells)
theorem MsgAt.below {w w' : World} {m : Msg} {vq va vu vx : Value} (h : MsgAt w m vq va vu vx) (hb : Below w.heap.size w w') : MsgAt w' m vq va vu vx :=
 ⟨h.q.below hb, h.a.below hb, h.u.below hb, h.x.below hb⟩
def msgCells (m : Msg) (vq va vu vx : Value) : Array Value :=
 #[.int .u16 m.id, .bool m.resp, .int .i64 m.op, .bool m.own, .bool m.cut, .bool m.wanted, .bool m.able, .int .i64 m.code, vq, va, vu, vx]
def preR (m : Msg) (i : Nat) : List Rc := ([m.an, m.au, m.ex].take i).flatten
theorem list_at {w : World} {m : Msg} {vq va vu vx : Value} (hat : MsgAt w m vq va vu vx) (hwf : WfM m) (i : Nat) (h : i < 3) :
  ∃ L v, #[va, vu, vx][i]? = some v ∧ Lies w 5 v (L.map Rc.cells) ∧ preR m (i + 1) = preR m i ++ L ∧ (∃ B, recs m = preR m i ++ L ++ B) ∧ L.length ≤ 2097152 := by
 rcases (show i = 0 ∨ i = 1 ∨ i = 2 from by omega) with rfl | rfl | rfl
 ·exact ⟨m.an, va, rfl, hat.a, by simp [preR], ⟨m.au ++ m.ex, by simp [preR, recs]⟩, hwf.na⟩
 ·exact ⟨m.au, vu, rfl, hat.u, by simp [preR], ⟨m.ex, by simp [preR, recs]⟩, hwf.nu⟩
 ·exact ⟨m.ex, vx, rfl, hat.x, by simp [preR], ⟨[], by simp [preR, recs]⟩, hwf.nx⟩
theorem preR_all (m : Msg) : preR m 3 = recs m := by simp [preR, recs]
def qlen (l : List Qn) : Nat := (l.flatMap qbytes).length
def rlen (l : List Rc) : Nat := (l.flatMap rbytes).length
theorem qlen_append (a b : List Qn) : qlen (a ++ b) = qlen a + qlen b := by simp [qlen]
theorem rlen_append (a b : List Rc) : rlen (a ++ b) = rlen a + rlen b := by simp [rlen]
theorem qlen_one (q : Qn) : qlen [q] = q.name.size + 4 := by simp [qlen, length_qbytes]
theorem rlen_one (r : Rc) : rlen [r] = r.name.size + 10 + r.data.size := by simp [rlen, length_rbytes]
theorem length_le_qlen (l : List Qn) : l.length ≤ qlen l := by
 induction l with
 | nil => simp
 | cons q r ih => rw [show q :: r = [q] ++ r from rfl, qlen_append, qlen_one]; simp; omega
theorem length_le_rlen (l : List Rc) : l.length ≤ rlen l := by
 induction l with
 | nil => simp
 | cons q r ih => rw [show q :: r = [q] ++ r from rfl, rlen_append, rlen_one]; simp; omega
theorem qlen_take (l : List Qn) (k : Nat) : qlen (l.take k) ≤ qlen l := by
 conv => rhs; rw [← List.take_append_drop k l, qlen_append]
 omega
theorem rlen_prefix (a b : List Rc) (h : ∃ c, b = a ++ c) : rlen a ≤ rlen b := by
 obtain ⟨c, rfl⟩ := h
 rw [rlen_append]; omega
theorem body_length (m : Msg) : (body m).length = qlen m.qs + rlen (recs m) := by simp [body, qlen, rlen]
theorem lens_of_body {m : Msg} (h : 12 + (body m).length ≤ 512) : m.qs.length ≤ 512 ∧ m.an.length ≤ 512 ∧ m.au.length ≤ 512 ∧ m.ex.length ≤ 512 := by
 rw [body_length] at h
 have h1 := length_le_qlen m.qs
 have h2 := length_le_rlen (recs m)
 simp only [recs, List.length_append] at h2
 unfold recs at h
 omega
theorem pack_q_no {m : Msg} {A B : List Qn} {q : Qn} (h : m.qs = A ++ q :: B) (hb : nameB q.name = false ∨ 512 < 12 + qlen A + (q.name.size + 4)) : packOk m = false := by
 unfold packOk
 rcases hb with hb | hb
 ·have : m.qs.all okQ = false := by rw [h]; simp [okQ, hb]
  simp [this]
 ·have : ¬ 12 + (body m).length ≤ 512 := by
   rw [body_length, h, show A ++ q :: B = A ++ [q] ++ B by simp, qlen_append, qlen_append, qlen_one]
   omega
  simp [this]
theorem pack_r_no {m : Msg} {A B : List Rc} {r : Rc} (h : recs m = A ++ r :: B) (hb : okR r = false ∨ 512 < r.data.size ∨ 512 < 12 + qlen m.qs + rlen A + (r.name.size + 10 + r.data.size)) : packOk m = false := by
 unfold packOk
 rcases hb with hb | hb
 ·have : (recs m).all okR = false := by rw [h]; simp [hb]
  simp [this]
 ·have : ¬ 12 + (body m).length ≤ 512 := by
   rw [body_length, h, show A ++ r :: B = A ++ [r] ++ B by simp, rlen_append, rlen_append, rlen_one]
   omega
  simp [this]
theorem pack_range_no {m : Msg} (h : inRange m = false) : packOk m = false := by simp [packOk, h]
theorem pack_yes {m : Msg} (h : inRange m = true) (hq : m.qs.all okQ = true) (hr : (recs m).all okR = true) (hl : 12 + qlen m.qs + rlen (recs m) ≤ 512) : packOk m = true := by
 have : 12 + (body m).length ≤ 512 := by rw [body_length]; omega
 simp [packOk, h, hq, hr, this]
theorem take_snoc {α : Type} (l : List α) (k : Nat) (x : α) (h : l[k]? = some x) : l.take (k + 1) = l.take k ++ [x] := by
 rw [List.take_add_one]; simp [h]
theorem split_at {α : Type} (l : List α) (k : Nat) (x : α) (h : l[k]? = some x) : l = l.take k ++ x :: l.drop (k + 1) := by
 have hk : k < l.length := (List.getElem?_eq_some_iff.1 h).1
 have hx : l[k] = x := (List.getElem?_eq_some_iff.1 h).2
 rw [← hx, List.getElem_cons_drop hk, List.take_append_drop]
def shorts (m : Msg) : List Int := [m.id, flags m, m.qs.length, m.an.length, m.au.length, m.ex.length]
theorem shorts_head (m : Msg) : (shorts m).flatMap two = head m := rfl
theorem bit_le (b : Bool) (n : Int) (h : 0 ≤ n) : 0 ≤ bit b n ∧ bit b n ≤ n := by
 unfold bit; split <;> omega
theorem shorts_range {m : Msg} (hwf : WfM m) (hr : 0 ≤ m.op ∧ m.op ≤ 15 ∧ 0 ≤ m.code ∧ m.code ≤ 15) (hl : m.qs.length ≤ 512 ∧ m.an.length ≤ 512 ∧ m.au.length ≤ 512 ∧ m.ex.length ≤ 512) : ∀ x ∈ shorts m, 0 ≤ x ∧ x ≤ 65535 := by
 have h1 := hwf.id0
 have h2 := hwf.id1
 have b1 := bit_le m.resp 32768 (by omega)
 have b2 := bit_le m.own 1024 (by omega)
 have b3 := bit_le m.cut 512 (by omega)
 have b4 := bit_le m.wanted 256 (by omega)
 have b5 := bit_le m.able 128 (by omega)
 intro x hx
 simp only [shorts, List.mem_cons, List.not_mem_nil, or_false] at hx
 rcases hx with rfl | rfl | rfl | rfl | rfl | rfl
 ·omega
 ·unfold flags; omega
 all_goals omega
theorem two_prefix (l : List Int) (k : Nat) (x : Int) (h : l[k]? = some x) : (l.take (k + 1)).flatMap two = (l.take k).flatMap two ++ two x := by
 rw [take_snoc l k x h]; simp
theorem two_length (l : List Int) : (l.flatMap two).length = 2 * l.length := by
 induction l with
 | nil => rfl
 | cons x r ih => simp [length_two, ih]; omega
theorem Lies.qat {w : World} {b off : Nat} {qs : List Qn} (h : ∀ i e, (qs.map Qn.cells)[i]? = some e → ∀ j u, e[j]? = some u → w.cell? ⟨b, off + i * 3 + j, none⟩ = some u) {k : Nat} {q : Qn} (hk : qs[k]? = some q) :
  w.cell? ⟨b, off + k * 3, none⟩ = some (.string q.name) ∧ w.cell? ⟨b, off + k * 3 + 1, none⟩ = some (.int .u16 q.kind) ∧ w.cell? ⟨b, off + k * 3 + 2, none⟩ = some (.int .u16 q.cls) := by
 have h1 := h k q.cells (by simp [hk])
 exact ⟨h1 0 _ rfl, h1 1 _ rfl, h1 2 _ rfl⟩
theorem Lies.rat {w : World} {b off : Nat} {rs : List Rc} (h : ∀ i e, (rs.map Rc.cells)[i]? = some e → ∀ j u, e[j]? = some u → w.cell? ⟨b, off + i * 5 + j, none⟩ = some u) {k : Nat} {r : Rc} (hk : rs[k]? = some r) :
  w.cell? ⟨b, off + k * 5, none⟩ = some (.string r.name) ∧ w.cell? ⟨b, off + k * 5 + 1, none⟩ = some (.int .u16 r.kind) ∧ w.cell? ⟨b, off + k * 5 + 2, none⟩ = some (.int .u16 r.cls) ∧
   w.cell? ⟨b, off + k * 5 + 3, none⟩ = some (.int .u32 r.ttl) ∧ w.cell? ⟨b, off + k * 5 + 4, none⟩ = some (.string r.data) := by
 have h1 := h k r.cells (by simp [hk])
 exact ⟨h1 0 _ rfl, h1 1 _ rfl, h1 2 _ rfl, h1 3 _ rfl, h1 4 _ rfl⟩
theorem flat_get {sz : Nat} : ∀ (es : List (List Value)), (∀ e ∈ es, e.length = sz) → ∀ j u, es.flatten[j]? = some u → ∃ i e k, es[i]? = some e ∧ e[k]? = some u ∧ j = i * sz + k
 | [], _, j, u, h => by simp at h
 | e :: es, hl, j, u, h => by
  have he : e.length = sz := hl e (by simp)
  rw [List.flatten_cons, List.getElem?_append] at h
  split at h
  ·exact ⟨0, e, j, rfl, h, by simp⟩
  ·rename_i hlt
   obtain ⟨i, e', k, h1, h2, h3⟩ := flat_get es (fun x hx => hl x (by simp [hx])) _ u h
   refine ⟨i + 1, e', k, by simpa using h1, h2, ?_⟩
   rw [Nat.add_mul, Nat.one_mul, ← he]
   rw [he] at h3 ⊢
   omega
theorem flat_length {sz : Nat} : ∀ (es : List (List Value)), (∀ e ∈ es, e.length = sz) → es.flatten.length = es.length * sz
 | [], _ => by simp
 | e :: es, hl => by
  rw [List.flatten_cons, List.length_append, flat_length es (fun x hx => hl x (by simp [hx])), hl e (by simp), List.length_cons, Nat.add_mul, Nat.one_mul, Nat.add_comm]
theorem flat_at {sz : Nat} : ∀ (es : List (List Value)), (∀ e ∈ es, e.length = sz) → ∀ i e k u, es[i]? = some e → e[k]? = some u → es.flatten[i * sz + k]? = some u
 | [], _, i, e, k, u, h, _ => by simp at h
 | x :: es, hl, i, e, k, u, h, hk => by
  have hx : x.length = sz := hl x (by simp)
  rw [List.flatten_cons, List.getElem?_append]
  cases i with
  | zero =>
   simp at h
   subst h
   have : k < x.length := (List.getElem?_eq_some_iff.1 hk).1
   rw [if_pos (by omega)]
   simpa using hk
  | succ i =>
   rw [Nat.add_mul, Nat.one_mul, if_neg (by omega)]
   have := flat_at es (fun y hy => hl y (by simp [hy])) i e k u (by simpa using h) hk
   rw [← this]; congr 1; omega
theorem own_lies {w : World} {e : TypeId} {sz : Nat} {v : Value} {n : Nat} {es : List (List Value)} (h : w.ownsRow 0 e sz v n es.flatten) (hlen : ∀ x ∈ es, x.length = sz) (hn : n = es.length) : Lies w sz v es := by
 rcases h.2 with ⟨rfl, h0⟩ | ⟨g, cap, cur, rfl, _, hg, hnc, hcm, hcs, htake⟩
 ·have : es = [] := List.eq_nil_of_length_eq_zero (by omega)
  subst this
  exact ⟨none, 0, rfl, fun _ => rfl, .inl rfl⟩
 ·refine ⟨some ⟨g, 0, none⟩, cap, by rw [hn], (fun h => by cases h), .inr ⟨g, 0, rfl, (Array.getElem?_eq_some_iff.1 hg).1, fun i x hi j u hj => ?_⟩⟩
  have := flat_at es hlen i x j u hi hj
  have h2 := h.cells (g := g) rfl (i * sz + j) u this
  have e1 : (⟨g, 0, none⟩ : Addr).add (i * sz + j) = ⟨g, 0 + i * sz + j, none⟩ := by simp [Addr.add]; omega
  rw [e1] at h2
  exact h2
theorem append_lies {P : Program} (w : World) (t ty e : TypeId) (i : TypeInfo) (z : Value) (size bytes : Nat) (ht : P.underlying t = some (.slice e)) (hi : P.info? e = some i) (hz : i.zero = some z)
  (hsize : i.size = size) (hby : i.bytes = bytes) (hzs : z.cells.size = size) (hsz : 0 < size)
  (v : Value) (n : Nat) (xs : List Value) (hown : w.ownsRow 0 e size v n xs) (src : Value) (es : List (List Value)) (hsrc : Lies w size src es) (hes : ∀ x ∈ es, x.length = size ∧ ∀ u ∈ x, u.oneCell' = true)
  (h63 : n + es.length ≤ maxLen) (hbytes : (n + es.length) * bytes ≤ 140737488355328) :
  ∃ v' w', (Builtin.append_ #[t, t] ty #[v, src]).run P w = .ok v' w' ∧ Grew e size w w' v v' (n + es.length) (xs ++ es.flatten) := by
 obtain ⟨a, c, rfl, hac, h⟩ := hsrc
 have hl := flat_length (sz := size) es (fun x hx => (hes x hx).1)
 have h1 : ∀ u ∈ es.flatten, u.oneCell' = true := by
  intro u hu
  obtain ⟨x, hx, hux⟩ := List.mem_flatten.1 hu
  exact (hes x hx).2 u hux
 cases a with
 | some ad =>
  refine append_grew (P := P) w t ty e i z size bytes ht hi hz hsize hby hzs hsz v n xs hown ad es.length c es.flatten hl (fun j u hj => ?_) h1 h63 hbytes
  rcases h with rfl | ⟨b, off, hab, _, h⟩
  ·simp at hj
  ·obtain ⟨k, x, r, hk, hr, rfl⟩ := flat_get es (fun x hx => (hes x hx).1) j u hj
   have hab' := Option.some.inj hab
   subst hab'
   have := h k x hk r u hr
   have e1 : (⟨b, off, none⟩ : Addr).add (k * size + r) = ⟨b, off + k * size + r, none⟩ := by simp [Addr.add, Nat.add_assoc]
   rw [e1]; exact this
 | none =>
  have hc := hac rfl
  rcases h with rfl | ⟨b, off, hab, _⟩
  ·subst hc
   have := run_append_owned_none (P := P) w 0 t ty e i size ht hi v n xs hown
   exact ⟨v, w, this, by simpa using Grew.refl hown⟩
  ·cases hab
theorem wpList_append_lies {P : Program} (w : World) {ops : Array Oper} {rest : List Oper} {o : Oper} {a : Act} {Q : Exit → Act → World → Prop} (hgd : o.guard = none) (s x : Operand) (t : TypeId) (ho : o.op = .call { callee := .builtin .append, args := #[s, x], argTypes := #[t, t] })
  (e : TypeId) (i : TypeInfo) (z : Value) (size bytes : Nat) (ht : P.underlying t = some (.slice e)) (hi : P.info? e = some i) (hz : i.zero = some z)
  (hsize : i.size = size) (hby : i.bytes = bytes) (hzs : z.cells.size = size) (hsz : 0 < size)
  (v : Value) (n : Nat) (xs : List Value) (hs : a.eval s = v) (src : Value) (es : List (List Value)) (hx : a.eval x = src) (hes : ∀ x ∈ es, x.length = size ∧ ∀ u ∈ x, u.oneCell' = true)
  (hown : w.ownsRow 0 e size v n xs) (hsrc : Lies w size src es) (h63 : n + es.length ≤ maxLen) (hbytes : (n + es.length) * bytes ≤ 140737488355328)
  (h : ∀ v' w', Grew e size w w' v v' (n + es.length) (xs ++ es.flatten) → wpList P ops Q rest (a.put o.dst v') w') : wpList P ops Q (o :: rest) a w := by
 refine wpList_plain hgd fun K hK => ?_
 obtain ⟨v', w', hr, h2⟩ := append_lies (P := P) w t o.type e i z size bytes ht hi hz hsize hby hzs hsz v n xs hown src es hsrc hes h63 hbytes
 unfold Oper.wp execOp
 simp only [ho, resolve, invoke, builtin, Sem.run_bind, Sem.run_pure, Result.andThen_ok, List.map_toArray, List.map_cons, List.map_nil, hs, hx, hr]
 exact hK _ _ (h v' w' h2)
theorem rcells_ok (l : List Rc) : ∀ x ∈ l.map Rc.cells, x.length = 5 ∧ ∀ u ∈ x, u.oneCell' = true := by
 intro x hx
 obtain ⟨r, _, rfl⟩ := List.mem_map.1 hx
 refine ⟨rfl, fun u hu => ?_⟩
 simp only [Rc.cells, List.mem_cons, List.not_mem_nil, or_false] at hu
 rcases hu with rfl | rfl | rfl | rfl | rfl <;> rfl
end Go.Trawl
