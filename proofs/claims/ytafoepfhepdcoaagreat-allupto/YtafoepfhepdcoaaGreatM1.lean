import Derived.Test.YtafoepfhepdcoaaGreatProg
import Derived.WalkKit
import Derived.WalkSpells
import Derived.WalkLawsBesides
import Derived.Outline
import Derived.Lib.AppendStr
set_option maxRecDepth 100000
set_option maxHeartbeats 8000000
namespace Go.Trawl
structure Qn where
 name : ByteArray
 kind : Int
 cls : Int
structure Rc where
 name : ByteArray
 kind : Int
 cls : Int
 ttl : Int
 data : ByteArray
structure Msg where
 id : Int
 resp : Bool
 op : Int
 own : Bool
 cut : Bool
 wanted : Bool
 able : Bool
 code : Int
 qs : List Qn
 an : List Rc
 au : List Rc
 ex : List Rc
def at8 (s : ByteArray) (k : Nat) : Nat := (s.data.getD k 0).toNat
def beh (s : ByteArray) : Nat → Nat → Nat
 | 0, k => k
 | n + 1, k => if k < s.size ∧ 0 < at8 s k ∧ at8 s k ≤ 63 then beh s n (k + 1 + at8 s k) else k
def behind (s : ByteArray) (k : Nat) : Nat := beh s (s.size + 1 - k) k
def nameB (s : ByteArray) : Bool := decide (s.size ≤ 255 ∧ behind s 0 + 1 = s.size ∧ at8 s (behind s 0) = 0)
theorem at8_eq (s : ByteArray) (k : Nat) (h : k < s.size) : s[k].toNat = at8 s k := by
 have h' : k < s.data.size := h
 have e : s.data.getD k 0 = s.data[k] := by
  rw [Array.getD_eq_getD_getElem?, Array.getElem?_eq_getElem h']; rfl
 unfold at8
 rw [e]
 rfl
theorem beh_enough (s : ByteArray) : ∀ n m k, s.size + 1 - k ≤ n → s.size + 1 - k ≤ m → beh s n k = beh s m k
 | 0, 0, k, _, _ => rfl
 | 0, m + 1, k, h, _ => by
  unfold beh; rw [if_neg (by omega)]
 | n + 1, 0, k, _, h => by
  unfold beh; rw [if_neg (by omega)]
 | n + 1, m + 1, k, h, h' => by
  unfold beh
  split
  ·exact beh_enough s n m _ (by omega) (by omega)
  ·rfl
theorem behind_next (s : ByteArray) (k : Nat) (h : k < s.size) (h1 : 0 < at8 s k) (h2 : at8 s k ≤ 63) : behind s k = behind s (k + 1 + at8 s k) := by
 unfold behind
 have : s.size + 1 - k = (s.size - k) + 1 := by omega
 rw [this]
 conv => lhs; unfold beh
 rw [if_pos ⟨h, h1, h2⟩]
 exact beh_enough s _ _ _ (by omega) (by omega)
theorem behind_stop (s : ByteArray) (k : Nat) (h : ¬ (k < s.size ∧ 0 < at8 s k ∧ at8 s k ≤ 63)) : behind s k = k := by
 unfold behind
 cases s.size + 1 - k with
 | zero => rfl
 | succ n => unfold beh; rw [if_neg h]
theorem le_beh (s : ByteArray) : ∀ n k, k ≤ beh s n k
 | 0, k => Nat.le_refl _
 | n + 1, k => by
  unfold beh
  split
  ·have := le_beh s n (k + 1 + at8 s k); omega
  ·exact Nat.le_refl _
def two (n : Int) : List UInt8 := [UInt8.ofNat (n / 256 % 256).toNat, UInt8.ofNat (n % 256).toNat]
def bit (b : Bool) (n : Int) : Int := if b then n else 0
def flags (m : Msg) : Int := bit m.resp 32768 + 2048 * m.op + bit m.own 1024 + bit m.cut 512 + bit m.wanted 256 + bit m.able 128 + m.code
def head (m : Msg) : List UInt8 := two m.id ++ two (flags m) ++ two m.qs.length ++ two m.an.length ++ two m.au.length ++ two m.ex.length
def qbytes (q : Qn) : List UInt8 := q.name.data.toList ++ two q.kind ++ two q.cls
def rbytes (r : Rc) : List UInt8 := r.name.data.toList ++ two r.kind ++ two r.cls ++ two (r.ttl / 65536) ++ two (r.ttl % 65536) ++ two r.data.size ++ r.data.data.toList
def named (k : Int) : Bool := decide (k = 2 ∨ k = 5)
def okQ (q : Qn) : Bool := nameB q.name
def okR (r : Rc) : Bool := nameB r.name && (!named r.kind || nameB r.data)
def recs (m : Msg) : List Rc := m.an ++ m.au ++ m.ex
def body (m : Msg) : List UInt8 := m.qs.flatMap qbytes ++ (recs m).flatMap rbytes
def inRange (m : Msg) : Bool := decide (0 ≤ m.op ∧ m.op ≤ 15 ∧ 0 ≤ m.code ∧ m.code ≤ 15)
def packOk (m : Msg) : Bool := inRange m && m.qs.all okQ && (recs m).all okR && decide (12 + (body m).length ≤ 512)
def pack (m : Msg) : List UInt8 := head m ++ body m
theorem length_two (n : Int) : (two n).length = 2 := rfl
theorem length_head (m : Msg) : (head m).length = 12 := rfl
theorem length_qbytes (q : Qn) : (qbytes q).length = q.name.size + 4 := by
 simp [qbytes, length_two]
theorem length_rbytes (r : Rc) : (rbytes r).length = r.name.size + 10 + r.data.size := by
 simp [rbytes, length_two]; omega
theorem nameB_size {s : ByteArray} (h : nameB s = true) : 1 ≤ s.size ∧ s.size ≤ 255 := by
 unfold nameB at h
 have := of_decide_eq_true h
 omega
end Go.Trawl
namespace Go.Proofs.YtafoepfhepdcoaaGreat
open Go.RowKit Go.Trawl
theorem ret_bool {a b : Bool} (h : a = b) : Ending.returned (.bool a) = .returned (.bool b) := by rw [h]
theorem ret_int {k : IntKind} {a b : Int} (h : a = b) : Ending.returned (.int k a) = .returned (.int k b) := by rw [h]
theorem refFlag_any (b : Bool) (n : Int) (w : World) :
  Calls Tryz.prog 45 #[.bool b, .int .i64 n] w fun e w' => e = .returned (.int .i64 (bit b n)) ∧ w' = w := by
 cases b
 all_goals
  go_enter Tryz.func45, Tryz.ntmps45
  go_wp2
  go_ret
  exact ⟨rfl, rfl⟩
theorem named_or (n : Int) : (n == 2 || n == 5) = named n := by
 unfold named
 by_cases h : n = 2 <;> by_cases h' : n = 5 <;> simp [h, h']
theorem isNamed_any (n : Int) (w : World) :
  Calls Tryz.prog 48 #[.int .u16 n] w fun e w' => e = .returned (.bool (named n)) ∧ w' = w := by
 have hn := named_or n
 have Hn : Hid ((n == 2 || n == 5) = named n) := hn
 clear hn
 go_enter Tryz.func48, Tryz.ntmps48
 go_wp2
 ·go_ret
  exact ⟨ret_bool (by rw [← Hn.out]; simp [*]), rfl⟩
 ·go_ret
  exact ⟨ret_bool Hn.out, rfl⟩
theorem isNameType_any (n : Int) (w : World) :
  Calls Tryz.prog 141 #[.int .u16 n] w fun e w' => e = .returned (.bool (named n)) ∧ w' = w := by
 have hn := named_or n
 have Hn : Hid ((n == 2 || n == 5) = named n) := hn
 clear hn
 go_enter Tryz.func141, Tryz.ntmps141
 go_wp2
 ·go_ret
  exact ⟨ret_bool (by rw [← Hn.out]; simp [*]), rfl⟩
 ·go_ret
  exact ⟨ret_bool Hn.out, rfl⟩
theorem lab_next {s : ByteArray} {k : Nat} (h : k < s.size) (h1 : 0 < s[k].toNat) (h2 : (s[k].toNat : Int) ≤ 63) : behind s k = behind s (k + 1 + s[k].toNat) := by
 rw [at8_eq s k h] at *
 exact behind_next s k h h1 (by omega)
theorem lab_stop1 {s : ByteArray} {k : Nat} (h : k < s.size) (h2 : 63 < (s[k].toNat : Int)) : behind s k = k := by
 rw [at8_eq s k h] at *
 exact behind_stop s k (by omega)
theorem lab_stop2 {s : ByteArray} {k : Nat} (h : k < s.size) (h2 : ¬ 0 < s[k].toNat) : behind s k = k := by
 rw [at8_eq s k h] at *
 exact behind_stop s k (by omega)
theorem lab_stop3 {s : ByteArray} {k : Nat} (h : ¬ k < s.size) : behind s k = k := behind_stop s k (by omega)
theorem name_no {s : ByteArray} {k : Nat} (hb : behind s 0 = k) (h : ¬ (k : Int) = (s.size : Int) - 1) : nameB s = false := by
 unfold nameB
 rw [hb]
 simp only [decide_eq_false_iff_not]
 omega
theorem name_long {s : ByteArray} (h : ¬ s.size ≤ 255) : nameB s = false := by
 unfold nameB
 simp only [decide_eq_false_iff_not]
 omega
theorem name_yes {s : ByteArray} {k : Nat} (hb : behind s 0 = k) (hs : s.size ≤ 255) (hk : (k : Int) = (s.size : Int) - 1) (h : s.size - 1 < s.size) : ((s[s.size - 1].toNat : Int) == 0) = nameB s := by
 rw [at8_eq s (s.size - 1) h]
 have e : s.size - 1 = behind s 0 := by omega
 unfold nameB
 rw [e]
 by_cases h0 : at8 s (behind s 0) = 0
 ·simp [h0]; omega
 ·have : ¬ ((at8 s (behind s 0) : Int) = 0) := by omega
  simp [h0]
theorem refIsName_any (s : ByteArray) (w : World) (hs : s.size ≤ maxLen) :
  Calls Tryz.prog 47 #[.string s] w fun e w' => e = .returned (.bool (nameB s)) ∧ w' = w := by
 unfold maxLen at hs
 by_cases h : s.size ≤ 255
 ·go_enter Tryz.func47, Tryz.ntmps47
  go_wp2
  go_loop [3] (fun i => ∃ k : Nat, i = .int .i64 k ∧ k ≤ 1000 ∧ Hid (behind s 0 = behind s k)) (fun i => s.size - (intOf i).toNat)
  case atStart => exact ⟨0, rfl, by omega, rfl⟩
  case round =>
   obtain ⟨k, rfl, hk, hb⟩ := hrel
   by_cases hlt : k < s.size
   ·go_wp2
    ·have h1 : 0 < s[k].toNat := by assumption
     have h2 : (s[k].toNat : Int) ≤ 63 := by assumption
     exact ⟨⟨k + 1 + s[k].toNat, by go_num, by omega, hb.out.trans (lab_next hlt h1 h2)⟩, by simp [intOf]; omega⟩
    ·go_ret
     exact ⟨ret_bool (name_yes (hb.out.trans (lab_stop1 hlt (by assumption))) h (by assumption) (by omega)), rfl⟩
    ·go_ret
     exact ⟨ret_bool (name_no (hb.out.trans (lab_stop1 hlt (by assumption))) (by assumption)).symm, rfl⟩
    ·go_ret
     exact ⟨ret_bool (name_yes (hb.out.trans (lab_stop2 hlt (by assumption))) h (by assumption) (by omega)), rfl⟩
    ·go_ret
     exact ⟨ret_bool (name_no (hb.out.trans (lab_stop2 hlt (by assumption))) (by assumption)).symm, rfl⟩
   ·go_wp2
    go_ret
    exact ⟨ret_bool (name_no (hb.out.trans (lab_stop3 hlt)) (by assumption)).symm, rfl⟩
 ·have HN : Hid (nameB s = false) := name_long h
  go_enter Tryz.func47, Tryz.ntmps47
  go_wp2
  go_ret
  exact ⟨ret_bool HN.out.symm, rfl⟩
end Go.Proofs.YtafoepfhepdcoaaGreat
namespace Go.Trawl
open Go.RowKit
theorem hide {p : Prop} (h : p) : Hid p := h
theorem unhide {p : Prop} (h : Hid p) : p := h
def bytesV (l : List UInt8) : List Value := l.map fun b => .int .u8 (b.toNat : Int)
theorem bytesV_append (a b : List UInt8) : bytesV (a ++ b) = bytesV a ++ bytesV b := List.map_append
theorem bytesV_length (a : List UInt8) : (bytesV a).length = a.length := List.length_map _
theorem strCells_bytesV (s : ByteArray) : Lib.strCells s = bytesV s.data.toList := rfl
theorem ofNat_toNat {n : Nat} (h : n < 256) : (UInt8.ofNat n).toNat = n := by
 simp [Nat.mod_eq_of_lt h]
theorem two_cells (x : Int) : bytesV (two x) = [.int .u8 (x / 256 % 256), .int .u8 (x % 256)] := by
 have h1 : (x / 256 % 256).toNat < 256 := by omega
 have h2 : (x % 256).toNat < 256 := by omega
 simp only [bytesV, two, List.map_cons, List.map_nil, ofNat_toNat h1, ofNat_toNat h2]
 congr 2
 ·omega
 ·congr 2; omega
theorem two_cells' {x : Int} (h0 : 0 ≤ x) (h1 : x ≤ 65535) : bytesV (two x) = [.int .u8 (x / 256), .int .u8 (x % 256)] := by
 rw [two_cells x]
 have : x / 256 % 256 = x / 256 := by omega
 rw [this]
def Loc (w : World) (v v' : Value) : Prop := v'.ownBlock = v.ownBlock ∨ ∃ k, v'.ownBlock = some k ∧ w.heap.size ≤ k
structure Grew (e : TypeId) (sz : Nat) (w w' : World) (v v' : Value) (n' : Nat) (xs' : List Value) : Prop where
 own : w'.ownsRow 0 e sz v' n' xs'
 grown : w.grownBy w' v.ownBlock
 loc : Loc w v v'
theorem grownBy_refl (w : World) (r : Option Nat) : w.grownBy w r := ⟨rfl, rfl, rfl, Nat.le_refl _, fun _ _ _ => rfl⟩
theorem grownBy_drew (w : World) (r : Option Nat) : w.grownBy w.drew r := ⟨rfl, rfl, rfl, Nat.le_refl _, fun _ _ _ => rfl⟩
theorem gd_ (w : World) (n : Nat) (r : Option Nat) : w.grownBy (w.drewN n) r := ⟨rfl, rfl, rfl, Nat.le_refl _, fun _ _ _ => rfl⟩
theorem gt_ {a b c : World} {r : Option Nat} (h : a.grownBy b r) (k : b.grownBy c r) : a.grownBy c r :=
 ⟨k.os.trans h.os, k.tape.trans h.tape, k.output.trans h.output, Nat.le_trans h.size k.size, fun i hi hr => (k.block i (Nat.lt_of_lt_of_le hi h.size) hr).trans (h.block i hi hr)⟩
theorem grownBy_trans' {a b c : World} {r r' : Option Nat} (h : a.grownBy b r) (k : b.grownBy c r') (hr : r' = r ∨ ∃ j, r' = some j ∧ a.heap.size ≤ j) : a.grownBy c r :=
 ⟨k.os.trans h.os, k.tape.trans h.tape, k.output.trans h.output, Nat.le_trans h.size k.size, fun i hi hne => (k.block i (Nat.lt_of_lt_of_le hi h.size) (by
  rcases hr with rfl | ⟨j, rfl, hj⟩
  ·exact hne
  ·intro e; have := Option.some.inj e; omega)).trans (h.block i hi hne)⟩
theorem grownBy_none {a b : World} {r : Option Nat} (h : a.grownBy b none) : a.grownBy b r :=
 ⟨h.os, h.tape, h.output, h.size, fun i hi _ => h.block i hi (by simp)⟩
theorem grownBy_below {a b : World} (h : Below a.heap.size a b) (r : Option Nat) : a.grownBy b r :=
 ⟨h.os, h.tape, h.output, h.size, fun i hi _ => h.block i hi⟩
theorem below_grownBy {a b : World} (h : a.grownBy b none) : Below a.heap.size a b :=
 ⟨h.os, h.tape, h.output, h.size, fun i hi => h.block i hi (by simp)⟩
theorem Grew.trans {e : TypeId} {sz : Nat} {w w1 w2 : World} {v v1 v2 : Value} {n1 n2 : Nat} {x1 x2 : List Value} (h : Grew e sz w w1 v v1 n1 x1) (k : Grew e sz w1 w2 v1 v2 n2 x2) : Grew e sz w w2 v v2 n2 x2 := by
 refine ⟨k.own, grownBy_trans' h.grown k.grown h.loc, ?_⟩
 rcases k.loc with e1 | ⟨j, e1, hj⟩
 ·rcases h.loc with e2 | ⟨i, e2, hi⟩
  ·exact .inl (e1.trans e2)
  ·exact .inr ⟨i, e1.trans e2, hi⟩
 ·exact .inr ⟨j, e1, Nat.le_trans h.grown.size hj⟩
theorem Grew.pre {e : TypeId} {sz : Nat} {w0 w w' : World} {v v' : Value} {n' : Nat} {x' : List Value} (hb : w0.grownBy w v.ownBlock) (h : Grew e sz w w' v v' n' x') : Grew e sz w0 w' v v' n' x' := by
 refine ⟨h.own, gt_ hb h.grown, ?_⟩
 rcases h.loc with e1 | ⟨j, e1, hj⟩
 ·exact .inl e1
 ·exact .inr ⟨j, e1, Nat.le_trans hb.size hj⟩
theorem Grew.post {e : TypeId} {sz : Nat} {w w1 w2 : World} {v v' : Value} {n' : Nat} {x' : List Value} (h : Grew e sz w w1 v v' n' x') (hb : w1.grownBy w2 none) : Grew e sz w w2 v v' n' x' :=
 ⟨h.own.kept hb (by cases h1 : v'.ownBlock <;> simp), gt_ h.grown (grownBy_none hb), h.loc⟩
theorem Grew.keeps {e : TypeId} {sz : Nat} {w w' : World} {v v' : Value} {n : Nat} {x : List Value} (h : Grew e sz w w' v v' n x) {b : Nat} (hb : b < w.heap.size) (hv : v.ownBlock ≠ some b) : w'.heap[b]? = w.heap[b]? ∧ v'.ownBlock ≠ some b ∧ b < w'.heap.size := by
 refine ⟨h.grown.block b hb (Ne.symm hv), ?_, Nat.lt_of_lt_of_le hb h.grown.size⟩
 rcases h.loc with e1 | ⟨j, e1, hj⟩
 ·rw [e1]; exact hv
 ·rw [e1]; intro e2; have := Option.some.inj e2; omega
theorem cell_of_heap {w w' : World} {b : Nat} (h : w'.heap[b]? = w.heap[b]?) {o : Nat} {v : Value} (hc : w.cell? ⟨b, o, none⟩ = some v) : w'.cell? ⟨b, o, none⟩ = some v := by
 rw [World.cell?_of_block (w := w) (a := ⟨b, o, none⟩) h]; exact hc
theorem Grew.below {e : TypeId} {sz : Nat} {w w' : World} {v v' : Value} {n : Nat} {x : List Value} {B : Nat} (h : Grew e sz w w' v v' n x) (hB : B ≤ w.heap.size) (hv : ∀ k, v.ownBlock = some k → B ≤ k) : Below B w w' ∧ (∀ k, v'.ownBlock = some k → B ≤ k) := by
 refine ⟨⟨h.grown.os, h.grown.tape, h.grown.output, h.grown.size, fun k hk => h.grown.block k (by omega) fun e1 => ?_⟩, fun k hk => ?_⟩
 ·have := hv k e1.symm; omega
 ·rcases h.loc with e1 | ⟨j, e1, hj⟩
  ·exact hv k (by rw [← e1]; exact hk)
  ·rw [e1] at hk; have := Option.some.inj hk; omega
theorem own_base {w : World} {e : TypeId} {sz : Nat} {v : Value} {n : Nat} {x : List Value} {B : Nat} (h : w.ownsRow 0 e sz v n x) (hv : ∀ k, v.ownBlock = some k → B ≤ k) : w.ownsRow B e sz v n x := by
 refine ⟨h.1, ?_⟩
 rcases h.2 with h2 | ⟨g, cap, cur, rfl, _, r⟩
 ·exact .inl h2
 ·exact .inr ⟨g, cap, cur, rfl, hv g rfl, r⟩
theorem bc_ {w : World} {b : Nat} {cs : Array Value} {t : TypeId} (h : w.heap[b]? = some (.cells cs t)) : ∀ o, w.cell? ⟨b, o, none⟩ = cs[o]? := by
 intro o
 simp [World.cell?, h]
theorem hn_ (w : World) (o : Obj) : (w.alloc o).heap[w.heap.size]? = some o := by
 show (w.heap.push o)[w.heap.size]? = _
 simp
theorem alloc_drewN (A : World) (o : Obj) (n : Nat) : (A.drewN n).alloc o = (A.alloc o).drewN n := rfl
theorem as_ (w : World) (o : Obj) : (w.alloc o).heap.size = w.heap.size + 1 := Array.size_push _
theorem own_ne {w : World} {base : Nat} {e : TypeId} {sz : Nat} {v : Value} {n : Nat} {x : List Value} (h : w.ownsRow base e sz v n x) {b : Nat} (hb : w.heap.size ≤ b) : v.ownBlock ≠ some b := by
 intro e1
 have := (h.lt b e1).2
 omega
theorem Grew.refl {e : TypeId} {sz : Nat} {w : World} {v : Value} {n : Nat} {x : List Value} (h : w.ownsRow 0 e sz v n x) : Grew e sz w w v v n x := ⟨h, grownBy_refl _ _, .inl rfl⟩
section
variable {P : Program} (w : World)
theorem append_grew (t ty e : TypeId) (i : TypeInfo) (z : Value) (size bytes : Nat) (ht : P.underlying t = some (.slice e)) (hi : P.info? e = some i) (hz : i.zero = some z)
  (hsize : i.size = size) (hby : i.bytes = bytes) (hzs : z.cells.size = size) (hsz : 0 < size)
  (v : Value) (n : Nat) (xs : List Value) (hown : w.ownsRow 0 e size v n xs)
  (a : Addr) (m c : Nat) (news : List Value) (hl : news.length = m * size) (hnews : ∀ j u, news[j]? = some u → w.cell? (a.add j) = some u) (h1 : ∀ u ∈ news, u.oneCell' = true)
  (h63 : n + m ≤ maxLen) (hbytes : (n + m) * bytes ≤ 140737488355328) :
  ∃ v' w', (Builtin.append_ #[t, t] ty #[v, .slice (some a) m c]).run P w = .ok v' w' ∧ Grew e size w w' v v' (n + m) (xs ++ news) := by
 obtain ⟨v', w', hr, ho, hg, hnil⟩ := run_append_own (P := P) w 0 t ty e i z size bytes ht hi hz hsize hby hzs hsz v n xs hown a m c news hl hnews h1 h63 hbytes (Nat.zero_le _)
 refine ⟨v', w', hr, ho, hg, ?_⟩
 rcases hown.2 with ⟨rfl, rfl⟩ | ⟨g, cap, cur, rfl, _, hgc, hnc, hcm, hcs, htake⟩
 ·by_cases hm : m = 0
  ·have := hnil.2 ⟨rfl, hm⟩
   subst this
   exact .inl rfl
  ·have h := run_append_nil (P := P) w t ty e i z ht hi hz a m c news (by rw [hsize]; exact hl) hnews (by omega) (by unfold maxLen at h63; omega) (by rw [hby]; rw [Nat.zero_add] at hbytes; omega)
   rw [h] at hr
   injection hr with h2 h3
   exact .inr ⟨w.heap.size, by rw [← h2]; rfl, Nat.le_refl _⟩
 ·by_cases hroom : n + m ≤ cap
  ·obtain ⟨w2, h, _⟩ := run_append_fits (P := P) w 0 t ty e i size ht hi hsize g n cap xs hown a m c news hl hnews h1 hroom
   rw [h] at hr
   injection hr with h2 h3
   exact .inl (by rw [← h2]; rfl)
  ·have hxl : xs.length = n * size := hown.1
   obtain ⟨v2, w2, h, ho2, _⟩ := run_append_arg_grows (P := P) w t ty e i z size bytes ht hi hz hsize hby hzs hsz ⟨g, 0, none⟩ n cap xs hxl (fun j u hj => by
    have := hown.cells (g := g) rfl j u hj
    exact this) a m c news hl hnews (by omega) h63 hbytes
   rw [h] at hr
   injection hr with h2 h3
   subst h2
   rcases ho2.2 with ⟨_, hn0⟩ | ⟨g2, cap2, cur2, e2, hg2, _⟩
   ·omega
   ·exact .inr ⟨g2, by rw [e2]; rfl, hg2⟩
theorem own_shorter {w : World} {e : TypeId} {size g n m cap : Nat} {xs news : List Value} (h : w.ownsRow 0 e size (.slice (some ⟨g, 0, none⟩) (n + m) cap) (n + m) (xs ++ news)) (hl : xs.length = n * size) : w.ownsRow 0 e size (.slice (some ⟨g, 0, none⟩) n cap) n xs := by
 refine ⟨hl, ?_⟩
 rcases h.2 with ⟨h1, _⟩ | ⟨g2, cap2, cur, e1, _, hg, hnc, hcm, hcs, htake⟩
 ·cases h1
 ·injection e1 with e2 e3 e4
  injection e2 with e2
  injection e2 with e5
  subst e4 e5
  refine .inr ⟨_, _, cur, rfl, Nat.zero_le _, hg, by omega, hcm, hcs, ?_⟩
  have := congrArg (List.take (n * size)) htake
  rw [List.take_take, Nat.min_eq_left (Nat.mul_le_mul_right _ (by omega)), List.take_append_of_le_length (by omega), List.take_of_length_le (l := xs) (by omega)] at this
  exact this
theorem append_grew2 (t ty e : TypeId) (i : TypeInfo) (z : Value) (size bytes : Nat) (ht : P.underlying t = some (.slice e)) (hi : P.info? e = some i) (hz : i.zero = some z)
  (hsize : i.size = size) (hby : i.bytes = bytes) (hzs : z.cells.size = size) (hsz : 0 < size)
  (v : Value) (n : Nat) (xs : List Value) (hown : w.ownsRow 0 e size v n xs)
  (a : Addr) (m c : Nat) (news : List Value) (hl : news.length = m * size) (hnews : ∀ j u, news[j]? = some u → w.cell? (a.add j) = some u) (h1 : ∀ u ∈ news, u.oneCell' = true)
  (h63 : n + m ≤ maxLen) (hbytes : (n + m) * bytes ≤ 140737488355328) :
  ∃ v' w', (Builtin.append_ #[t, t] ty #[v, .slice (some a) m c]).run P w = .ok v' w' ∧ Grew e size w w' v v' (n + m) (xs ++ news) ∧ w'.ownsRow 0 e size v n xs := by
 obtain ⟨v', w', hr, hg⟩ := append_grew (P := P) w t ty e i z size bytes ht hi hz hsize hby hzs hsz v n xs hown a m c news hl hnews h1 h63 hbytes
 refine ⟨v', w', hr, hg, ?_⟩
 have hxl := hown.1
 rcases hown.2 with ⟨rfl, rfl⟩ | ⟨g, cap, cur, rfl, _, hgc, hnc, hcm, hcs, htake⟩
 ·have : xs = [] := List.eq_nil_of_length_eq_zero (by omega)
  subst this
  exact World.ownsRow_nil _ _ _ _
 ·by_cases hroom : n + m ≤ cap
  ·obtain ⟨w2, h, ho, _⟩ := run_append_fits (P := P) w 0 t ty e i size ht hi hsize g n cap xs hown a m c news hl hnews h1 hroom
   rw [h] at hr
   injection hr with h2 h3
   subst h3
   exact own_shorter ho hxl
  ·obtain ⟨v2, w2, h, ho2, hgr⟩ := run_append_arg_grows (P := P) w t ty e i z size bytes ht hi hz hsize hby hzs hsz ⟨g, 0, none⟩ n cap xs hxl (fun j u hj => by
    have := hown.cells (g := g) rfl j u hj
    exact this) a m c news hl hnews (by omega) h63 hbytes
   rw [h] at hr
   injection hr with h2 h3
   subst h3
   exact hown.kept hgr (.inr (by simp [Value.ownBlock]))
theorem append_grew_string (t u ty e : TypeId) (i : TypeInfo) (ht : P.underlying t = some (.slice e)) (hu : P.underlying u = some .string) (hi : P.info? e = some i) (hz : i.zero = some (.int .u8 0))
  (hsize : i.size = 1) (hby : i.bytes = 1)
  (v : Value) (n : Nat) (xs : List Value) (hown : w.ownsRow 0 e 1 v n xs) (s : ByteArray) (h63 : n + s.size ≤ maxLen) (hbytes : n + s.size ≤ 140737488355328) :
  ∃ v' w', (Builtin.append_ #[t, u] ty #[v, .string s]).run P w = .ok v' w' ∧ Grew e 1 w w' v v' (n + s.size) (xs ++ Lib.strCells s) := by
 obtain ⟨v', w', hr, ho, hg, hnil⟩ := Lib.run_append_own_string (P := P) w 0 t u ty e i ht hu hi hz hsize hby v n xs hown s h63 hbytes (Nat.zero_le _)
 refine ⟨v', w', hr, ho, hg, ?_⟩
 rcases hown.2 with ⟨rfl, rfl⟩ | ⟨g, cap, cur, rfl, _, hgc, hnc, hcm, hcs, htake⟩
 ·by_cases h0 : s.size = 0
  ·have := hnil.2 ⟨rfl, h0⟩
   subst this
   exact .inl rfl
  ·have h := run_append_nil_string (P := P) w t u ty e i (.int .u8 0) ht hu hi hz s (by omega) (by unfold maxLen at h63; omega) (by rw [hby]; omega)
   rw [h] at hr
   injection hr with h2 h3
   exact .inr ⟨w.heap.size, by rw [← h2]; rfl, Nat.le_refl _⟩
 ·by_cases hroom : n + s.size ≤ cap
  ·have h := Lib.run_append_room_string (P := P) w t u ty e i ht hu hi hsize g n cap cur hgc s hroom (by omega)
   rw [h] at hr
   injection hr with h2 h3
   exact .inl (by rw [← h2]; rfl)
  ·have hxl : xs.length = n := by simpa using hown.1
   have h := Lib.run_append_grow_string (P := P) w t u ty e i (.int .u8 0) ht hu hi hz ⟨g, 0, none⟩ n cap xs (by rw [hsize]; omega) (fun j u hj => by
    have := hown.cells (g := g) rfl j u hj
    exact this) s (by omega) (by unfold maxLen at h63; omega) (growslice_fits (by omega) (by rw [hby]; omega))
   rw [h] at hr
   injection hr with h2 h3
   exact .inr ⟨w.heap.size, by rw [← h2]; rfl, Nat.le_refl _⟩
variable {ops : Array Oper} {rest : List Oper} {o : Oper} {a : Act} {Q : Exit → Act → World → Prop}
theorem wpList_append_grew (hgd : o.guard = none) (s x : Operand) (t : TypeId) (ho : o.op = .call { callee := .builtin .append, args := #[s, x], argTypes := #[t, t] })
  (e : TypeId) (i : TypeInfo) (z : Value) (size bytes : Nat) (ht : P.underlying t = some (.slice e)) (hi : P.info? e = some i) (hz : i.zero = some z)
  (hsize : i.size = size) (hby : i.bytes = bytes) (hzs : z.cells.size = size) (hsz : 0 < size)
  (v : Value) (n : Nat) (xs : List Value) (hs : a.eval s = v) (ad : Addr) (m c : Nat) (news : List Value) (hx : a.eval x = .slice (some ad) m c) (hl : news.length = m * size)
  (h1 : ∀ u ∈ news, u.oneCell' = true)
  (hown : w.ownsRow 0 e size v n xs) (hnews : ∀ j u, news[j]? = some u → w.cell? (ad.add j) = some u) (h63 : n + m ≤ maxLen) (hbytes : (n + m) * bytes ≤ 140737488355328)
  (h : ∀ v' w', Grew e size w w' v v' (n + m) (xs ++ news) → wpList P ops Q rest (a.put o.dst v') w') : wpList P ops Q (o :: rest) a w := by
 refine wpList_plain hgd fun K hK => ?_
 obtain ⟨v', w', hr, h2⟩ := append_grew (P := P) w t o.type e i z size bytes ht hi hz hsize hby hzs hsz v n xs hown ad m c news hl hnews h1 h63 hbytes
 unfold Oper.wp execOp
 simp only [ho, resolve, invoke, builtin, Sem.run_bind, Sem.run_pure, Result.andThen_ok, List.map_toArray, List.map_cons, List.map_nil, hs, hx, hr]
 exact hK _ _ (h v' w' h2)
theorem wpList_append_grew_string (hgd : o.guard = none) (s x : Operand) (t u : TypeId) (ho : o.op = .call { callee := .builtin .append, args := #[s, x], argTypes := #[t, u] })
  (e : TypeId) (i : TypeInfo) (ht : P.underlying t = some (.slice e)) (hu : P.underlying u = some .string) (hi : P.info? e = some i) (hz : i.zero = some (.int .u8 0))
  (hsize : i.size = 1) (hby : i.bytes = 1)
  (v : Value) (n : Nat) (xs : List Value) (hs : a.eval s = v) (str : ByteArray) (hx : a.eval x = .string str)
  (hown : w.ownsRow 0 e 1 v n xs) (h63 : n + str.size ≤ maxLen) (hbytes : n + str.size ≤ 140737488355328)
  (h : ∀ v' w', Grew e 1 w w' v v' (n + str.size) (xs ++ Lib.strCells str) → wpList P ops Q rest (a.put o.dst v') w') : wpList P ops Q (o :: rest) a w := by
 refine wpList_plain hgd fun K hK => ?_
 obtain ⟨v', w', hr, h2⟩ := append_grew_string (P := P) w t u o.type e i ht hu hi hz hsize hby v n xs hown str h63 hbytes
 unfold Oper.wp execOp
 simp only [ho, resolve, invoke, builtin, Sem.run_bind, Sem.run_pure, Result.andThen_ok, List.map_toArray, List.map_cons, List.map_nil, hs, hx, hr]
 exact hK _ _ (h v' w' h2)
end
end Go.Trawl
