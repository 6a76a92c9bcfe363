import Derived.Test.YtafoepfhepdcoaaGreatProg
import Derived.WalkKit
import Derived.WalkSpells
import Derived.WalkLawsBesides
import Derived.Outline
/- The document's P3 in plain words: messages, and their bytes. Nothing of the program. -/
namespace Go.Trawl

structure Qn where
  name : ByteArray
  kind : Int
  cls : Int
structure Rc where
  name : ByteArray
  kind : Int
  cls : Int
  ttl : Int
  data : ByteArray
structure Msg where
  id : Int
  resp : Bool
  op : Int
  own : Bool
  cut : Bool
  wanted : Bool
  able : Bool
  code : Int
  qs : List Qn
  an : List Rc
  au : List Rc
  ex : List Rc

/-- A byte of a string; 0 behind its end. -/
def at8 (s : ByteArray) (k : Nat) : Nat := (s.data.getD k 0).toNat

/-- The place behind the labels that stand from k on (n: rounds at most). -/
def beh (s : ByteArray) : Nat → Nat → Nat
  | 0, k => k
  | n + 1, k => if k < s.size ∧ 0 < at8 s k ∧ at8 s k ≤ 63 then beh s n (k + 1 + at8 s k) else k

def behind (s : ByteArray) (k : Nat) : Nat := beh s (s.size + 1 - k) k

def nameB (s : ByteArray) : Bool := decide (s.size ≤ 255 ∧ behind s 0 + 1 = s.size ∧ at8 s (behind s 0) = 0)

theorem at8_eq (s : ByteArray) (k : Nat) (h : k < s.size) : s[k].toNat = at8 s k := by
  have h' : k < s.data.size := h
  have e : s.data.getD k 0 = s.data[k] := by
    rw [Array.getD_eq_getD_getElem?, Array.getElem?_eq_getElem h']; rfl
  unfold at8
  rw [e]
  rfl

theorem beh_enough (s : ByteArray) : ∀ n m k, s.size + 1 - k ≤ n → s.size + 1 - k ≤ m → beh s n k = beh s m k
  | 0, 0, k, _, _ => rfl
  | 0, m + 1, k, h, _ => by
    unfold beh; rw [if_neg (by omega)]
  | n + 1, 0, k, _, h => by
    unfold beh; rw [if_neg (by omega)]
  | n + 1, m + 1, k, h, h' => by
    unfold beh
    split
    · exact beh_enough s n m _ (by omega) (by omega)
    · rfl

theorem behind_next (s : ByteArray) (k : Nat) (h : k < s.size) (h1 : 0 < at8 s k) (h2 : at8 s k ≤ 63) : behind s k = behind s (k + 1 + at8 s k) := by
  unfold behind
  have : s.size + 1 - k = (s.size - k) + 1 := by omega
  rw [this]
  conv => lhs; unfold beh
  rw [if_pos ⟨h, h1, h2⟩]
  exact beh_enough s _ _ _ (by omega) (by omega)

theorem behind_stop (s : ByteArray) (k : Nat) (h : ¬ (k < s.size ∧ 0 < at8 s k ∧ at8 s k ≤ 63)) : behind s k = k := by
  unfold behind
  cases s.size + 1 - k with
  | zero => rfl
  | succ n => unfold beh; rw [if_neg h]

theorem le_beh (s : ByteArray) : ∀ n k, k ≤ beh s n k
  | 0, k => Nat.le_refl _
  | n + 1, k => by
    unfold beh
    split
    · have := le_beh s n (k + 1 + at8 s k); omega
    · exact Nat.le_refl _

/-- A number's low two bytes, the higher first. -/
def two (n : Int) : List UInt8 := [UInt8.ofNat (n / 256 % 256).toNat, UInt8.ofNat (n % 256).toNat]

def bit (b : Bool) (n : Int) : Int := if b then n else 0

def flags (m : Msg) : Int := bit m.resp 32768 + 2048 * m.op + bit m.own 1024 + bit m.cut 512 + bit m.wanted 256 + bit m.able 128 + m.code

def head (m : Msg) : List UInt8 := two m.id ++ two (flags m) ++ two m.qs.length ++ two m.an.length ++ two m.au.length ++ two m.ex.length

def qbytes (q : Qn) : List UInt8 := q.name.data.toList ++ two q.kind ++ two q.cls
def rbytes (r : Rc) : List UInt8 := r.name.data.toList ++ two r.kind ++ two r.cls ++ two (r.ttl / 65536) ++ two (r.ttl % 65536) ++ two r.data.size ++ r.data.data.toList

def named (k : Int) : Bool := decide (k = 2 ∨ k = 5)
def okQ (q : Qn) : Bool := nameB q.name
def okR (r : Rc) : Bool := nameB r.name && (!named r.kind || nameB r.data)

def recs (m : Msg) : List Rc := m.an ++ m.au ++ m.ex
def body (m : Msg) : List UInt8 := m.qs.flatMap qbytes ++ (recs m).flatMap rbytes
def inRange (m : Msg) : Bool := decide (0 ≤ m.op ∧ m.op ≤ 15 ∧ 0 ≤ m.code ∧ m.code ≤ 15)
def packOk (m : Msg) : Bool := inRange m && m.qs.all okQ && (recs m).all okR && decide (12 + (body m).length ≤ 512)

def pack (m : Msg) : List UInt8 := head m ++ body m

theorem length_two (n : Int) : (two n).length = 2 := rfl
theorem length_head (m : Msg) : (head m).length = 12 := rfl
theorem length_qbytes (q : Qn) : (qbytes q).length = q.name.size + 4 := by
  simp [qbytes, length_two]
theorem length_rbytes (r : Rc) : (rbytes r).length = r.name.size + 10 + r.data.size := by
  simp [rbytes, length_two]; omega

theorem nameB_size {s : ByteArray} (h : nameB s = true) : 1 ≤ s.size ∧ s.size ≤ 255 := by
  unfold nameB at h
  have := of_decide_eq_true h
  omega

end Go.Trawl

/- Contracts of the leaves: functions of plain values. -/
namespace Go.Proofs.YtafoepfhepdcoaaGreat
open Go.RowKit Go.Trawl

theorem ret_bool {a b : Bool} (h : a = b) : Ending.returned (.bool a) = .returned (.bool b) := by rw [h]
theorem ret_int {k : IntKind} {a b : Int} (h : a = b) : Ending.returned (.int k a) = .returned (.int k b) := by rw [h]

set_option maxHeartbeats 400000 in
theorem refFlag_any (b : Bool) (n : Int) (w : World) :
    Calls Tryz.prog 45 #[.bool b, .int .i64 n] w fun e w' => e = .returned (.int .i64 (bit b n)) ∧ w' = w := by
  cases b
  all_goals
    go_enter Tryz.func45, Tryz.ntmps45
    go_wp2
    go_ret
    exact ⟨rfl, rfl⟩

theorem named_or (n : Int) : (n == 2 || n == 5) = named n := by
  unfold named
  by_cases h : n = 2 <;> by_cases h' : n = 5 <;> simp [h, h']

set_option maxHeartbeats 400000 in
theorem isNamed_any (n : Int) (w : World) :
    Calls Tryz.prog 48 #[.int .u16 n] w fun e w' => e = .returned (.bool (named n)) ∧ w' = w := by
  have hn := named_or n
  have Hn : Hid ((n == 2 || n == 5) = named n) := hn
  clear hn
  go_enter Tryz.func48, Tryz.ntmps48
  go_wp2
  · go_ret
    exact ⟨ret_bool (by rw [← Hn.out]; simp [*]), rfl⟩
  · go_ret
    exact ⟨ret_bool Hn.out, rfl⟩

set_option maxHeartbeats 400000 in
theorem isNameType_any (n : Int) (w : World) :
    Calls Tryz.prog 141 #[.int .u16 n] w fun e w' => e = .returned (.bool (named n)) ∧ w' = w := by
  have hn := named_or n
  have Hn : Hid ((n == 2 || n == 5) = named n) := hn
  clear hn
  go_enter Tryz.func141, Tryz.ntmps141
  go_wp2
  · go_ret
    exact ⟨ret_bool (by rw [← Hn.out]; simp [*]), rfl⟩
  · go_ret
    exact ⟨ret_bool Hn.out, rfl⟩

/-- One step of the way through the labels, as the walk tells it. -/
theorem lab_next {s : ByteArray} {k : Nat} (h : k < s.size) (h1 : 0 < s[k].toNat) (h2 : (s[k].toNat : Int) ≤ 63) : behind s k = behind s (k + 1 + s[k].toNat) := by
  rw [at8_eq s k h] at *
  exact behind_next s k h h1 (by omega)
theorem lab_stop1 {s : ByteArray} {k : Nat} (h : k < s.size) (h2 : 63 < (s[k].toNat : Int)) : behind s k = k := by
  rw [at8_eq s k h] at *
  exact behind_stop s k (by omega)
theorem lab_stop2 {s : ByteArray} {k : Nat} (h : k < s.size) (h2 : ¬ 0 < s[k].toNat) : behind s k = k := by
  rw [at8_eq s k h] at *
  exact behind_stop s k (by omega)
theorem lab_stop3 {s : ByteArray} {k : Nat} (h : ¬ k < s.size) : behind s k = k := behind_stop s k (by omega)

theorem name_no {s : ByteArray} {k : Nat} (hb : behind s 0 = k) (h : ¬ (k : Int) = (s.size : Int) - 1) : nameB s = false := by
  unfold nameB
  rw [hb]
  simp only [decide_eq_false_iff_not]
  omega
theorem name_long {s : ByteArray} (h : ¬ s.size ≤ 255) : nameB s = false := by
  unfold nameB
  simp only [decide_eq_false_iff_not]
  omega
theorem name_yes {s : ByteArray} {k : Nat} (hb : behind s 0 = k) (hs : s.size ≤ 255) (hk : (k : Int) = (s.size : Int) - 1) (h : s.size - 1 < s.size) : ((s[s.size - 1].toNat : Int) == 0) = nameB s := by
  rw [at8_eq s (s.size - 1) h]
  have e : s.size - 1 = behind s 0 := by omega
  unfold nameB
  rw [e]
  by_cases h0 : at8 s (behind s 0) = 0
  · simp [h0]; omega
  · have : ¬ ((at8 s (behind s 0) : Int) = 0) := by omega
    simp [h0]

set_option maxHeartbeats 1000000 in
theorem refIsName_any (s : ByteArray) (w : World) (hs : s.size ≤ maxLen) :
    Calls Tryz.prog 47 #[.string s] w fun e w' => e = .returned (.bool (nameB s)) ∧ w' = w := by
  unfold maxLen at hs
  by_cases h : s.size ≤ 255
  · go_enter Tryz.func47, Tryz.ntmps47
    go_wp2
    go_loop [3] (fun i => ∃ k : Nat, i = .int .i64 k ∧ k ≤ 1000 ∧ Hid (behind s 0 = behind s k)) (fun i => s.size - (intOf i).toNat)
    case atStart => exact ⟨0, rfl, by omega, rfl⟩
    case round =>
      obtain ⟨k, rfl, hk, hb⟩ := hrel
      by_cases hlt : k < s.size
      · go_wp2
        · have h1 : 0 < s[k].toNat := by assumption
          have h2 : (s[k].toNat : Int) ≤ 63 := by assumption
          exact ⟨⟨k + 1 + s[k].toNat, by go_num, by omega, hb.out.trans (lab_next hlt h1 h2)⟩, by simp [intOf]; omega⟩
        · go_ret
          exact ⟨ret_bool (name_yes (hb.out.trans (lab_stop1 hlt (by assumption))) h (by assumption) (by omega)), rfl⟩
        · go_ret
          exact ⟨ret_bool (name_no (hb.out.trans (lab_stop1 hlt (by assumption))) (by assumption)).symm, rfl⟩
        · go_ret
          exact ⟨ret_bool (name_yes (hb.out.trans (lab_stop2 hlt (by assumption))) h (by assumption) (by omega)), rfl⟩
        · go_ret
          exact ⟨ret_bool (name_no (hb.out.trans (lab_stop2 hlt (by assumption))) (by assumption)).symm, rfl⟩
      · go_wp2
        go_ret
        exact ⟨ret_bool (name_no (hb.out.trans (lab_stop3 hlt)) (by assumption)).symm, rfl⟩
  · have HN : Hid (nameB s = false) := name_long h
    go_enter Tryz.func47, Tryz.ntmps47
    go_wp2
    go_ret
    exact ⟨ret_bool HN.out.symm, rfl⟩
end Go.Proofs.YtafoepfhepdcoaaGreat
