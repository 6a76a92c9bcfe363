import Derived.Test.YtafoepfhepdcoaaGreatM1
import Derived.Test.YtafoepfhepdcoaaGreatM13
import Derived.BigQuiet
import Derived.Deep.QuietTactic
import Derived.WalkMore
import Derived.ScopeJumps
/- The document's P4 in plain words: bytes as messages. Nothing of the program. -/
namespace Go.Trawl

/-- The bytes from i up to j. -/
def cut (s : ByteArray) (i j : Nat) : List UInt8 := (s.data.toList.drop i).take (j - i)
theorem cut_length {s : ByteArray} {i j : Nat} (h : j ≤ s.size) : (cut s i j).length = j - i := by
  have h2 : s.data.toList.length = s.size := by simp
  unfold cut
  rw [List.length_take, List.length_drop, h2]
  omega
theorem cut_nil (s : ByteArray) (i : Nat) : cut s i i = [] := by
  unfold cut
  rw [Nat.sub_self]
  rfl
theorem cut_join {s : ByteArray} {i j k : Nat} (h1 : i ≤ j) (h2 : j ≤ k) : cut s i j ++ cut s j k = cut s i k := by
  unfold cut
  have e : k - i = (j - i) + (k - j) := by omega
  have e2 : s.data.toList.drop j = (s.data.toList.drop i).drop (j - i) := by rw [List.drop_drop]; congr 1; omega
  rw [e, List.take_add, e2]

theorem le_behind (s : ByteArray) (k : Nat) : k ≤ behind s k := le_beh s _ k
/-- Where a pointer leads. -/
def ptr (s : ByteArray) (i : Nat) : Nat := (at8 s i - 192) * 256 + at8 s (i + 1)
/-- The pieces of a name, and the place behind the first one. -/
def pieces (s : ByteArray) : Nat → Nat → Option (List UInt8 × Nat)
  | 0, _ => none
  | n + 1, k =>
    if behind s k < s.size then
      if at8 s (behind s k) = 0 then some (cut s k (behind s k) ++ [0], behind s k + 1)
      else if 192 ≤ at8 s (behind s k) ∧ behind s k + 1 < s.size ∧ ptr s (behind s k) < k then
        (pieces s n (ptr s (behind s k))).map fun r => (cut s k (behind s k) ++ r.1, behind s k + 2)
      else none
    else none
theorem pieces_enough (s : ByteArray) : ∀ n m k, k < n → k < m → pieces s n k = pieces s m k
  | 0, _, k, h, _ => by omega
  | _, 0, k, _, h => by omega
  | n + 1, m + 1, k, h, h' => by
    unfold pieces
    split
    · split
      · rfl
      · split
        · rename_i h3
          rw [pieces_enough s n m _ (by omega) (by omega)]
        · rfl
    · rfl
/-- A name, whole. -/
def whole (s : ByteArray) (k : Nat) : Option (List UInt8 × Nat) := pieces s (k + 1) k
theorem whole_end {s : ByteArray} {k : Nat} (h1 : behind s k < s.size) (h2 : at8 s (behind s k) = 0) : whole s k = some (cut s k (behind s k) ++ [0], behind s k + 1) := by
  unfold whole pieces
  rw [if_pos h1, if_pos h2]
theorem whole_on {s : ByteArray} {k : Nat} (h1 : behind s k < s.size) (h2 : 192 ≤ at8 s (behind s k)) (h3 : behind s k + 1 < s.size) (h4 : ptr s (behind s k) < k) :
    whole s k = (whole s (ptr s (behind s k))).map fun r => (cut s k (behind s k) ++ r.1, behind s k + 2) := by
  have h0 : ¬ at8 s (behind s k) = 0 := by omega
  unfold whole
  conv => lhs; unfold pieces
  rw [if_pos h1, if_neg h0, if_pos ⟨h2, h3, h4⟩, pieces_enough s k (ptr s (behind s k) + 1) _ h4 (by omega)]
theorem whole_no {s : ByteArray} {k : Nat} (h : ¬ (behind s k < s.size ∧ (at8 s (behind s k) = 0 ∨ 192 ≤ at8 s (behind s k) ∧ behind s k + 1 < s.size ∧ ptr s (behind s k) < k))) : whole s k = none := by
  unfold whole pieces
  split
  · rename_i h1
    split
    · rename_i h2
      exact absurd ⟨h1, .inl h2⟩ h
    · split
      · rename_i h3
        exact absurd ⟨h1, .inr h3⟩ h
      · rfl
  · rfl
theorem whole_ends {s : ByteArray} {k : Nat} {r : List UInt8 × Nat} (h : whole s k = some r) : r.2 ≤ s.size ∧ k < r.2 ∧ 0 < r.1.length := by
  by_cases hh : behind s k < s.size ∧ (at8 s (behind s k) = 0 ∨ 192 ≤ at8 s (behind s k) ∧ behind s k + 1 < s.size ∧ ptr s (behind s k) < k)
  · have hk := le_behind s k
    obtain ⟨h1, h2 | ⟨h2, h3, h4⟩⟩ := hh
    · rw [whole_end h1 h2] at h
      injection h with h
      subst h
      exact ⟨by dsimp only; omega, by dsimp only; omega, by simp⟩
    · rw [whole_on h1 h2 h3 h4] at h
      cases hr : whole s (ptr s (behind s k)) with
      | none => rw [hr] at h; cases h
      | some r2 =>
        have ih := whole_ends hr
        rw [hr] at h
        simp only [Option.map_some, Option.some.injEq] at h
        subst h
        refine ⟨by dsimp only; omega, by dsimp only; omega, ?_⟩
        dsimp only
        rw [List.length_append]
        omega
  · rw [whole_no hh] at h
    cases h
termination_by k
decreasing_by exact h4

/-- Readers of a message. -/
abbrev Par (α : Type) : Type := Nat → Option (α × Nat)
def Par.bind {α β : Type} (p : Par α) (f : α → Par β) : Par β := fun a => (p a).bind fun r => f r.1 r.2
def Par.pure {α : Type} (x : α) : Par α := fun a => some (x, a)
def Par.many {α : Type} (p : Par α) : Nat → Par (List α)
  | 0 => Par.pure []
  | n + 1 => (p.many n).bind fun xs => p.bind fun x => Par.pure (xs ++ [x])
/-- What was read, and how far: none: something is bad. -/
def Ran {α : Type} (p : Par α) (st : Option Nat) (x : α) (st' : Option Nat) : Prop := st' = (st.bind p).map (·.2) ∧ ∀ r, st.bind p = some r → r.1 = x

theorem Ran.pure {α : Type} (x : α) (st : Option Nat) : Ran (Par.pure x) st x st := by
  cases st with
  | none => exact ⟨rfl, fun r h => by cases h⟩
  | some a => exact ⟨rfl, fun r h => by cases h; rfl⟩
theorem Ran.bind {α β : Type} {p : Par α} {f : α → Par β} {st st1 st2 : Option Nat} {x : α} {y : β} (h : Ran p st x st1) (k : Ran (f x) st1 y st2) : Ran (p.bind f) st y st2 := by
  obtain ⟨rfl, h2⟩ := h
  obtain ⟨rfl, k2⟩ := k
  cases st with
  | none => exact ⟨rfl, fun r h => by cases h⟩
  | some a =>
    simp only [Option.bind_some] at h2 k2 ⊢
    cases hp : p a with
    | none =>
      have e : (p.bind f) a = none := by unfold Par.bind; rw [hp]; rfl
      exact ⟨by simp [e], fun r h => by simp [e] at h⟩
    | some r =>
      have hx := h2 r hp
      have e : (p.bind f) a = f x r.2 := by unfold Par.bind; rw [hp, ← hx]; rfl
      rw [hp] at k2
      simp only [Option.map_some, Option.bind_some] at k2
      refine ⟨by simp [e], fun q hq => k2 q ?_⟩
      simpa [e] using hq
theorem Ran.none_of {α : Type} {p : Par α} {x : α} {st' : Option Nat} (h : Ran p none x st') : st' = none := h.1
theorem Ran.bad {α : Type} (p : Par α) (x : α) : Ran p none x none := ⟨rfl, fun r h => by cases h⟩
theorem Ran.good {α : Type} {p : Par α} {a : Nat} {r : α × Nat} (h : p a = some r) : Ran p (some a) r.1 (some r.2) := ⟨by simp [h], fun q hq => by simp [h] at hq; rw [← hq]⟩
theorem Ran.fail {α : Type} {p : Par α} {a : Nat} (h : p a = none) (x : α) : Ran p (some a) x none := ⟨by simp [h], fun q hq => by simp [h] at hq⟩
theorem many_none {α : Type} {p : Par α} {i : Nat} {a : Nat} (h : p.many i a = none) : ∀ n, i ≤ n → p.many n a = none
  | 0, hn => by
    have : i = 0 := by omega
    subst this
    exact h
  | n + 1, hn => by
    by_cases e : i = n + 1
    · subst e; exact h
    · have := many_none h n (by omega)
      show (p.many n).bind _ a = none
      unfold Par.bind
      rw [this]
      rfl
/-- What is bad stays so. -/
theorem Ran.stop {α : Type} {p : Par α} {i n : Nat} {st : Option Nat} {xs : List α} (h : Ran (p.many i) st xs none) (hn : i ≤ n) (ys : List α) : Ran (p.many n) st ys none := by
  cases st with
  | none => exact Ran.bad _ _
  | some a =>
    have h1 := h.1
    simp only [Option.bind_some] at h1
    have h2 : p.many i a = none := by
      cases hp : p.many i a with
      | none => rfl
      | some r => rw [hp] at h1; cases h1
    exact Ran.fail (many_none h2 n hn) ys
theorem Ran.more {α : Type} {p : Par α} {i : Nat} {st st1 st2 : Option Nat} {xs : List α} {x : α} (h : Ran (p.many i) st xs st1) (k : Ran p st1 x st2) : Ran (p.many (i + 1)) st (xs ++ [x]) st2 :=
  h.bind (k.bind (Ran.pure _ _))
theorem Ran.same {α : Type} {p : Par α} {st st1 st2 : Option Nat} {x y : α} (h : Ran p st x st1) (k : Ran p st y st2) : st1 = st2 ∧ (∀ a, st1 = some a → x = y) := by
  refine ⟨h.1.trans k.1.symm, fun a ha => ?_⟩
  cases hr : st.bind p with
  | none => rw [h.1, hr] at ha; cases ha
  | some r => exact (h.2 r hr).symm.trans (k.2 r hr)
theorem Ran.le {α : Type} {p : Par α} {st : Option Nat} {x : α} {st' : Option Nat} (h : Ran p st x st') : ∀ a', st' = some a' → ∃ a, st = some a ∧ p a = some (x, a') := by
  intro a' h'
  rw [h'] at h
  have h1 := h.1
  cases st with
  | none => cases h1
  | some a =>
    simp only [Option.bind_some] at h1
    cases hp : p a with
    | none => rw [hp] at h1; cases h1
    | some r =>
      rw [hp] at h1
      have h2 := h.2 r (by simp [hp])
      refine ⟨a, rfl, ?_⟩
      rw [hp]
      injection h1 with h1
      rw [h1, ← h2]

def n2 (s : ByteArray) (a : Nat) : Nat := at8 s a * 256 + at8 s (a + 1)
def n4 (s : ByteArray) (a : Nat) : Nat := n2 s a * 65536 + n2 s (a + 2)
def num2 (s : ByteArray) : Par Int := fun a => if a + 2 ≤ s.size then some ((n2 s a : Int), a + 2) else none
def num4 (s : ByteArray) : Par Int := fun a => if a + 4 ≤ s.size then some ((n4 s a : Int), a + 4) else none
def pName (s : ByteArray) : Par ByteArray := fun a => (whole s a).bind fun r => if r.1.length ≤ 255 then some (⟨r.1.toArray⟩, r.2) else none
def pText (s : ByteArray) (n : Nat) : Par ByteArray := fun a => if a + n ≤ s.size then some (⟨(cut s a (a + n)).toArray⟩, a + n) else none
/-- Data: a name that has so many bytes, or so many bytes. -/
def pData (s : ByteArray) (k : Int) (n : Nat) : Par ByteArray := fun a => if named k then (pName s a).bind fun r => if r.2 = a + n then some r else none else pText s n a
def pQ (s : ByteArray) : Par Qn := (pName s).bind fun n => (num2 s).bind fun t => (num2 s).bind fun c => Par.pure ⟨n, t, c⟩
def pR (s : ByteArray) : Par Rc := (pName s).bind fun n => (num2 s).bind fun t => (num2 s).bind fun c => (num4 s).bind fun l => (num2 s).bind fun k => (pData s t k.toNat).bind fun d => Par.pure ⟨n, t, c, l, d⟩
/-- A message without its lists, out of its second number. -/
def flagged (id f : Int) (qs : List Qn) (an au ex : List Rc) : Msg :=
  ⟨id, decide (f / 32768 % 2 = 1), f / 2048 % 16, decide (f / 1024 % 2 = 1), decide (f / 512 % 2 = 1), decide (f / 256 % 2 = 1), decide (f / 128 % 2 = 1), f % 16, qs, an, au, ex⟩
def pM (s : ByteArray) : Par Msg := (num2 s).bind fun id => (num2 s).bind fun f => (num2 s).bind fun q => (num2 s).bind fun a => (num2 s).bind fun u => (num2 s).bind fun x =>
  ((pQ s).many q.toNat).bind fun qs => ((pR s).many a.toNat).bind fun an => ((pR s).many u.toNat).bind fun au => ((pR s).many x.toNat).bind fun ex => Par.pure (flagged id f qs an au ex)
def unpack (s : ByteArray) : Option Msg := if s.size ≤ 512 then (pM s 0).bind fun r => if r.2 = s.size then some r.1 else none else none

theorem at8_lt (s : ByteArray) (k : Nat) : at8 s k < 256 := (s.data.getD k 0).toNat_lt
theorem n2_lt (s : ByteArray) (a : Nat) : n2 s a ≤ 65535 := by
  have h1 := at8_lt s a
  have h2 := at8_lt s (a + 1)
  unfold n2
  omega
theorem n4_lt (s : ByteArray) (a : Nat) : n4 s a ≤ 4294967295 := by
  have h1 := n2_lt s a
  have h2 := n2_lt s (a + 2)
  unfold n4
  omega
theorem pName_ends {s : ByteArray} {a : Nat} {r : ByteArray × Nat} (h : pName s a = some r) : r.2 ≤ s.size ∧ a < r.2 ∧ r.1.size ≤ 255 := by
  unfold pName at h
  cases hw : whole s a with
  | none => rw [hw] at h; cases h
  | some q =>
    rw [hw] at h
    simp only [Option.bind_some] at h
    split at h
    · have := whole_ends hw
      cases h
      exact ⟨this.1, this.2.1, by assumption⟩
    · cases h
end Go.Trawl

/- Reading a name. -/
namespace Go.Proofs.YtafoepfhepdcoaaGreat
open Go.RowKit Go.Trawl

/-- A block holds these bytes. -/
def Bytes (w : World) (b : Nat) (s : ByteArray) : Prop := ∀ k, k < s.size → w.cell? ⟨b, k, none⟩ = some (.int .u8 (at8 s k))

set_option maxHeartbeats 1000000 in
theorem behindB (w : World) (b c : Nat) (s : ByteArray) (a0 : Nat) (hs : s.size ≤ 512) (ha : a0 ≤ 1000) (hc : Bytes w b s) :
    Calls Tryz.prog 168 #[.slice (some ⟨b, 0, none⟩) s.size c, .int .i64 a0] w fun e w' => e = .returned (.int .i64 (behind s a0)) ∧ w' = w := by
  have HC := hide hc
  clear hc
  go_enter Tryz.func168, Tryz.ntmps168
  go_wp2
  go_loop [1] (fun i => ∃ k : Nat, i = .int .i64 k ∧ k ≤ 1000 ∧ Hid (behind s a0 = behind s k)) (fun i => 2000 - (intOf i).toNat)
  case atStart => exact ⟨a0, rfl, ha, rfl⟩
  case round =>
    obtain ⟨k, rfl, hk, hb⟩ := hrel
    by_cases hlt : k < s.size
    · have hcell := HC.out k hlt
      have hl8 := at8_lt s k
      by_cases h1 : 0 < at8 s k
      · by_cases h2 : at8 s k ≤ 63
        · have HE : Hid (behind s k = behind s (k + 1 + at8 s k)) := behind_next s k hlt h1 h2
          go_wp2
          exact ⟨⟨k + 1 + at8 s k, by go_num, by omega, hb.out.trans HE.out⟩, by simp [intOf]; omega⟩
        · have HE : Hid (behind s k = k) := behind_stop s k (by omega)
          go_wp2
          go_ret
          exact ⟨ret_int (by rw [hb.out, HE.out]), rfl⟩
      · have HE : Hid (behind s k = k) := behind_stop s k (by omega)
        go_wp2
        go_ret
        exact ⟨ret_int (by rw [hb.out, HE.out]), rfl⟩
    · have HE : Hid (behind s k = k) := behind_stop s k (by omega)
      go_wp2
      go_ret
      exact ⟨ret_int (by rw [hb.out, HE.out]), rfl⟩

set_option maxHeartbeats 1000000 in
theorem behindPiece_any (w : World) (i : Nat) (p : Bool) (hi : i ≤ 512) :
    Calls Tryz.prog 170 #[.int .i64 i, .bool p] w fun e w' => e = .returned (.int .i64 ((if p then i + 2 else i + 1 : Nat) : Int)) ∧ w' = w := by
  cases p
  all_goals
    go_enter Tryz.func170, Tryz.ntmps170
    go_wp2
    go_ret
    exact ⟨rfl, rfl⟩

def isPtr (s : ByteArray) (i : Nat) : Bool := decide (i + 1 < s.size ∧ 192 ≤ at8 s i)
set_option maxHeartbeats 1000000 in
theorem pointerAt_at (w : World) (b c : Nat) (s : ByteArray) (i : Nat) (hs : s.size ≤ 512) (hi : i < s.size) (hc : Bytes w b s) (v : Int) (p : Bool) (hp : Hid (isPtr s i = p)) (hv : Hid (v = if isPtr s i then (ptr s i : Int) else 0)) :
    Calls Tryz.prog 169 #[.slice (some ⟨b, 0, none⟩) s.size c, .int .i64 i] w fun e w' =>
      e = .returned (.tuple #[.int .i64 v, .bool p]) ∧ ∃ n, w' = w.drewN n := by
  have h0 := hc i hi
  have hl8 := at8_lt s i
  by_cases h1 : i + 1 < s.size
  · have h2 := hc (i + 1) h1
    have hl9 := at8_lt s (i + 1)
    clear hc
    by_cases h3 : 192 ≤ at8 s i
    · have HP : Hid (true = p) := (show isPtr s i = true from decide_eq_true ⟨h1, h3⟩).symm.trans hp.out
      have HV : Hid ((at8 s i : Int) * 256 + (at8 s (i + 1) : Int) - 49152 = v) := by
        unfold Hid
        rw [hv.out, if_pos (show isPtr s i = true from decide_eq_true ⟨h1, h3⟩)]
        unfold ptr
        omega
      clear hp hv
      go_enter Tryz.func169, Tryz.ntmps169
      go_wp2_with fail
      go_quiet (fail)
      go_wp2_with fail
      go_ret2
      exact ⟨by rw [← HV.out, ← HP.out]; rfl, nq, rfl⟩
    · have HP : Hid (false = p) := (show isPtr s i = false from decide_eq_false (by omega)).symm.trans hp.out
      have HV : Hid (0 = v) := by
        unfold Hid
        rw [hv.out, if_neg (by rw [show isPtr s i = false from decide_eq_false (by omega)]; decide)]
      clear hp hv
      go_enter Tryz.func169, Tryz.ntmps169
      go_wp2_with fail
      go_ret2
      exact ⟨by rw [← HV.out, ← HP.out]; rfl, 0, rfl⟩
  · clear hc
    have HP : Hid (false = p) := (show isPtr s i = false from decide_eq_false (by omega)).symm.trans hp.out
    have HV : Hid (0 = v) := by
      unfold Hid
      rw [hv.out, if_neg (by rw [show isPtr s i = false from decide_eq_false (by omega)]; decide)]
    clear hp hv
    go_enter Tryz.func169, Tryz.ntmps169
    go_wp2_with fail
    go_ret2
    exact ⟨by rw [← HV.out, ← HP.out]; rfl, 0, rfl⟩
end Go.Proofs.YtafoepfhepdcoaaGreat
