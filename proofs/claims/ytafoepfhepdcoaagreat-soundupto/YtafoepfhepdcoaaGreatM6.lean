import Derived.Test.YtafoepfhepdcoaaGreatM1
import Derived.Test.YtafoepfhepdcoaaGreatM5
import Derived.BigQuiet
import Derived.Deep.QuietTactic
import Derived.WalkMore
import Derived.ScopeJumps
import Derived.Test.YtafoepfhepdcoaaGreatM3
set_option maxRecDepth 100000
set_option maxHeartbeats 8000000
namespace Go.Trawl
def cut (s : ByteArray) (i j : Nat) : List UInt8 := (s.data.toList.drop i).take (j - i)
theorem cut_length {s : ByteArray} {i j : Nat} (h : j ≤ s.size) : (cut s i j).length = j - i := by
 have h2 : s.data.toList.length = s.size := by simp
 unfold cut
 rw [List.length_take, List.length_drop, h2]
 omega
theorem cut_nil (s : ByteArray) (i : Nat) : cut s i i = [] := by
 unfold cut
 rw [Nat.sub_self]
 rfl
theorem cut_join {s : ByteArray} {i j k : Nat} (h1 : i ≤ j) (h2 : j ≤ k) : cut s i j ++ cut s j k = cut s i k := by
 unfold cut
 have e : k - i = (j - i) + (k - j) := by omega
 have e2 : s.data.toList.drop j = (s.data.toList.drop i).drop (j - i) := by rw [List.drop_drop]; congr 1; omega
 rw [e, List.take_add, e2]
theorem le_behind (s : ByteArray) (k : Nat) : k ≤ behind s k := le_beh s _ k
def ptr (s : ByteArray) (i : Nat) : Nat := (at8 s i - 192) * 256 + at8 s (i + 1)
def pieces (s : ByteArray) : Nat → Nat → Option (List UInt8 × Nat)
 | 0, _ => none
 | n + 1, k =>
  if behind s k < s.size then
   if at8 s (behind s k) = 0 then some (cut s k (behind s k) ++ [0], behind s k + 1)
   else if 192 ≤ at8 s (behind s k) ∧ behind s k + 1 < s.size ∧ ptr s (behind s k) < k then
    (pieces s n (ptr s (behind s k))).map fun r => (cut s k (behind s k) ++ r.1, behind s k + 2)
   else none
  else none
theorem pieces_enough (s : ByteArray) : ∀ n m k, k < n → k < m → pieces s n k = pieces s m k
 | 0, _, k, h, _ => by omega
 | _, 0, k, _, h => by omega
 | n + 1, m + 1, k, h, h' => by
  unfold pieces
  split
  ·split
   ·rfl
   ·split
    ·rename_i h3
     rw [pieces_enough s n m _ (by omega) (by omega)]
    ·rfl
  ·rfl
def whole (s : ByteArray) (k : Nat) : Option (List UInt8 × Nat) := pieces s (k + 1) k
theorem whole_end {s : ByteArray} {k : Nat} (h1 : behind s k < s.size) (h2 : at8 s (behind s k) = 0) : whole s k = some (cut s k (behind s k) ++ [0], behind s k + 1) := by
 unfold whole pieces
 rw [if_pos h1, if_pos h2]
theorem whole_on {s : ByteArray} {k : Nat} (h1 : behind s k < s.size) (h2 : 192 ≤ at8 s (behind s k)) (h3 : behind s k + 1 < s.size) (h4 : ptr s (behind s k) < k) :
  whole s k = (whole s (ptr s (behind s k))).map fun r => (cut s k (behind s k) ++ r.1, behind s k + 2) := by
 have h0 : ¬ at8 s (behind s k) = 0 := by omega
 unfold whole
 conv => lhs; unfold pieces
 rw [if_pos h1, if_neg h0, if_pos ⟨h2, h3, h4⟩, pieces_enough s k (ptr s (behind s k) + 1) _ h4 (by omega)]
theorem whole_no {s : ByteArray} {k : Nat} (h : ¬ (behind s k < s.size ∧ (at8 s (behind s k) = 0 ∨ 192 ≤ at8 s (behind s k) ∧ behind s k + 1 < s.size ∧ ptr s (behind s k) < k))) : whole s k = none := by
 unfold whole pieces
 split
 ·rename_i h1
  split
  ·rename_i h2
   exact absurd ⟨h1, .inl h2⟩ h
  ·split
   ·rename_i h3
    exact absurd ⟨h1, .inr h3⟩ h
   ·rfl
 ·rfl
theorem whole_ends {s : ByteArray} {k : Nat} {r : List UInt8 × Nat} (h : whole s k = some r) : r.2 ≤ s.size ∧ k < r.2 ∧ 0 < r.1.length := by
 by_cases hh : behind s k < s.size ∧ (at8 s (behind s k) = 0 ∨ 192 ≤ at8 s (behind s k) ∧ behind s k + 1 < s.size ∧ ptr s (behind s k) < k)
 ·have hk := le_behind s k
  obtain ⟨h1, h2 | ⟨h2, h3, h4⟩⟩ := hh
  ·rw [whole_end h1 h2] at h
   injection h with h
   subst h
   exact ⟨by dsimp only; omega, by dsimp only; omega, by simp⟩
  ·rw [whole_on h1 h2 h3 h4] at h
   cases hr : whole s (ptr s (behind s k)) with
   | none => rw [hr] at h; cases h
   | some r2 =>
    have ih := whole_ends hr
    rw [hr] at h
    simp only [Option.map_some, Option.some.injEq] at h
    subst h
    refine ⟨by dsimp only; omega, by dsimp only; omega, ?_⟩
    dsimp only
    rw [List.length_append]
    omega
 ·rw [whole_no hh] at h
  cases h
termination_by k
decreasing_by exact h4
abbrev Par (α : Type) : Type := Nat → Option (α × Nat)
def Par.bind {α β : Type} (p : Par α) (f : α → Par β) : Par β := fun a => (p a).bind fun r => f r.1 r.2
def Par.pure {α : Type} (x : α) : Par α := fun a => some (x, a)
def Par.many {α : Type} (p : Par α) : Nat → Par (List α)
 | 0 => Par.pure []
 | n + 1 => (p.many n).bind fun xs => p.bind fun x => Par.pure (xs ++ [x])
def Ran {α : Type} (p : Par α) (st : Option Nat) (x : α) (st' : Option Nat) : Prop := st' = (st.bind p).map (·.2) ∧ ∀ r, st.bind p = some r → r.1 = x
theorem Ran.pure {α : Type} (x : α) (st : Option Nat) : Ran (Par.pure x) st x st := by
 cases st with
 | none => exact ⟨rfl, fun r h => by cases h⟩
 | some a => exact ⟨rfl, fun r h => by cases h; rfl⟩
theorem Ran.bind {α β : Type} {p : Par α} {f : α → Par β} {st st1 st2 : Option Nat} {x : α} {y : β} (h : Ran p st x st1) (k : Ran (f x) st1 y st2) : Ran (p.bind f) st y st2 := by
 obtain ⟨rfl, h2⟩ := h
 obtain ⟨rfl, k2⟩ := k
 cases st with
 | none => exact ⟨rfl, fun r h => by cases h⟩
 | some a =>
  simp only [Option.bind_some] at h2 k2 ⊢
  cases hp : p a with
  | none =>
   have e : (p.bind f) a = none := by unfold Par.bind; rw [hp]; rfl
   exact ⟨by simp [e], fun r h => by simp [e] at h⟩
  | some r =>
   have hx := h2 r hp
   have e : (p.bind f) a = f x r.2 := by unfold Par.bind; rw [hp, ← hx]; rfl
   rw [hp] at k2
   simp only [Option.map_some, Option.bind_some] at k2
   refine ⟨by simp [e], fun q hq => k2 q ?_⟩
   simpa [e] using hq
theorem Ran.none_of {α : Type} {p : Par α} {x : α} {st' : Option Nat} (h : Ran p none x st') : st' = none := h.1
theorem Ran.bad {α : Type} (p : Par α) (x : α) : Ran p none x none := ⟨rfl, fun r h => by cases h⟩
theorem Ran.good {α : Type} {p : Par α} {a : Nat} {r : α × Nat} (h : p a = some r) : Ran p (some a) r.1 (some r.2) := ⟨by simp [h], fun q hq => by simp [h] at hq; rw [← hq]⟩
theorem Ran.fail {α : Type} {p : Par α} {a : Nat} (h : p a = none) (x : α) : Ran p (some a) x none := ⟨by simp [h], fun q hq => by simp [h] at hq⟩
theorem many_none {α : Type} {p : Par α} {i : Nat} {a : Nat} (h : p.many i a = none) : ∀ n, i ≤ n → p.many n a = none
 | 0, hn => by
  have : i = 0 := by omega
  subst this
  exact h
 | n + 1, hn => by
  by_cases e : i = n + 1
  ·subst e; exact h
  ·have := many_none h n (by omega)
   show (p.many n).bind _ a = none
   unfold Par.bind
   rw [this]
   rfl
theorem Ran.stop {α : Type} {p : Par α} {i n : Nat} {st : Option Nat} {xs : List α} (h : Ran (p.many i) st xs none) (hn : i ≤ n) (ys : List α) : Ran (p.many n) st ys none := by
 cases st with
 | none => exact Ran.bad _ _
 | some a =>
  have h1 := h.1
  simp only [Option.bind_some] at h1
  have h2 : p.many i a = none := by
   cases hp : p.many i a with
   | none => rfl
   | some r => rw [hp] at h1; cases h1
  exact Ran.fail (many_none h2 n hn) ys
theorem Ran.more {α : Type} {p : Par α} {i : Nat} {st st1 st2 : Option Nat} {xs : List α} {x : α} (h : Ran (p.many i) st xs st1) (k : Ran p st1 x st2) : Ran (p.many (i + 1)) st (xs ++ [x]) st2 :=
 h.bind (k.bind (Ran.pure _ _))
theorem Ran.same {α : Type} {p : Par α} {st st1 st2 : Option Nat} {x y : α} (h : Ran p st x st1) (k : Ran p st y st2) : st1 = st2 ∧ (∀ a, st1 = some a → x = y) := by
 refine ⟨h.1.trans k.1.symm, fun a ha => ?_⟩
 cases hr : st.bind p with
 | none => rw [h.1, hr] at ha; cases ha
 | some r => exact (h.2 r hr).symm.trans (k.2 r hr)
theorem Ran.le {α : Type} {p : Par α} {st : Option Nat} {x : α} {st' : Option Nat} (h : Ran p st x st') : ∀ a', st' = some a' → ∃ a, st = some a ∧ p a = some (x, a') := by
 intro a' h'
 rw [h'] at h
 have h1 := h.1
 cases st with
 | none => cases h1
 | some a =>
  simp only [Option.bind_some] at h1
  cases hp : p a with
  | none => rw [hp] at h1; cases h1
  | some r =>
   rw [hp] at h1
   have h2 := h.2 r (by simp [hp])
   refine ⟨a, rfl, ?_⟩
   rw [hp]
   injection h1 with h1
   rw [h1, ← h2]
def n2 (s : ByteArray) (a : Nat) : Nat := at8 s a * 256 + at8 s (a + 1)
def n4 (s : ByteArray) (a : Nat) : Nat := n2 s a * 65536 + n2 s (a + 2)
def num2 (s : ByteArray) : Par Int := fun a => if a + 2 ≤ s.size then some ((n2 s a : Int), a + 2) else none
def num4 (s : ByteArray) : Par Int := fun a => if a + 4 ≤ s.size then some ((n4 s a : Int), a + 4) else none
def pName (s : ByteArray) : Par ByteArray := fun a => (whole s a).bind fun r => if r.1.length ≤ 255 then some (⟨r.1.toArray⟩, r.2) else none
def pText (s : ByteArray) (n : Nat) : Par ByteArray := fun a => if a + n ≤ s.size then some (⟨(cut s a (a + n)).toArray⟩, a + n) else none
def pData (s : ByteArray) (k : Int) (n : Nat) : Par ByteArray := fun a => if named k then (pName s a).bind fun r => if r.2 = a + n then some r else none else pText s n a
def pQ (s : ByteArray) : Par Qn := (pName s).bind fun n => (num2 s).bind fun t => (num2 s).bind fun c => Par.pure ⟨n, t, c⟩
def pR (s : ByteArray) : Par Rc := (pName s).bind fun n => (num2 s).bind fun t => (num2 s).bind fun c => (num4 s).bind fun l => (num2 s).bind fun k => (pData s t k.toNat).bind fun d => Par.pure ⟨n, t, c, l, d⟩
def flagged (id f : Int) (qs : List Qn) (an au ex : List Rc) : Msg :=
 ⟨id, decide (f / 32768 % 2 = 1), f / 2048 % 16, decide (f / 1024 % 2 = 1), decide (f / 512 % 2 = 1), decide (f / 256 % 2 = 1), decide (f / 128 % 2 = 1), f % 16, qs, an, au, ex⟩
def pM (s : ByteArray) : Par Msg := (num2 s).bind fun id => (num2 s).bind fun f => (num2 s).bind fun q => (num2 s).bind fun a => (num2 s).bind fun u => (num2 s).bind fun x =>
 ((pQ s).many q.toNat).bind fun qs => ((pR s).many a.toNat).bind fun an => ((pR s).many u.toNat).bind fun au => ((pR s).many x.toNat).bind fun ex => Par.pure (flagged id f qs an au ex)
def unpack (s : ByteArray) : Option Msg := if s.size ≤ 512 then (pM s 0).bind fun r => if r.2 = s.size then some r.1 else none else none
theorem at8_lt (s : ByteArray) (k : Nat) : at8 s k < 256 := (s.data.getD k 0).toNat_lt
theorem n2_lt (s : ByteArray) (a : Nat) : n2 s a ≤ 65535 := by
 have h1 := at8_lt s a
 have h2 := at8_lt s (a + 1)
 unfold n2
 omega
theorem n4_lt (s : ByteArray) (a : Nat) : n4 s a ≤ 4294967295 := by
 have h1 := n2_lt s a
 have h2 := n2_lt s (a + 2)
 unfold n4
 omega
theorem pName_ends {s : ByteArray} {a : Nat} {r : ByteArray × Nat} (h : pName s a = some r) : r.2 ≤ s.size ∧ a < r.2 ∧ r.1.size ≤ 255 := by
 unfold pName at h
 cases hw : whole s a with
 | none => rw [hw] at h; cases h
 | some q =>
  rw [hw] at h
  simp only [Option.bind_some] at h
  split at h
  ·have := whole_ends hw
   cases h
   exact ⟨this.1, this.2.1, by assumption⟩
  ·cases h
end Go.Trawl
namespace Go.Proofs.YtafoepfhepdcoaaGreat
open Go.RowKit Go.Trawl
def Bytes (w : World) (b : Nat) (s : ByteArray) : Prop := ∀ k, k < s.size → w.cell? ⟨b, k, none⟩ = some (.int .u8 (at8 s k))
theorem behindB (w : World) (b c : Nat) (s : ByteArray) (a0 : Nat) (hs : s.size ≤ 512) (ha : a0 ≤ 1000) (hc : Bytes w b s) :
  Calls Tryz.prog 168 #[.slice (some ⟨b, 0, none⟩) s.size c, .int .i64 a0] w fun e w' => e = .returned (.int .i64 (behind s a0)) ∧ w' = w := by
 have HC := hide hc
 clear hc
 go_enter Tryz.func168, Tryz.ntmps168
 go_wp2
 go_loop [1] (fun i => ∃ k : Nat, i = .int .i64 k ∧ k ≤ 1000 ∧ Hid (behind s a0 = behind s k)) (fun i => 2000 - (intOf i).toNat)
 case atStart => exact ⟨a0, rfl, ha, rfl⟩
 case round =>
  obtain ⟨k, rfl, hk, hb⟩ := hrel
  by_cases hlt : k < s.size
  ·have hcell := HC.out k hlt
   have hl8 := at8_lt s k
   by_cases h1 : 0 < at8 s k
   ·by_cases h2 : at8 s k ≤ 63
    ·have HE : Hid (behind s k = behind s (k + 1 + at8 s k)) := behind_next s k hlt h1 h2
     go_wp2
     exact ⟨⟨k + 1 + at8 s k, by go_num, by omega, hb.out.trans HE.out⟩, by simp [intOf]; omega⟩
    ·have HE : Hid (behind s k = k) := behind_stop s k (by omega)
     go_wp2
     go_ret
     exact ⟨ret_int (by rw [hb.out, HE.out]), rfl⟩
   ·have HE : Hid (behind s k = k) := behind_stop s k (by omega)
    go_wp2
    go_ret
    exact ⟨ret_int (by rw [hb.out, HE.out]), rfl⟩
  ·have HE : Hid (behind s k = k) := behind_stop s k (by omega)
   go_wp2
   go_ret
   exact ⟨ret_int (by rw [hb.out, HE.out]), rfl⟩
theorem behindPiece_any (w : World) (i : Nat) (p : Bool) (hi : i ≤ 512) :
  Calls Tryz.prog 170 #[.int .i64 i, .bool p] w fun e w' => e = .returned (.int .i64 ((if p then i + 2 else i + 1 : Nat) : Int)) ∧ w' = w := by
 cases p
 all_goals
  go_enter Tryz.func170, Tryz.ntmps170
  go_wp2
  go_ret
  exact ⟨rfl, rfl⟩
def isPtr (s : ByteArray) (i : Nat) : Bool := decide (i + 1 < s.size ∧ 192 ≤ at8 s i)
theorem pointerAt_at (w : World) (b c : Nat) (s : ByteArray) (i : Nat) (hs : s.size ≤ 512) (hi : i < s.size) (hc : Bytes w b s) (v : Int) (p : Bool) (hp : Hid (isPtr s i = p)) (hv : Hid (v = if isPtr s i then (ptr s i : Int) else 0)) :
  Calls Tryz.prog 169 #[.slice (some ⟨b, 0, none⟩) s.size c, .int .i64 i] w fun e w' =>
   e = .returned (.tuple #[.int .i64 v, .bool p]) ∧ ∃ n, w' = w.drewN n := by
 have h0 := hc i hi
 have hl8 := at8_lt s i
 by_cases h1 : i + 1 < s.size
 ·have h2 := hc (i + 1) h1
  have hl9 := at8_lt s (i + 1)
  clear hc
  by_cases h3 : 192 ≤ at8 s i
  ·have HP : Hid (true = p) := (show isPtr s i = true from decide_eq_true ⟨h1, h3⟩).symm.trans hp.out
   have HV : Hid ((at8 s i : Int) * 256 + (at8 s (i + 1) : Int) - 49152 = v) := by
    unfold Hid
    rw [hv.out, if_pos (show isPtr s i = true from decide_eq_true ⟨h1, h3⟩)]
    unfold ptr
    omega
   clear hp hv
   go_enter Tryz.func169, Tryz.ntmps169
   go_wp2_with fail
   go_quiet (fail)
   go_wp2_with fail
   go_ret2
   exact ⟨by rw [← HV.out, ← HP.out]; rfl, nq, rfl⟩
  ·have HP : Hid (false = p) := (show isPtr s i = false from decide_eq_false (by omega)).symm.trans hp.out
   have HV : Hid (0 = v) := by
    unfold Hid
    rw [hv.out, if_neg (by rw [show isPtr s i = false from decide_eq_false (by omega)]; decide)]
   clear hp hv
   go_enter Tryz.func169, Tryz.ntmps169
   go_wp2_with fail
   go_ret2
   exact ⟨by rw [← HV.out, ← HP.out]; rfl, 0, rfl⟩
 ·clear hc
  have HP : Hid (false = p) := (show isPtr s i = false from decide_eq_false (by omega)).symm.trans hp.out
  have HV : Hid (0 = v) := by
   unfold Hid
   rw [hv.out, if_neg (by rw [show isPtr s i = false from decide_eq_false (by omega)]; decide)]
  clear hp hv
  go_enter Tryz.func169, Tryz.ntmps169
  go_wp2_with fail
  go_ret2
  exact ⟨by rw [← HV.out, ← HP.out]; rfl, 0, rfl⟩
theorem wp_scope_back {P : Program} {a : Act} {w : World} {Q : Exit → Act → World → Prop} {pre rest : Code} (l : Nat) (J : Act → World → Prop) (μ : Act → World → Nat) (hf : findLabel (pre.seq ((Code.label l).seq rest)) l = some (Code.skip.seq rest))
  (first : pre.wp P (fun e a w => e = .normal ∧ J a w) a w)
  (pass : ∀ a w, J a w → rest.wp P (Exit.jump l (fun a' w' => J a' w' ∧ μ a' w' < μ a w) Q) a w) : (Code.scope (pre.seq ((Code.label l).seq rest))).wp P Q a w := by
 refine wp_scope_jumps l J μ hf (wp_seq (wp_mono first ?_)) fun a w h => wp_seq (wp_skip (pass a w h))
 rintro e a' w' ⟨rfl, hJ⟩
 refine wp_seq (wp_label ?_)
 refine wp_mono (pass a' w' hJ) ?_
 intro e a2 w2 h
 cases e with
 | goto l' => exact ⟨h.1, h.2.1⟩
 | _ => exact h
def comb (s : ByteArray) (k : Nat) (l : List UInt8) (e : Nat) : Option (ByteArray × Nat) := (whole s k).bind fun r => if l.length + r.1.length ≤ 255 then some (⟨(l ++ r.1).toArray⟩, if e = 0 then r.2 else e) else none
theorem comb_start (s : ByteArray) (a : Nat) : comb s a [] 0 = pName s a := by
 unfold comb pName
 simp
theorem comb_end {s : ByteArray} {k e : Nat} {l : List UInt8} (h1 : behind s k < s.size) (h2 : at8 s (behind s k) = 0) (h3 : l.length + behind s k < 255 + k) :
  comb s k l e = some (⟨((l ++ cut s k (behind s k)) ++ [0]).toArray⟩, if e = 0 then behind s k + 1 else e) := by
 unfold comb
 have hk := le_behind s k
 rw [whole_end h1 h2]
 simp only [Option.bind_some]
 rw [if_pos (by rw [List.length_append, cut_length (by omega)]; simp only [List.length_cons, List.length_nil]; omega), List.append_assoc]
theorem comb_on {s : ByteArray} {k e : Nat} {l : List UInt8} (h1 : behind s k < s.size) (h2 : 192 ≤ at8 s (behind s k)) (h3 : behind s k + 1 < s.size) (h4 : ptr s (behind s k) < k) :
  comb s k l e = comb s (ptr s (behind s k)) (l ++ cut s k (behind s k)) (if e = 0 then behind s k + 2 else e) := by
 unfold comb
 rw [whole_on h1 h2 h3 h4]
 cases whole s (ptr s (behind s k)) with
 | none => rfl
 | some r =>
  simp only [Option.map_some, Option.bind_some, List.length_append, List.append_assoc, Nat.add_assoc]
  by_cases h0 : e = 0
  ·simp [h0]
  ·simp [h0]
theorem comb_no {s : ByteArray} {k e : Nat} {l : List UInt8} (h : ¬ (behind s k < s.size ∧ (at8 s (behind s k) = 0 ∨ 192 ≤ at8 s (behind s k) ∧ behind s k + 1 < s.size ∧ ptr s (behind s k) < k))) : comb s k l e = none := by
 unfold comb
 rw [whole_no h]
 rfl
theorem comb_long {s : ByteArray} {k e : Nat} {l : List UInt8} (h : 255 + k ≤ l.length + behind s k) : comb s k l e = none := by
 unfold comb
 cases hw : whole s k with
 | none => rfl
 | some r =>
  simp only [Option.bind_some]
  rw [if_neg]
  have hk := le_behind s k
  by_cases hh : behind s k < s.size ∧ (at8 s (behind s k) = 0 ∨ 192 ≤ at8 s (behind s k) ∧ behind s k + 1 < s.size ∧ ptr s (behind s k) < k)
  ·obtain ⟨h1, h2 | ⟨h2, h3, h4⟩⟩ := hh
   ·rw [whole_end h1 h2] at hw
    cases hw
    rw [List.length_append, cut_length (by omega)]
    simp only [List.length_cons, List.length_nil]
    omega
   ·rw [whole_on h1 h2 h3 h4] at hw
    cases hr : whole s (ptr s (behind s k)) with
    | none => rw [hr] at hw; cases hw
    | some q =>
     have := whole_ends hr
     rw [hr] at hw
     cases hw
     rw [List.length_append, cut_length (by omega)]
     omega
  ·rw [whole_no hh] at hw
   cases hw
theorem at8_cell {s : ByteArray} {k : Nat} {u : UInt8} (h : s.data.toList[k]? = some u) : (at8 s k : Int) = (u.toNat : Int) := by
 unfold at8
 rw [Array.getElem?_toList] at h
 rw [Array.getD_eq_getD_getElem?, h]
 rfl
theorem Bytes.lies {w : World} {b : Nat} {s : ByteArray} (h : Bytes w b s) (hb : b < w.heap.size) {i j c : Nat} (hj : j ≤ s.size) (hij : i ≤ j) : Lies w 1 (.slice (some ⟨b, i, none⟩) (j - i) c) ((bytesV (cut s i j)).map fun v => [v]) := by
 refine ⟨some ⟨b, i, none⟩, c, by rw [List.length_map, bytesV_length, cut_length hj], (fun h => by cases h), .inr ⟨b, i, rfl, hb, fun k e hk m u hm => ?_⟩⟩
 simp only [List.getElem?_map, Option.map_eq_some_iff] at hk
 obtain ⟨v, hv, rfl⟩ := hk
 have hm0 : m = 0 := by
  cases m with
  | zero => rfl
  | succ m => simp at hm
 subst hm0
 simp only [List.getElem?_cons_zero, Option.some.injEq] at hm
 subst hm
 unfold bytesV cut at hv
 simp only [List.getElem?_map, Option.map_eq_some_iff] at hv
 obtain ⟨x, hx, rfl⟩ := hv
 have hkl : k < j - i := by
  by_cases hc : k < j - i
  ·exact hc
  ·rw [List.getElem?_eq_none (by rw [List.length_take]; omega)] at hx
   cases hx
 rw [List.getElem?_take_of_lt hkl, List.getElem?_drop] at hx
 rw [Nat.mul_one, Nat.add_zero, h (i + k) (by omega), at8_cell hx]
theorem ones_flat (l : List Value) : (l.map fun v => [v]).flatten = l := by
 induction l with
 | nil => rfl
 | cons x r ih => simp [ih]
theorem ones_ok (l : List UInt8) : ∀ x ∈ (bytesV l).map fun v => [v], x.length = 1 ∧ ∀ u ∈ x, u.oneCell' = true := by
 intro x hx
 obtain ⟨v, hv, rfl⟩ := List.mem_map.1 hx
 obtain ⟨y, _, rfl⟩ := List.mem_map.1 hv
 refine ⟨rfl, fun u hu => ?_⟩
 simp at hu
 subst hu
 rfl
structure Way (w wr : World) (s : ByteArray) (a0 k e : Nat) (l : List UInt8) (vl : Value) : Prop where
 own : wr.ownsRow 0 5 1 vl l.length (bytesV l)
 new : ∀ g, vl.ownBlock = some g → w.heap.size ≤ g
 below : Below w.heap.size w wr
 res : pName s a0 = comb s k l e
theorem Bytes.below {w w' : World} {b : Nat} {s : ByteArray} (h : Bytes w b s) (hb : b < w.heap.size) (hw : Below w.heap.size w w') : Bytes w' b s := fun k hk => cell_of_heap (hw.block b hb) (h k hk)
theorem Way.next {w w1 w2 : World} {s : ByteArray} {a0 k e k' e' : Nat} {l l2 : List UInt8} {vl v2 : Value} (h : Way w w1 s a0 k e l vl) (g : Grew 5 1 w1 w2 vl v2 l2.length (bytesV l2)) (hr : comb s k l e = comb s k' l2 e') : Way w w2 s a0 k' e' l2 v2 := by
 have hb := g.below h.below.size h.new
 exact ⟨g.own, hb.2, h.below.trans hb.1, h.res.trans hr⟩
theorem Way.drewN {w w1 : World} {s : ByteArray} {a0 k e : Nat} {l : List UInt8} {vl : Value} (h : Way w w1 s a0 k e l vl) (n : Nat) : Way w (w1.drewN n) s a0 k e l vl :=
 ⟨h.own.kept (grownBy_drewN _ _ none) (by cases h1 : vl.ownBlock <;> simp), h.new, below_drewN h.below n, h.res⟩
theorem wpList_append_cut (w : World) {ops : Array Oper} {rest : List Oper} {o : Oper} {a : Act} {Q : Exit → Act → World → Prop} (hgd : o.guard = none) (x y : Operand) (ho : o.op = .call { callee := .builtin .append, args := #[x, y], argTypes := #[32, 32] })
  (b k i c : Nat) (s : ByteArray) (l l2 : List UInt8) (hl2 : l2 = l ++ cut s k i) (al : Option Addr) (cl : Nat) (hx : a.eval x = .slice al l.length cl) (hy : a.eval y = .slice (some ⟨b, k, none⟩) (i - k) c)
  (hown : w.ownsRow 0 5 1 (.slice al l.length cl) l.length (bytesV l)) (hb : Bytes w b s) (hbl : b < w.heap.size) (hk : k ≤ i) (hi : i ≤ s.size) (hs : s.size ≤ 512) (hl : l.length ≤ 255)
  (h : ∀ a2 c2 w2, Grew 5 1 w w2 (.slice al l.length cl) (.slice a2 l2.length c2) l2.length (bytesV l2) → wpList Tryz.prog ops Q rest (a.put o.dst (.slice a2 l2.length c2)) w2) : wpList Tryz.prog ops Q (o :: rest) a w := by
 obtain ⟨i0, hi0, hz0, hz1, hz2⟩ := info_parts u8_info
 have hlen : ((bytesV (cut s k i)).map fun v => [v]).length = i - k := by rw [List.length_map, bytesV_length, cut_length hi]
 refine wpList_append_lies w hgd x y 32 ho 5 i0 (.int .u8 0) 1 1 und_bytes hi0 hz0 hz1 hz2 rfl (by decide) _ l.length (bytesV l) hx _ ((bytesV (cut s k i)).map fun v => [v]) hy (ones_ok _) hown (hb.lies hbl hi hk) (by rw [hlen]; unfold maxLen; omega) (by rw [hlen]; omega) ?_
 intro v2 w2 g
 have e1 : l.length + ((bytesV (cut s k i)).map fun v => [v]).length = l2.length := by rw [hlen, hl2, List.length_append, cut_length hi]
 have e2 : bytesV l ++ ((bytesV (cut s k i)).map fun v => [v]).flatten = bytesV l2 := by rw [ones_flat, hl2, bytesV_append]
 rw [e1, e2] at g
 obtain ⟨a2, c2, rfl⟩ := own_slice g.own
 exact h a2 c2 w2 g
theorem conv_bytes (w : World) (base : Nat) (a : Option Addr) (c : Nat) (l : List UInt8) (h : w.ownsRow base 5 1 (.slice a l.length c) l.length (bytesV l)) :
  (convert 32 9 (.slice a l.length c)).run Tryz.prog w = .ok (.string (str l)) w := by
 rw [run_convert_bytes_string _ _ _ 5 _ _ _ und_bytes' und_u8' und_string']
 rcases h.2 with ⟨h1, h2⟩ | ⟨g, cap, cur, h1, _, hg, _, _, _, htake⟩
 ·have hl : l = [] := List.eq_nil_of_length_eq_zero h2
  subst hl
  injection h1 with h1 _ h3
  subst h1 h3
  rfl
 ·injection h1 with h1 _ h3
  subst h1 h3
  have hload := run_loadCells_list (P := Tryz.prog) w ⟨g, 0, none⟩ (bytesV l) (fun j u hj => h.cells (g := g) rfl j u hj)
  rw [bytesV_length] at hload
  have e1 : bytesV l = (l.map fun b => (b.toNat : Int)).map (Value.int .u8) := by simp [bytesV]
  rw [e1] at hload
  rw [run_bytesToString w ⟨g, 0, none⟩ l.length c _ hload]
  congr 2
  have key : ∀ (l : List UInt8) (r : ByteArray), (l.map fun b => (b.toNat : Int)).foldl (fun r n => r.push (UInt8.ofNat n.toNat)) r = ⟨r.data ++ l.toArray⟩ := by
   intro l
   induction l with
   | nil => intro r; simp
   | cons b l ih =>
    intro r
    rw [List.map_cons, List.foldl_cons, ih]
    simp [ByteArray.push]
  rw [key]
  simp [str]
theorem conv_end {w : World} {a : Option Addr} {c : Nat} {l : List UInt8} (h : w.ownsRow 0 5 1 (.slice a (l.length + 1) c) (l.length + 1) (bytesV l ++ [.int .u8 0])) :
  (convert 32 9 (.slice a (l.length + 1) c)).run Tryz.prog w = .ok (.string ⟨(l ++ [0]).toArray⟩) w := by
 have e1 : (l ++ [0]).length = l.length + 1 := by simp
 have e2 : bytesV (l ++ [0]) = bytesV l ++ [.int .u8 0] := by rw [bytesV_append]; rfl
 have := conv_bytes w 0 a c (l ++ [0]) (by rw [e1, e2]; exact h)
 rw [e1] at this
 exact this
def AtLabel (w : World) (b c : Nat) (s : ByteArray) (a0 : Nat) (a' : Act) (wr : World) : Prop := ∃ (k e : Nat) (l : List UInt8) (al : Option Addr) (cl : Nat) (u8 u9 u10 u11 u12 u13 u14 u15 u16 u17 u18 u19 u20 u21 u22 u23 u24 u25 u26 u27 u28 u29 u30 u31 u32 u33 u34 u35 u36 u37 u38 u39 u40 u41 u42 u43 u44 u45 u46 u47 u48 u49 u50 u51 u52 u53 u54 u55 u56 u57 u58 u59 u60 : Value),
  a' = { tmps := #[.slice (some ⟨b, 0, none⟩) s.size c, .int .i64 k, undef, undef, .string ⟨#[]⟩, .int .i64 e, .bool false, .slice al l.length cl, u8, u9, u10, u11, u12, u13, u14, u15, u16, u17, u18, u19, u20, u21, u22, u23, u24, u25, u26, u27, u28, u29, u30, u31, u32, u33, u34, u35, u36, u37, u38, u39, u40, u41, u42, u43, u44, u45, u46, u47, u48, u49, u50, u51, u52, u53, u54, u55, u56, u57, u58, u59, u60], defers := [] } ∧
  k ≤ s.size ∧ l.length ≤ 255 ∧ e ≤ 514 ∧ Hid (Way w wr s a0 k e l (.slice al l.length cl))
def labelM (a' : Act) (_ : World) : Nat := (intOf (a'.tmps.getD 1 undef)).toNat
theorem readName_any (w : World) (b c : Nat) (s : ByteArray) (a0 : Nat) (hs : s.size ≤ 512) (hsc : s.size ≤ c) (ha : a0 ≤ s.size) (hbl : b < w.heap.size) (hc : Bytes w b s) :
  Calls Tryz.prog 142 #[.slice (some ⟨b, 0, none⟩) s.size c, .int .i64 a0] w fun e w' =>
   Hid ((pName s a0 = none → e = .returned (.tuple #[.string ⟨#[]⟩, .int .i64 0, .bool false])) ∧ (∀ r, pName s a0 = some r → e = .returned (.tuple #[.string r.1, .int .i64 r.2, .bool true])) ∧ Below w.heap.size w w') := by
 obtain ⟨i0, hi, hz0, hz1, hz2⟩ := info_parts u8_info
 have HC := hide hc
 clear hc
 go_enter Tryz.func142, Tryz.ntmps142
 go_wp2_with fail
 refine wp_scope_back 0 (AtLabel w b c s a0) labelM rfl ?_ ?_
 ·go_wp2_with fail
  exact ⟨a0, 0, [], none, 0, _, _, _, _, _, _, _, _, _, _, _, _, _, _, _, _, _, _, _, _, _, _, _, _, _, _, _, _, _, _, _, _, _, _, _, _, _, _, _, _, _, _, _, _, _, _, _, _, _, _, _, _, _, rfl, ha, by simp, by omega, ⟨World.ownsRow_nil _ _ _ _, (fun g hg => by cases hg), Below.refl _ _, (comb_start s a0).symm⟩⟩
 ·rintro a' wr ⟨k, e, l, al, cl, u8, u9, u10, u11, u12, u13, u14, u15, u16, u17, u18, u19, u20, u21, u22, u23, u24, u25, u26, u27, u28, u29, u30, u31, u32, u33, u34, u35, u36, u37, u38, u39, u40, u41, u42, u43, u44, u45, u46, u47, u48, u49, u50, u51, u52, u53, u54, u55, u56, u57, u58, u59, u60, rfl, hk, hl, he, HW⟩
  have hwz := HW.out.below.size
  have HCr := hide (HC.out.below hbl HW.out.below)
  go_wp2_with fail
  refine (behindB wr b c s k hs (by omega) HCr.out).mono ?_
  rintro e1 w1 ⟨rfl, rfl⟩
  have hkb := le_behind s k
  generalize hi9 : behind s k = i at hkb
  have HI := hide hi9
  clear hi9
  by_cases h1 : i < s.size
  ·by_cases h2 : l.length + i < 255 + k
   ·have hkc2 : ¬ c = k := by omega
    obtain ⟨l2, hl2⟩ : ∃ l2, l2 = l ++ cut s k i := ⟨_, rfl⟩
    have hln : l2.length = l.length + (i - k) := by rw [hl2, List.length_append, cut_length (by omega)]
    have HL2 := hide hl2
    have HLN := hide hln
    have hll : l2.length ≤ 255 := by omega
    clear hl2 hln
    go_wp2_with (at_builtin; refine wpList_append_cut _ rfl _ _ rfl b k i (c - k) s l l2 HL2.out al cl rfl rfl HW.out.own HCr.out (by omega) hkb (by omega) hs hl ?_; intro a2 c2 w2 g2)
    have hb2 := (g2.below hwz HW.out.new).1
    have hwz2 := hb2.size
    have HB2 := hide (HW.out.below.trans hb2)
    have HNW0 := hide (g2.below hwz HW.out.new).2
    have HG2 := hide g2
    have HC2 := hide (HC.out.below hbl HB2.out)
    clear hb2 g2
    have hci := HC2.out i h1
    have hl8 := at8_lt s i
    by_cases hp : isPtr s i = true
    ·have hp2 : i + 1 < s.size ∧ 192 ≤ at8 s i := of_decide_eq_true hp
     have HP := hide hp
     obtain ⟨t, ht⟩ : ∃ t, t = ptr s i := ⟨_, rfl⟩
     have HT := hide ht
     clear hp ht
     go_wp2_with fail
     refine (pointerAt_at w2 b c s i hs h1 HC2.out t true HP.out (by unfold Hid; rw [if_pos HP.out, HT.out])).mono ?_
     rintro e3 w3 ⟨rfl, n3, hw3⟩
     have HW3 : Hid (∀ k' e', comb s k l e = comb s k' l2 e' → Way w w3 s a0 k' e' l2 (.slice a2 l2.length c2)) := fun k' e' hr => by rw [hw3]; exact (HW.out.next HG2.out hr).drewN n3
     have HB3 : Hid (Below w.heap.size w w3) := by rw [hw3]; exact below_drewN HB2.out n3
     have HO3 : Hid (w3.ownsRow 0 5 1 (.slice a2 l2.length c2) l2.length (bytesV l2)) := by rw [hw3]; exact HG2.out.own.kept (grownBy_drewN _ _ none) (by cases h1 : (Value.slice a2 l2.length c2).ownBlock <;> simp)
     have hci3 : w3.cell? ⟨b, i, none⟩ = some (.int .u8 (at8 s i)) := by rw [hw3]; exact hci
     have hwz3 : w2.heap.size ≤ w3.heap.size := by rw [hw3]; exact Nat.le_refl _
     clear hw3 hci HG2 HB2
     by_cases h4 : t < k
     ·by_cases he0 : e = 0
      ·subst he0
       go_wp2_with fail
       refine (behindPiece_any _ i true (by omega)).mono ?_
       rintro e4 w4 ⟨rfl, rfl⟩
       go_wp2_with fail
       go_step3
       have hr : comb s k l 0 = comb s t l2 (i + 2) := by
        have := HI.out
        rw [comb_on (by omega) (by rw [this]; omega) (by omega) (by rw [this, ← HT.out]; exact h4), this, ← HL2.out, ← HT.out]
        rfl
       refine ⟨rfl, ⟨t, i + 2, l2, a2, c2, _, _, _, _, _, _, _, _, _, _, _, _, _, _, _, _, _, _, _, _, _, _, _, _, _, _, _, _, _, _, _, _, _, _, _, _, _, _, _, _, _, _, _, _, _, _, _, _, _, _, _, _, _, rfl, by omega, hll, by omega, HW3.out _ _ hr⟩, ?_⟩
       simp [labelM, intOf]
       omega
      ·go_wp2_with fail
       go_step3
       have hr : comb s k l e = comb s t l2 e := by
        have := HI.out
        rw [comb_on (by omega) (by rw [this]; omega) (by omega) (by rw [this, ← HT.out]; exact h4), this, ← HL2.out, ← HT.out, if_neg he0]
       refine ⟨rfl, ⟨t, e, l2, a2, c2, _, _, _, _, _, _, _, _, _, _, _, _, _, _, _, _, _, _, _, _, _, _, _, _, _, _, _, _, _, _, _, _, _, _, _, _, _, _, _, _, _, _, _, _, _, _, _, _, _, _, _, _, _, rfl, by omega, hll, by omega, HW3.out _ _ hr⟩, ?_⟩
       simp [labelM, intOf]
       omega
     ·have HN : Hid (pName s a0 = none) := HW.out.res.trans (comb_no (by rw [HI.out, ← HT.out]; omega))
      by_cases he0 : e = 0
      ·subst he0
       go_wp2_with fail
       refine (behindPiece_any _ i true (by omega)).mono ?_
       rintro e4 w4 ⟨rfl, rfl⟩
       go_wp2_with fail
       simp only [Exit.jump]
       go_ret3
       exact ⟨fun _ => rfl, (fun r hr => by rw [HN.out] at hr; cases hr), HB3.out⟩
      ·go_wp2_with fail
       simp only [Exit.jump]
       go_ret3
       exact ⟨fun _ => rfl, (fun r hr => by rw [HN.out] at hr; cases hr), HB3.out⟩
    ·have hp3 : isPtr s i = false := by simpa using hp
     have hp2 : ¬ (i + 1 < s.size ∧ 192 ≤ at8 s i) := of_decide_eq_false hp3
     have HP := hide hp3
     have HP2 := hide hp2
     clear hp hp2 hp3
     go_wp2_with fail
     refine (pointerAt_at w2 b c s i hs h1 HC2.out 0 false HP.out (by unfold Hid; rw [if_neg (by rw [HP.out]; decide)])).mono ?_
     rintro e3 w3 ⟨rfl, n3, hw3⟩
     have HW3 : Hid (∀ k' e', comb s k l e = comb s k' l2 e' → Way w w3 s a0 k' e' l2 (.slice a2 l2.length c2)) := fun k' e' hr => by rw [hw3]; exact (HW.out.next HG2.out hr).drewN n3
     have HB3 : Hid (Below w.heap.size w w3) := by rw [hw3]; exact below_drewN HB2.out n3
     have HO3 : Hid (w3.ownsRow 0 5 1 (.slice a2 l2.length c2) l2.length (bytesV l2)) := by rw [hw3]; exact HG2.out.own.kept (grownBy_drewN _ _ none) (by cases h1 : (Value.slice a2 l2.length c2).ownBlock <;> simp)
     have hci3 : w3.cell? ⟨b, i, none⟩ = some (.int .u8 (at8 s i)) := by rw [hw3]; exact hci
     have hwz3 : w2.heap.size ≤ w3.heap.size := by rw [hw3]; exact Nat.le_refl _
     clear hw3 hci HG2 HB2
     by_cases h5 : at8 s i = 0
     ·have hci0 : w3.cell? ⟨b, i, none⟩ = some (.int .u8 0) := by rw [hci3, h5]; rfl
      have HR : Hid (pName s a0 = some (⟨(l2 ++ [0]).toArray⟩, if e = 0 then i + 1 else e)) := by
       have h7 := HI.out
       unfold Hid
       rw [HW.out.res, comb_end (by omega) (by rw [h7]; exact h5) (by omega), h7, ← HL2.out]
      have HNW : Hid (∀ g, (Value.slice a2 l2.length c2).ownBlock = some g → w.heap.size ≤ g) := HNW0.out
      clear hci3
      by_cases he0 : e = 0
      ·subst he0
       go_wp2_with fail
       refine (behindPiece_any _ i false (by omega)).mono ?_
       rintro e4 w4 ⟨rfl, rfl⟩
       go_wp2_with (at_builtin; refine wpList_append_grew _ rfl _ _ 32 rfl 5 i0 (.int .u8 0) 1 1 und_bytes hi hz0 hz1 hz2 rfl (by decide) (.slice a2 l2.length c2) l2.length (bytesV l2) rfl ⟨w4.heap.size, 0, none⟩ 1 1 [.int .u8 0] rfl rfl one_u8 (HO3.out.alloc _) (cells_new w4 #[.int .u8 0] _) (by unfold maxLen; omega) (by omega) ?_; intro v5 w5 g5; obtain ⟨a5, c5, rfl⟩ := own_slice g5.own; have HG5 := hide g5; have hcv := conv_end g5.own; clear g5)
       simp only [Exit.jump]
       go_ret3
       have hb5 := (HG5.out.below (B := w.heap.size) (by rw [alloc_size]; omega) HNW.out).1
       have hb4 := (HB3.out.alloc HB3.out.size _).trans hb5
       exact ⟨(fun hn => by rw [HR.out] at hn; cases hn), (fun r hr => by rw [HR.out] at hr; cases hr; simp []), hb4⟩
      ·go_wp2_with (at_builtin; refine wpList_append_grew _ rfl _ _ 32 rfl 5 i0 (.int .u8 0) 1 1 und_bytes hi hz0 hz1 hz2 rfl (by decide) (.slice a2 l2.length c2) l2.length (bytesV l2) rfl ⟨w3.heap.size, 0, none⟩ 1 1 [.int .u8 0] rfl rfl one_u8 (HO3.out.alloc _) (cells_new w3 #[.int .u8 0] _) (by unfold maxLen; omega) (by omega) ?_; intro v5 w5 g5; obtain ⟨a5, c5, rfl⟩ := own_slice g5.own; have HG5 := hide g5; have hcv := conv_end g5.own; clear g5)
       simp only [Exit.jump]
       go_ret3
       have hb5 := (HG5.out.below (B := w.heap.size) (by rw [alloc_size]; omega) HNW.out).1
       have hb4 := (HB3.out.alloc HB3.out.size _).trans hb5
       exact ⟨(fun hn => by rw [HR.out] at hn; cases hn), (fun r hr => by rw [HR.out] at hr; cases hr; simp [he0]), hb4⟩
     ·have HN : Hid (pName s a0 = none) := HW.out.res.trans (comb_no (by rw [HI.out]; have := HP2.out; omega))
      by_cases he0 : e = 0
      ·subst he0
       go_wp2_with fail
       refine (behindPiece_any _ i false (by omega)).mono ?_
       rintro e4 w4 ⟨rfl, rfl⟩
       go_wp2_with fail
       simp only [Exit.jump]
       go_ret3
       exact ⟨fun _ => rfl, (fun r hr => by rw [HN.out] at hr; cases hr), HB3.out⟩
      ·go_wp2_with fail
       simp only [Exit.jump]
       go_ret3
       exact ⟨fun _ => rfl, (fun r hr => by rw [HN.out] at hr; cases hr), HB3.out⟩
   ·have HN : Hid (pName s a0 = none) := HW.out.res.trans (comb_long (by rw [HI.out]; omega))
    go_wp2_with fail
    simp only [Exit.jump]
    go_ret3
    exact ⟨fun _ => rfl, (fun r hr => by rw [HN.out] at hr; cases hr), HW.out.below⟩
  ·have HN : Hid (pName s a0 = none) := HW.out.res.trans (comb_no (by rw [HI.out]; omega))
   go_wp2_with fail
   simp only [Exit.jump]
   go_ret3
   exact ⟨fun _ => rfl, (fun r hr => by rw [HN.out] at hr; cases hr), HW.out.below⟩
end Go.Proofs.YtafoepfhepdcoaaGreat
