import Derived.Orders
import Derived.Deep.Quiet
import Derived.BigQuiet
import Derived.WalkKit
set_option maxRecDepth 100000
set_option maxHeartbeats 8000000
namespace Go.Stg
section
variable {P : Program} {ops : Array Oper} {C : Nat → World → Prop} {S : List Nat}
def waits (ops : Array Oper) (j i : Nat) : Bool :=
 match ops[j]? with
 | some o => o.after.toList.any fun e => Region.binds .any e && e.on == i
 | none => false
theorem waits_spec {j i : Nat} (h : waits ops j i = true) : ∃ o, ops[j]? = some o ∧ ∃ e ∈ o.after, Region.binds .any e = true ∧ e.on = i := by
 unfold waits at h
 split at h
 ·rename_i o ho
  obtain ⟨e, he, hb⟩ := List.any_eq_true.1 h
  simp only [Bool.and_eq_true, beq_iff_eq] at hb
  exact ⟨o, ho, e, by simpa using he, hb.1, hb.2⟩
 ·cases h
def lo (ops : Array Oper) (S : List Nat) (i : Nat) : Nat := (S.reverse.dropWhile fun s => !waits ops i s).length
def hi (ops : Array Oper) (S : List Nat) (i : Nat) : Nat := (S.takeWhile fun s => !(waits ops s i || s == i)).length
def upon (P : Program) (D : World → Prop) (v : Value) : Result Next → Prop
 | .ok (.value u) w' => u = v ∧ D w'
 | .ok .skip w' => v = undef ∧ D w'
 | .ok (.enter f args) w' => Calls P f args w' (fun e w'' => e = .returned v ∧ D w'')
 | _ => False
def inc (S : List Nat) (i : Nat) : Nat := if S.contains i then 1 else 0
def Good (P : Program) (ops : Array Oper) (C : Nat → World → Prop) (S : List Nat) (i : Nat) (o : Oper) (a : Act) (v : Value) : Prop :=
 (Region.wanted o (yielded ops a.tmps) = true ∧ ∀ j w, lo ops S i ≤ j → j ≤ hi ops S i → C j w → upon P (C (j + inc S i)) v ((execOp a.eval o).run P w)) ∨
 (S.contains i = false ∧ Region.wanted o (yielded ops a.tmps) = false ∧ v = undef)
def lex (P : Program) (ops : Array Oper) (C : Nat → World → Prop) (S : List Nat) (Q : Act → Prop) : List Oper → Nat → Act → Prop
 | [], _, a => Q a
 | o :: l, i, a => ∃ v, Good P ops C S i o a v ∧ lex P ops C S Q l (i + 1) (a.put o.dst v)
def fill (ops : Array Oper) (vals : Nat → Value) (L : Nat → Bool) : Nat → Act → Act
 | 0, a => a
 | n + 1, a => match ops[n]? with
  | some o => if L n then (fill ops vals L n a).put o.dst (vals n) else fill ops vals L n a
  | none => fill ops vals L n a
theorem put_size (a : Act) (d : Option Tmp) (v : Value) : (a.put d v).tmps.size = a.tmps.size := by
 cases d <;> simp [Act.put]
theorem fill_size (vals : Nat → Value) (L : Nat → Bool) (a : Act) : ∀ n, (fill ops vals L n a).tmps.size = a.tmps.size
 | 0 => rfl
 | n + 1 => by
  unfold fill
  split
  ·split
   ·rw [put_size, fill_size vals L a n]
   ·exact fill_size vals L a n
  ·exact fill_size vals L a n
theorem fill_ext {vals : Nat → Value} {L L' : Nat → Bool} (a : Act) : ∀ n, (∀ j, j < n → L j = L' j) → fill ops vals L n a = fill ops vals L' n a
 | 0, _ => rfl
 | n + 1, h => by
  unfold fill
  rw [h n (by omega), fill_ext a n (fun j hj => h j (by omega))]
theorem fill_stop {vals : Nat → Value} {L : Nat → Bool} (a : Act) (k : Nat) : ∀ n, k ≤ n → (∀ j, k ≤ j → L j = false) → fill ops vals L n a = fill ops vals L k a := by
  intro n
  induction n with
  | zero => intro hk _; have : k = 0 := by omega
            subst this; rfl
  | succ n ih =>
    intro hk h
    by_cases hkn : k = n + 1
    · subst hkn; rfl
    · have hn := h n (by omega)
      rw [← ih (by omega) h]
      show (match ops[n]? with | some o => _ | none => _) = _
      split
      · rw [if_neg (by rw [hn]; exact Bool.false_ne_true)]
      · rfl
def apartB (ops : Array Oper) : Bool :=
 (List.range ops.size).all fun i => (List.range ops.size).all fun j => i == j ||
  match (ops[i]?).bind (·.dst), (ops[j]?).bind (·.dst) with
  | some d, some e => d != e
  | _, _ => true
theorem apartB_spec (h : apartB ops = true) {i j : Nat} {oi oj : Oper} (hi : ops[i]? = some oi) (hj : ops[j]? = some oj) (hne : i ≠ j) : ∀ d, oi.dst = some d → oj.dst ≠ some d := by
 intro d hd he
 have hi' : i < ops.size := (Array.getElem?_eq_some_iff.1 hi).1
 have hj' : j < ops.size := (Array.getElem?_eq_some_iff.1 hj).1
 have h1 := List.all_eq_true.1 (List.all_eq_true.1 h i (List.mem_range.2 hi')) j (List.mem_range.2 hj')
 simp [hi, hj, hd, he, hne] at h1
theorem fill_set {vals : Nat → Value} {L : Nat → Bool} (hap : apartB ops = true) (a : Act) {i : Nat} {o : Oper} (hi : ops[i]? = some o) (hL : L i = false) :
  ∀ n, fill ops vals (fun j => L j || j == i) n a = if i < n then (fill ops vals L n a).put o.dst (vals i) else fill ops vals L n a := by
 intro n
 induction n with
 | zero => simp [fill]
 | succ n ih =>
  by_cases hin : i = n
  ·subst hin
   have e1 : fill ops vals (fun j => L j || j == i) (i + 1) a = (fill ops vals (fun j => L j || j == i) i a).put o.dst (vals i) := by
    show (match ops[i]? with | some o => _ | none => _) = _
    simp [hi]
   have e2 : fill ops vals L (i + 1) a = fill ops vals L i a := by
    show (match ops[i]? with | some o => _ | none => _) = _
    simp [hi, hL]
   rw [e1, e2, ih, if_neg (by omega), if_pos (by omega)]
  ·have hb : (fun j => L j || j == i) n = L n := by simp; intro h; omega
   cases ho : ops[n]? with
   | none =>
    have e1 : fill ops vals (fun j => L j || j == i) (n + 1) a = fill ops vals (fun j => L j || j == i) n a := by
     show (match ops[n]? with | some o => _ | none => _) = _
     simp [ho]
    have e2 : fill ops vals L (n + 1) a = fill ops vals L n a := by
     show (match ops[n]? with | some o => _ | none => _) = _
     simp [ho]
    rw [e1, e2, ih]
    by_cases h : i < n
    ·rw [if_pos h, if_pos (by omega)]
    ·rw [if_neg h, if_neg (by omega)]
   | some on =>
    have e1 : fill ops vals (fun j => L j || j == i) (n + 1) a = if L n then (fill ops vals (fun j => L j || j == i) n a).put on.dst (vals n) else fill ops vals (fun j => L j || j == i) n a := by
     show (match ops[n]? with | some o => _ | none => _) = _
     rw [ho]
     show (if (fun j => L j || j == i) n then _ else _) = _
     rw [hb]
    have e2 : fill ops vals L (n + 1) a = if L n then (fill ops vals L n a).put on.dst (vals n) else fill ops vals L n a := by
     show (match ops[n]? with | some o => _ | none => _) = _
     rw [ho]
    rw [e1, e2, ih]
    by_cases h : i < n
    ·rw [if_pos h, if_pos (by omega : i < n + 1)]
     cases hLn : L n
     ·simp
     ·simp only [if_true]
      exact Act.put_comm _ _ _ (apartB_spec hap hi ho hin)
    ·rw [if_neg h, if_neg (by omega : ¬ i < n + 1)]
theorem fill_slot {vals : Nat → Value} {L L' : Nat → Bool} (a : Act) (t : Tmp) :
  ∀ n, (∀ j o, ops[j]? = some o → o.dst = some t → L j = L' j) → (fill ops vals L n a).tmps[t]? = (fill ops vals L' n a).tmps[t]? := by
 intro n
 induction n with
 | zero => intro _; rfl
 | succ n ih =>
  intro h
  have ih' := ih h
  cases ho : ops[n]? with
  | none =>
   show (match ops[n]? with | some o => _ | none => _ : Act).tmps[t]? = (match ops[n]? with | some o => _ | none => _ : Act).tmps[t]?
   simp only [ho]; exact ih'
  | some o =>
   show (match ops[n]? with | some o => _ | none => _ : Act).tmps[t]? = (match ops[n]? with | some o => _ | none => _ : Act).tmps[t]?
   simp only [ho]
   by_cases hd : o.dst = some t
   ·rw [← h n o ho hd]
    cases L n
    ·simpa using ih'
    ·simp only [if_true, Act.put, hd, Array.getElem?_setIfInBounds_self, fill_size]
   ·have key : ∀ (x : Act) (v : Value), (x.put o.dst v).tmps[t]? = x.tmps[t]? := by
     intro x v
     cases hd' : o.dst with
     | none => rfl
     | some d =>
      have hne : d ≠ t := fun e => hd (by rw [hd', e])
      simp [Act.put, Array.getElem?_setIfInBounds_ne hne]
    cases L n <;> cases L' n <;> simp only [if_true, Bool.false_eq_true, if_false, key] <;> exact ih'
def readsB (ops : Array Oper) : Bool :=
 (List.range ops.size).all fun i => match ops[i]? with
  | some o => (o.looksAt ops).all fun t => (List.range ops.size).all fun j =>
    match (ops[j]?).bind (·.dst) with
    | some d => d != t || j == i || (if j < i then waits ops i j else waits ops j i)
    | none => true
  | none => true
theorem readsB_spec (h : readsB ops = true) {i j : Nat} {oi oj : Oper} {t : Tmp} (hi : ops[i]? = some oi) (hj : ops[j]? = some oj) (ht : t ∈ oi.looksAt ops) (hd : oj.dst = some t) (hne : j ≠ i) :
  if j < i then waits ops i j = true else waits ops j i = true := by
 have hi' : i < ops.size := (Array.getElem?_eq_some_iff.1 hi).1
 have hj' : j < ops.size := (Array.getElem?_eq_some_iff.1 hj).1
 have h1 := List.all_eq_true.1 h i (List.mem_range.2 hi')
 rw [hi] at h1
 have h2 := List.all_eq_true.1 (List.all_eq_true.1 h1 t ht) j (List.mem_range.2 hj')
 simp only [hj, Option.bind_some, hd] at h2
 simp [hne] at h2
 split
 ·rename_i hlt; rw [if_pos hlt] at h2; exact h2
 ·rename_i hlt; rw [if_neg hlt] at h2; exact h2
def backB (ops : Array Oper) : Bool :=
 (List.range ops.size).all fun i => match ops[i]? with
  | some o => o.after.toList.all fun e => !Region.binds .any e || decide (e.on < i)
  | none => true
theorem backB_spec (h : backB ops = true) {i : Nat} {o : Oper} (hi : ops[i]? = some o) : ∀ e ∈ o.after, Region.binds .any e = true → e.on < i := by
 intro e he hb
 have hi' : i < ops.size := (Array.getElem?_eq_some_iff.1 hi).1
 have h1 := List.all_eq_true.1 h i (List.mem_range.2 hi')
 simp only [hi] at h1
 have h2 := List.all_eq_true.1 h1 e (by simpa using he)
 simpa [hb] using h2
def chainB (ops : Array Oper) : List Nat → Bool
 | [] => true
 | [s] => decide (s < ops.size)
 | s :: t :: r => decide (s < ops.size) && decide (s < t) && waits ops t s && chainB ops (t :: r)
theorem chainB_lt : ∀ {S : List Nat}, chainB ops S = true → ∀ s ∈ S, s < ops.size
 | [], _, _, h => by cases h
 | [s], h, x, hx => by simp [chainB] at h; simp at hx; omega
 | s :: t :: r, h, x, hx => by
  simp only [chainB, Bool.and_eq_true, decide_eq_true_eq] at h
  rcases List.mem_cons.1 hx with rfl | hx
  ·exact h.1.1.1
  ·exact chainB_lt h.2 x hx
theorem chainB_step : ∀ {S : List Nat}, chainB ops S = true → ∀ m x y, S[m]? = some x → S[m + 1]? = some y → x < y ∧ waits ops y x = true
 | [], _, _, _, _, h, _ => by simp at h
 | [s], _, m, x, y, _, h => by simp at h
 | s :: t :: r, h, m, x, y, hx, hy => by
  simp only [chainB, Bool.and_eq_true, decide_eq_true_eq] at h
  cases m with
  | zero => simp at hx hy; subst hx hy; exact ⟨h.1.1.2, h.1.2⟩
  | succ m => exact chainB_step h.2 m x y (by simpa using hx) (by simpa using hy)
def okB (ops : Array Oper) (S : List Nat) : Bool := Region.noSelect ops && apartB ops && readsB ops && backB ops && chainB ops S
structure Inv (ops : Array Oper) (S : List Nat) (listed : Array Bool) (k : Nat) : Prop where
 size : listed.size = ops.size
 closed : ∀ j o, ops[j]? = some o → listed.getD j false = true → ∀ e ∈ o.after, Region.binds .any e = true → listed.getD e.on false = true
 le : k ≤ S.length
 done : ∀ m s, S[m]? = some s → (listed.getD s false = true ↔ m < k)
theorem ready_unlisted {listed : Array Bool} {i : Nat} (hs : listed.size = ops.size) (h : i ∈ Region.ready .any ops listed) : listed.getD i false = false := by
 have h1 := (mem_ready.1 h).1
 have hi : i < listed.size := by
  obtain ⟨_, o, ho, _⟩ := mem_ready.1 h
  rw [hs]; exact (Array.getElem?_eq_some_iff.1 ho).1
 simp [hi] at h1 ⊢; exact h1
theorem lo_le {listed : Array Bool} {k i : Nat} (inv : Inv ops S listed k) (hr : i ∈ Region.ready .any ops listed) : lo ops S i ≤ k := by
 unfold lo
 rcases Nat.eq_zero_or_pos (S.reverse.dropWhile fun s => !waits ops i s).length with h | h
 ·omega
 ·obtain ⟨x, r, hx⟩ : ∃ x r, (S.reverse.dropWhile fun s => !waits ops i s) = x :: r := by
   cases hh : (S.reverse.dropWhile fun s => !waits ops i s) with
   | nil => rw [hh] at h; simp at h
   | cons x r => exact ⟨x, r, rfl⟩
  have hw : waits ops i x = true := by
   have := List.head?_dropWhile_not (fun s => !waits ops i s) S.reverse
   rw [hx] at this
   simpa using this
  obtain ⟨o, ho, e, he, hb, hon⟩ := waits_spec hw
  obtain ⟨_, o', ho', hall⟩ := mem_ready.1 hr
  have : o' = o := Option.some.inj (ho'.symm.trans ho)
  subst this
  have hl := hall e he hb
  rw [hon] at hl
  have hsuf : (S.reverse.takeWhile fun s => !waits ops i s) ++ (x :: r) = S.reverse := by rw [← hx]; exact List.takeWhile_append_dropWhile
  have hS : S = (x :: r).reverse ++ (S.reverse.takeWhile fun s => !waits ops i s).reverse := by
   have := congrArg List.reverse hsuf
   simpa using this.symm
  have hat : S[r.length]? = some x := by
   rw [hS]
   simp
  have := (inv.done r.length x hat).1 hl
  rw [hx]; simp; omega
theorem le_hi {listed : Array Bool} {k i : Nat} (inv : Inv ops S listed k) (hr : i ∈ Region.ready .any ops listed) : k ≤ hi ops S i := by
 unfold hi
 rcases Nat.lt_or_ge (S.takeWhile fun s => !(waits ops s i || s == i)).length k with h | h
 ·exfalso
  have hsp : (S.takeWhile fun s => !(waits ops s i || s == i)) ++ (S.dropWhile fun s => !(waits ops s i || s == i)) = S := List.takeWhile_append_dropWhile
  have hk := inv.le
  cases hd : (S.dropWhile fun s => !(waits ops s i || s == i)) with
  | nil =>
   rw [hd, List.append_nil] at hsp
   rw [hsp] at h
   omega
  | cons x r =>
   have hw : (waits ops x i || x == i) = true := by
    have := List.head?_dropWhile_not (fun s => !(waits ops s i || s == i)) S
    rw [hd] at this
    simpa only [List.head?_cons, Bool.not_eq_false'] using this
   have hat : S[(S.takeWhile fun s => !(waits ops s i || s == i)).length]? = some x := by
    rw [hd] at hsp
    generalize (S.takeWhile fun s => !(waits ops s i || s == i)) = l at hsp ⊢
    rw [← hsp]; simp
   have hl := (inv.done _ x hat).2 h
   have hun := ready_unlisted inv.size hr
   rcases Bool.or_eq_true_iff.1 hw with hw | hw
   ·obtain ⟨o, ho, e, he, hb, hon⟩ := waits_spec hw
    have := inv.closed x o ho hl e he hb
    rw [hon, hun] at this
    cases this
   ·have : x = i := by simpa using hw
    subst this
    rw [hun] at hl
    cases hl
 ·exact h
theorem Inv.step {listed : Array Bool} {k i : Nat} (hch : chainB ops S = true) (inv : Inv ops S listed k) (hr : i ∈ Region.ready .any ops listed) : Inv ops S (listed.setIfInBounds i true) (k + inc S i) := by
 have hun := ready_unlisted inv.size hr
 obtain ⟨_, o, ho, hall⟩ := mem_ready.1 hr
 have hio : i < ops.size := (Array.getElem?_eq_some_iff.1 ho).1
 have hself : (listed.setIfInBounds i true).getD i false = true := by
  have : i < listed.size := by rw [inv.size]; exact hio
  simp [this]
 have hk : ∀ m, S[m]? = some i → m = k := by
  intro m hm
  rcases Nat.lt_trichotomy m k with h | h | h
  ·have := (inv.done m i hm).2 h; rw [hun] at this; cases this
  ·exact h
  ·exfalso
   cases m with
   | zero => omega
   | succ m =>
    have hml : m + 1 < S.length := (List.getElem?_eq_some_iff.1 hm).1
    obtain ⟨z, hz⟩ : ∃ z, S[m]? = some z := ⟨_, List.getElem?_eq_getElem (by omega)⟩
    obtain ⟨o', ho', e, he, hb, hon⟩ := waits_spec (chainB_step hch m z i hz hm).2
    have : o' = o := Option.some.inj (ho'.symm.trans ho)
    subst this
    have := hall e he hb
    rw [hon] at this
    have := (inv.done m z hz).1 this
    omega
 refine ⟨by simp [inv.size], fun j oj hj hl e he hb => ?_, ?_, fun m s hm => ?_⟩
 ·by_cases hij : i = j
  ·subst hij
   have : oj = o := Option.some.inj (hj.symm.trans ho)
   subst this
   exact getD_set_true (hall e he hb)
  ·rw [getD_set_ne false hij] at hl
   exact getD_set_true (inv.closed j oj hj hl e he hb)
 ·unfold inc
  split
  ·rename_i hc
   obtain ⟨m, hm⟩ := List.getElem?_of_mem (by simpa using hc : i ∈ S)
   have h1 := hk m hm
   have h2 : m < S.length := (List.getElem?_eq_some_iff.1 hm).1
   omega
  ·have := inv.le; omega
 ·by_cases hsi : i = s
  ·subst hsi
   have h1 := hk m hm
   have : S.contains i = true := by simpa using List.mem_of_getElem? hm
   simp only [inc, this, if_true]
   exact ⟨fun _ => by omega, fun _ => hself⟩
  ·rw [getD_set_ne false hsi, inv.done m s hm]
   unfold inc
   split
   ·rename_i hc
    obtain ⟨m', hm'⟩ := List.getElem?_of_mem (by simpa using hc : i ∈ S)
    have h1 := hk m' hm'
    have : m ≠ m' := fun e => by subst e; rw [hm] at hm'; exact hsi (Option.some.inj hm').symm
    omega
   ·simp
theorem Good.move {i : Nat} {o : Oper} {a a' : Act} {v : Value} (hs : ∀ cs b, o.op ≠ .select cs b) (h : Good P ops C S i o a v) (he : ∀ t ∈ o.looksAt ops, a'.tmps[t]? = a.tmps[t]?) : Good P ops C S i o a' v := by
 have e1 : execOp a'.eval o = execOp a.eval o := execOp_congr o hs fun x hx => by
  cases x with
  | tmp t =>
   have ht : t ∈ o.looksAt ops := List.mem_append_left _ (List.mem_filterMap.2 ⟨.tmp t, by simpa using hx, rfl⟩)
   have := he t ht
   simp only [Act.eval, Array.getD_eq_getD_getElem?, this]
  | const v => rfl
  | global g => rfl
  | func f => rfl
 have e2 : Region.wanted o (yielded ops a'.tmps) = Region.wanted o (yielded ops a.tmps) := by
  unfold Region.wanted
  cases hg : o.guard with
  | none => rfl
  | some gw =>
   obtain ⟨g, want⟩ := gw
   have hy : yielded ops a'.tmps g = yielded ops a.tmps g := by
    unfold yielded
    cases ht : (ops[g]?).bind (·.dst) with
    | none => rfl
    | some t =>
     have := he t (by simp [Oper.looksAt, hg, ht])
     simp only [Option.bind_some, this]
   simp only [hy]
 unfold Good at *
 rw [e1, e2]
 exact h
theorem lex_vals {Q : Act → Prop} : ∀ (l : List Oper) (i : Nat) (a : Act), lex P ops C S Q l i a →
    ∃ vs : List Value, (∀ k o, l[k]? = some o → ∃ b, Good P ops C S (i + k) o b (vs.getD k undef) ∧ b = (List.range k).foldl (fun x m => match l[m]? with | some om => x.put om.dst (vs.getD m undef) | none => x) a) ∧
      Q ((List.range l.length).foldl (fun x m => match l[m]? with | some om => x.put om.dst (vs.getD m undef) | none => x) a)
  | [], _, a, h => ⟨[], fun k o hk => by simp at hk, h⟩
  | o :: l, i, a, h => by
    obtain ⟨v, hg, hn⟩ := h
    obtain ⟨vs, h1, h2⟩ := lex_vals l (i + 1) _ hn
    have key : ∀ n, (List.range (n + 1)).foldl (fun x m => match (o :: l)[m]? with | some om => x.put om.dst ((v :: vs).getD m undef) | none => x) a
        = (List.range n).foldl (fun x m => match l[m]? with | some om => x.put om.dst (vs.getD m undef) | none => x) (a.put o.dst v) := by
      intro n
      rw [List.range_succ_eq_map, List.foldl_cons, List.foldl_map]
      simp
    refine ⟨v :: vs, fun k o' hk => ?_, ?_⟩
    · cases k with
      | zero => simp at hk; subst hk; exact ⟨a, by simpa using hg, by simp⟩
      | succ k =>
        obtain ⟨b, hb1, hb2⟩ := h1 k o' (by simpa using hk)
        refine ⟨b, ?_, ?_⟩
        · have : i + (k + 1) = i + 1 + k := by omega
          rw [this]; simpa using hb1
        · rw [key k]; exact hb2
    · rw [List.length_cons, key]; exact h2
theorem fill_fold (vals : Nat → Value) (l : List Oper) (vs : List Value) (hl : ops = l.toArray) (hv : ∀ m, vals m = vs.getD m undef) (a : Act) (n : Nat) :
  (List.range n).foldl (fun x m => match l[m]? with | some om => x.put om.dst (vs.getD m undef) | none => x) a = fill ops vals (fun _ => true) n a := by
 induction n with
 | zero => rfl
 | succ n ih =>
  rw [List.range_succ, List.foldl_append, ih]
  simp only [List.foldl_cons, List.foldl_nil, fill, hl, List.getElem?_toArray, if_true, hv]
theorem unlisted_lt {listed : Array Bool} {i : Nat} (n : Nat) (hi : i < n) (hl : listed.getD i true = false) (hsz : i < listed.size) :
  ((List.range n).filter fun j => !(listed.setIfInBounds i true).getD j true).length < ((List.range n).filter fun j => !listed.getD j true).length := by
 have e : ((List.range n).filter fun j => !(listed.setIfInBounds i true).getD j true) = ((List.range n).filter fun j => !listed.getD j true).filter fun j => j != i := by
  rw [List.filter_filter]
  apply List.filter_congr
  intro j _
  by_cases hij : i = j
  ·subst hij
   simp [hsz]
  ·rw [getD_set_ne true hij]
   have : (j != i) = true := by simp; exact fun h => hij h.symm
   simp [this]
 rw [e]
 refine List.length_filter_lt_length_iff_exists.2 ⟨i, List.mem_filter.2 ⟨List.mem_range.2 hi, by simp [hl]⟩, by simp⟩
theorem all_listed {listed : Array Bool} (hb : backB ops = true) (hs : listed.size = ops.size) (h : Region.ready .any ops listed = []) : ∀ n j, j < n → j < ops.size → listed.getD j false = true := by
 intro n
 induction n with
 | zero => intro j hj; omega
 | succ n ih =>
  intro j hj hjs
  cases hl : listed.getD j false with
  | true => rfl
  | false =>
   exfalso
   have hr : j ∈ Region.ready .any ops listed := by
    refine mem_ready.2 ⟨?_, ops[j], by simp [hjs], fun e he hbd => ?_⟩
    ·have : j < listed.size := by omega
     simp [this] at hl ⊢; exact hl
    ·have hlt := backB_spec hb (by simp [hjs] : ops[j]? = some ops[j]) e he hbd
     exact ih e.on (by omega) (by omega)
   rw [h] at hr
   cases hr
theorem wp_region_stage {id : Nat} {Q : Exit → Act → World → Prop} {a : Act} {w : World} {l : List Oper} (S : List Nat) (C : Nat → World → Prop) (hm : P.follows .mixedOrders = true) (hB : okB l.toArray S = true)
  (hC : C 0 { w with drawn := w.drawn + 1 })
  (h : lex P l.toArray C S (fun a' => ∀ w', C S.length w' → Q .normal a' w') l 0 a) : (Code.region id l.toArray true).wp P Q a w := by
 simp only [okB, Bool.and_eq_true] at hB
 obtain ⟨⟨⟨⟨hsel, hap⟩, hrd⟩, hbk⟩, hch⟩ := hB
 obtain ⟨vs, h1, h2⟩ := lex_vals l 0 a h
 have hsel' := Region.noSelect_spec hsel
 generalize hops : l.toArray = ops at *
 have hsz : ops.size = l.length := by rw [← hops]; simp
 have hget : ∀ k : Nat, ops[k]? = l[k]? := by intro k; rw [← hops]; simp
 let vals : Nat → Value := fun m => vs.getD m undef
 have hfr : ∀ n, (List.range n).foldl (fun x m => match l[m]? with | some om => x.put om.dst (vs.getD m undef) | none => x) a = fill ops vals (fun _ => true) n a :=
  fun n => fill_fold vals l vs hops.symm (fun _ => rfl) a n
 rw [hfr] at h2
 have hgood : ∀ k o, ops[k]? = some o → Good P ops C S k o (fill ops vals (fun j => decide (j < k)) ops.size a) (vals k) := by
  intro k o hk
  obtain ⟨b, hb1, hb2⟩ := h1 k o (by rw [← hget]; exact hk)
  rw [hfr] at hb2
  have hks : k < ops.size := (Array.getElem?_eq_some_iff.1 hk).1
  have e : fill ops vals (fun j => decide (j < k)) ops.size a = b := by
   rw [hb2, fill_stop a k ops.size (by omega) (fun j hj => by simp; omega)]
   exact fill_ext a k (fun j hj => by simp [hj])
  rw [e]
  rw [Nat.zero_add] at hb1
  exact hb1
 have main : ∀ (fuel : Nat) (listed : Array Bool) (k : Nat) (w : World), Inv ops S listed k → C k w → ((List.range ops.size).filter fun j => !listed.getD j true).length ≤ fuel →
   wpAny P .any ops Q fuel listed (fill ops vals (fun j => listed.getD j false) ops.size a) w := by
  intro fuel
  induction fuel with
  | zero =>
   intro listed k w inv hCk hf
   have hnil : Region.ready .any ops listed = [] := by
    cases hr : Region.ready .any ops listed with
    | nil => rfl
    | cons i r =>
     exfalso
     have hi : i ∈ Region.ready .any ops listed := by rw [hr]; simp
     obtain ⟨hun, o, ho, _⟩ := mem_ready.1 hi
     have hio : i < ops.size := (Array.getElem?_eq_some_iff.1 ho).1
     have : i ∈ (List.range ops.size).filter fun j => !listed.getD j true := List.mem_filter.2 ⟨List.mem_range.2 hio, by simp [hun]⟩
     have : 0 < ((List.range ops.size).filter fun j => !listed.getD j true).length := List.length_pos_of_mem this
     omega
   refine ⟨hnil, ?_⟩
   have hall := all_listed hbk inv.size hnil ops.size
   rw [fill_ext (L' := fun _ => true) a ops.size (fun j hj => hall j hj hj)]
   have hk : k = S.length := by
    have := inv.le
    rcases Nat.lt_or_ge k S.length with h | h
    ·have hx := List.getElem?_eq_getElem h
     have := (inv.done k _ hx).1 (hall _ (chainB_lt hch _ (List.mem_of_getElem? hx)) (chainB_lt hch _ (List.mem_of_getElem? hx)))
     omega
    ·omega
   subst hk
   rw [hsz]
   exact h2 w hCk
  | succ fuel ih =>
   intro listed k w inv hCk hf
   refine ⟨fun hnil => ?_, fun i hi => ?_⟩
   ·have hall := all_listed hbk inv.size hnil ops.size
    rw [fill_ext (L' := fun _ => true) a ops.size (fun j hj => hall j hj hj)]
    have hk : k = S.length := by
     have := inv.le
     rcases Nat.lt_or_ge k S.length with h | h
     ·have hx := List.getElem?_eq_getElem h
      have := (inv.done k _ hx).1 (hall _ (chainB_lt hch _ (List.mem_of_getElem? hx)) (chainB_lt hch _ (List.mem_of_getElem? hx)))
      omega
     ·omega
    subst hk
    rw [hsz]
    exact h2 w hCk
   ·obtain ⟨hun, o, ho, hall⟩ := mem_ready.1 hi
    have hio : i < ops.size := (Array.getElem?_eq_some_iff.1 ho).1
    have hunf := ready_unlisted inv.size hi
    have hG : Good P ops C S i o (fill ops vals (fun j => listed.getD j false) ops.size a) (vals i) := by
     refine (hgood i o ho).move (hsel' i o · · ho) fun t ht => fill_slot a t ops.size fun j oj hj hd => ?_
     by_cases hji : j = i
     ·subst hji; simp [hunf]
     ·have hr := readsB_spec hrd ho hj ht hd hji
      by_cases hlt : j < i
      ·rw [if_pos hlt] at hr
       obtain ⟨o', ho', e, he, hb, hon⟩ := waits_spec hr
       have : o' = o := Option.some.inj (ho'.symm.trans ho)
       subst this
       have := hall e he hb
       rw [hon] at this
       simp only [this, hlt, decide_true]
      ·rw [if_neg hlt] at hr
       obtain ⟨o', ho', e, he, hb, hon⟩ := waits_spec hr
       have : listed.getD j false = false := by
        cases hl : listed.getD j false with
        | false => rfl
        | true =>
         have := inv.closed j o' ho' hl e he hb
         rw [hon, hunf] at this
         cases this
       simp only [this, hlt, decide_false]
    have inv' := inv.step hch hi
    have hlen : ((List.range ops.size).filter fun j => !(listed.setIfInBounds i true).getD j true).length ≤ fuel := by
     have := unlisted_lt ops.size hio hun (by rw [inv.size]; exact hio)
     omega
    have hset : fill ops vals (fun j => (listed.setIfInBounds i true).getD j false) ops.size a = (fill ops vals (fun j => listed.getD j false) ops.size a).put o.dst (vals i) := by
     have e1 : (fun j => (listed.setIfInBounds i true).getD j false) = fun j => listed.getD j false || j == i := by
      funext j
      by_cases hij : i = j
      ·subst hij
       have : i < listed.size := by rw [inv.size]; exact hio
       simp [this]
      ·rw [getD_set_ne false hij]
       have : (j == i) = false := by simp; exact fun h => hij h.symm
       simp [this]
     rw [e1, fill_set hap a ho hunf ops.size, if_pos hio]
    have next : ∀ w', C (k + inc S i) w' → wpAny P .any ops Q fuel (listed.setIfInBounds i true) ((fill ops vals (fun j => listed.getD j false) ops.size a).put o.dst (vals i)) w' := by
     intro w' hw'
     rw [← hset]
     exact ih _ _ w' inv' hw' hlen
    unfold wpOp
    simp only [ho]
    rcases hG with ⟨hw, hup⟩ | ⟨hnS, hw, hv⟩
    ·rw [if_pos hw]
     refine .inl ?_
     have hu := hup k w (lo_le inv hi) (le_hi inv hi) hCk
     unfold Oper.wp
     generalize (execOp (fill ops vals (fun j => listed.getD j false) ops.size a).eval o).run P w = r at hu
     cases r with
     | halt x w' => simp only [upon] at hu
     | ok n w' =>
      cases n <;> simp only [upon] at hu <;> simp only [Oper.upon]
      case value u => rw [hu.1]; exact next _ hu.2
      case skip => rw [← hu.1]; exact next _ hu.2
      case enter f args => exact hu.mono fun e w'' ⟨he, hw''⟩ => by subst he; exact next _ hw''
    ·rw [if_neg (by rw [hw]; exact Bool.false_ne_true), ← hv]
     refine next _ ?_
     have : inc S i = 0 := by unfold inc; rw [hnS]; rfl
     rw [this]; exact hCk
 refine wp_region_any hm ?_
 have := main ops.size (Array.replicate ops.size false) 0 { w with drawn := w.drawn + 1 } ⟨by simp, fun j o _ hl => by
   exfalso
   rcases Nat.lt_or_ge j ops.size with h | h
   ·simp [h] at hl
   ·simp [h] at hl, Nat.zero_le _, fun m s hs => by
   constructor
   ·intro hl
    exfalso
    rcases Nat.lt_or_ge s ops.size with h | h
    ·simp [h] at hl
    ·simp [h] at hl
   ·intro h; omega⟩ hC (by have := List.length_filter_le (fun j => !(Array.replicate ops.size false).getD j true) (List.range ops.size); simpa using this)
 have e0 : fill ops vals (fun j => (Array.replicate ops.size false).getD j false) ops.size a = a := by
  rw [fill_stop a 0 ops.size (Nat.zero_le _) (fun j _ => by
   rcases Nat.lt_or_ge j ops.size with h | h
   ·simp [h]
   ·simp [h])]
  rfl
 rw [e0] at this
 exact this
end
def plainOp : Op → Bool
 | .move _ | .assign _ | .build .. | .load .. | .nilCheck _ | .binOp .. | .unOp .. | .convert .. | .fieldAddr .. | .field .. | .indexAddr .. | .index .. | .extract .. | .slice .. | .pick .. => true
 | .call ⟨.builtin .len, _, _⟩ => true
 | _ => false
theorem bind_value {P : Program} (s : Sem Value) (w : World) (f : FuncId) (args : Array Value) (w' : World) : (Sem.run P (do let x ← s; pure (Next.value x)) w) ≠ .ok (.enter f args) w' := by
 rw [Sem.run_bind]
 cases Sem.run P s w <;> simp [Result.andThen, pure]
theorem noEnter {P : Program} {o : Oper} (h : plainOp o.op = true) (ρ : Operand → Value) (w : World) (f : FuncId) (args : Array Value) (w' : World) : (execOp ρ o).run P w ≠ .ok (.enter f args) w' := by
 obtain ⟨dst, op, type, pos, after, guard⟩ := o
 cases op <;> simp only [plainOp, Bool.false_eq_true] at h
 case nilCheck x =>
  simp only [execOp]
  split
  ·simp [runtimePanic, go_sem]
  ·simp [runtimePanic, go_sem]
  ·simp [runtimePanic, go_sem]
  ·split
   ·simp [runtimePanic, go_sem]
   ·rw [Sem.run_bind]
    cases Sem.run P program w with
    | halt x w1 => simp [Result.andThen]
    | ok p w1 =>
     simp only [Result.andThen]
     rw [Sem.run_bind]
     cases Sem.run P (nilAhead (p.types.size + Made.depth) _ _ _) w1 with
     | halt x w1 => simp [Result.andThen]
     | ok r w2 =>
      simp only [Result.andThen]
      split
      ·simp [unsupported, go_sem]
      ·simp [pure]
   ·simp [pure]
  ·simp [pure]
 case pick c a b =>
  simp only [execOp]
  rw [Sem.run_bind]
  cases Sem.run P (asBool (ρ c)) w <;> simp [Result.andThen, pure]
 case call c =>
  obtain ⟨cl, as, ts⟩ := c
  cases cl
  ·simp at h
  ·simp at h
  ·rename_i b
   cases b <;> simp at h
   simp only [execOp, resolve, invoke]
   rw [Sem.run_bind]
   simp only [pure, Sem.run, Result.andThen, builtin]
   exact bind_value _ _ _ _ _
 case move x => simp [execOp, pure]
 case assign x => simp [execOp, pure]
 all_goals exact bind_value _ _ _ _ _
section
variable {P : Program} {ops : Array Oper} {C : Nat → World → Prop} {S : List Nat} {Q : Act → Prop}
theorem lex_quiet {U : World → Prop} {i : Nat} {o : Oper} {l : List Oper} {a : Act} {K : Act → Prop} (hS : S.contains i = false) (hp : plainOp o.op = true) (hU : ∀ j w, j ≤ hi ops S i → C j w → U w)
  (hw : Region.wanted o (yielded ops a.tmps) = true) (h : o.quiet P a U K) (hK : ∀ a, K a → lex P ops C S Q l (i + 1) a) : lex P ops C S Q (o :: l) i a := by
 obtain ⟨v, h1, h2⟩ := h
 refine ⟨v, .inl ⟨hw, fun j w _ hj hC => ?_⟩, hK _ h2⟩
 have h3 := h1 w (hU j w hj hC)
 have hi : inc S i = 0 := by unfold inc; rw [hS]; rfl
 have hne := noEnter (P := P) hp a.eval w
 unfold Oper.quietAt at h3
 rw [hi, Nat.add_zero]
 generalize (execOp a.eval o).run P w = r at *
 cases r with
 | halt x w' => simp only [Oper.quietUpon] at h3
 | ok n w' =>
  cases n <;> simp only [Oper.quietUpon] at h3 <;> simp only [upon]
  case value u => exact ⟨h3.2, by rw [h3.1]; exact hC⟩
  case skip => exact ⟨h3.2, by rw [h3.1]; exact hC⟩
  case enter f args => exact absurd rfl (hne f args w')
theorem lex_skip {i : Nat} {o : Oper} {l : List Oper} {a : Act} (hS : S.contains i = false) (hw : Region.wanted o (yielded ops a.tmps) = false) (h : lex P ops C S Q l (i + 1) (a.put o.dst undef)) : lex P ops C S Q (o :: l) i a :=
 ⟨undef, .inr ⟨hS, hw, rfl⟩, h⟩
def segB (ops : Array Oper) (S : List Nat) (m : Nat) : List Oper → Nat → Bool
 | [], _ => true
 | o :: l, i => !S.contains i && decide (hi ops S i < m) && plainOp o.op && segB ops S m l (i + 1)
theorem lex_seg {U : World → Prop} {m : Nat} (hU : ∀ j w, j < m → C j w → U w) : ∀ (l1 l2 : List Oper) (i : Nat) (a : Act), segB ops S m l1 i = true →
  wpQuiet P ops U (fun a' => lex P ops C S Q l2 (i + l1.length) a') l1 a → lex P ops C S Q (l1 ++ l2) i a
 | [], l2, i, a, _, h => by simpa [wpQuiet] using h
 | o :: l1, l2, i, a, hB, h => by
  simp only [segB, Bool.and_eq_true, Bool.not_eq_true', decide_eq_true_eq] at hB
  obtain ⟨⟨⟨h1, h2⟩, h3⟩, h4⟩ := hB
  have more : ∀ a, wpQuiet P ops U (fun a' => lex P ops C S Q l2 (i + (o :: l1).length) a') l1 a → lex P ops C S Q (l1 ++ l2) (i + 1) a := fun a h => by
   refine lex_seg hU l1 l2 (i + 1) a h4 ?_
   have : i + 1 + l1.length = i + (o :: l1).length := by simp; omega
   rw [this]; exact h
  unfold wpQuiet at h
  split at h
  ·rename_i hw
   exact lex_quiet h1 h3 (fun j w hj hC => hU j w (by omega) hC) hw h more
  ·rename_i hw
   exact lex_skip h1 (by simpa using hw) (more _ h)
theorem lex_upto {U : World → Prop} (n m : Nat) {l : List Oper} {i : Nat} {a : Act} (hn : n ≤ l.length) (hB : segB ops S m (l.take n) i = true) (hU : ∀ j w, j < m → C j w → U w)
  (h : wpQuiet P ops U (fun a' => lex P ops C S Q (l.drop n) (i + n) a') (l.take n) a) : lex P ops C S Q l i a := by
 have := lex_seg (Q := Q) hU (l.take n) (l.drop n) i a hB (by rw [List.length_take, Nat.min_eq_left hn]; exact h)
 rwa [List.take_append_drop] at this
theorem lex_move (k : Nat) {i : Nat} {o : Oper} {l : List Oper} {a : Act} (hS : (S.contains i && decide (lo ops S i = k) && decide (hi ops S i = k) && o.guard.isNone) = true) (v : Value)
  (h : ∀ w, C k w → upon P (C (k + 1)) v ((execOp a.eval o).run P w)) (hn : lex P ops C S Q l (i + 1) (a.put o.dst v)) : lex P ops C S Q (o :: l) i a := by
 simp only [Bool.and_eq_true, decide_eq_true_eq, Option.isNone_iff_eq_none] at hS
 obtain ⟨⟨⟨h1, h2⟩, h3⟩, h4⟩ := hS
 refine ⟨v, .inl ⟨by simp [Region.wanted, h4], fun j w hj hj' hC => ?_⟩, hn⟩
 have : j = k := by omega
 subst this
 have hi : inc S i = 1 := by unfold inc; rw [if_pos h1]
 rw [hi]
 exact h w hC
theorem lex_nil {i : Nat} {a : Act} (h : Q a) : lex P ops C S Q [] i a := h
end
theorem cover3 (A B D : World) : ∃ f : Nat → World, (∀ n, ∃ k, A.drewN n = f k) ∧ (∀ n, ∃ k, B.drewN n = f k) ∧ (∀ n, ∃ k, D.drewN n = f k) ∧
  ∀ p : World → Prop, (∀ n, p (A.drewN n)) → (∀ n, p (B.drewN n)) → (∀ n, p (D.drewN n)) → ∀ k, p (f k) := by
 refine ⟨fun k => if k % 3 = 0 then A.drewN (k / 3) else if k % 3 = 1 then B.drewN (k / 3) else D.drewN (k / 3), fun n => ⟨3 * n, ?_⟩, fun n => ⟨3 * n + 1, ?_⟩, fun n => ⟨3 * n + 2, ?_⟩, fun p h1 h2 h3 k => ?_⟩
 ·have h : 3 * n % 3 = 0 := by omega
  have h' : 3 * n / 3 = n := by omega
  simp only [h, h', if_true]
 ·have h : (3 * n + 1) % 3 = 1 := by omega
  have h' : (3 * n + 1) / 3 = n := by omega
  simp [h, h']
 ·have h : (3 * n + 2) % 3 = 2 := by omega
  have h' : (3 * n + 2) / 3 = n := by omega
  simp [h, h']
 ·show p (if k % 3 = 0 then A.drewN (k / 3) else if k % 3 = 1 then B.drewN (k / 3) else D.drewN (k / 3))
  split
  ·exact h1 _
  ·split
   ·exact h2 _
   ·exact h3 _
def pick3 (x : Nat) (A B D : World) (j : Nat) : World := if j = 0 then A else if j < x then B else D
theorem pick3_cover {A B D : World} {f : Nat → World} (h0 : ∀ n, ∃ k, A.drewN n = f k) (h1 : ∀ n, ∃ k, B.drewN n = f k) (h2 : ∀ n, ∃ k, D.drewN n = f k) (x m : Nat) :
  ∀ (j : Nat) (w' : World), j < m → (∃ n, w' = (pick3 x A B D j).drewN n) → ∃ n, w' = f n := by
 rintro j w' _ ⟨n, rfl⟩
 unfold pick3
 split
 ·exact h0 n
 ·split
  ·exact h1 n
  ·exact h2 n
def pick4 (A B D E : World) (j : Nat) : World := if j = 0 then A else if j = 1 then B else if j = 2 then D else E
theorem upon_append {P : Program} {D : World → Prop} {o : Oper} {a : Act} {s x : Operand} {t : TypeId} {v src v' : Value} {w w' : World} (ho : o.op = .call { callee := .builtin .append, args := #[s, x], argTypes := #[t, t] }) (hs : a.eval s = v) (hx : a.eval x = src)
  (hr : (Builtin.append_ #[t, t] o.type #[v, src]).run P w = .ok v' w') (hD : D w') : upon P D v' ((execOp a.eval o).run P w) := by
 unfold execOp
 simp only [ho, resolve, invoke, builtin, Sem.run_bind, Sem.run_pure, Result.andThen_ok, List.map_toArray, List.map_cons, List.map_nil, hs, hx, hr]
 exact ⟨rfl, hD⟩
theorem coverE4 (A B D E : World) : ∃ f : Nat → World, A = f 0 ∧ B = f 1 ∧ D = f 2 ∧ E = f 3 ∧ ∀ p : World → Prop, p A → p B → p D → p E → ∀ k, p (f k) := by
 refine ⟨fun k => if k = 0 then A else if k = 1 then B else if k = 2 then D else E, rfl, rfl, rfl, rfl, fun p h1 h2 h3 h4 k => ?_⟩
 show p (if k = 0 then A else if k = 1 then B else if k = 2 then D else E)
 split
 ·exact h1
 ·split
  ·exact h2
  ·split
   ·exact h3
   ·exact h4
theorem pick4_cover4 {A B D E : World} {f : Nat → World} (h0 : A = f 0) (h1 : B = f 1) (h2 : D = f 2) (h3 : E = f 3) : ∀ (j : Nat) (w' : World), j < 4 → w' = pick4 A B D E j → ∃ n, w' = f n := by
 rintro j w' hj rfl
 rcases (show j = 0 ∨ j = 1 ∨ j = 2 ∨ j = 3 from by omega) with rfl | rfl | rfl | rfl
 ·exact ⟨0, h0⟩
 ·exact ⟨1, h1⟩
 ·exact ⟨2, h2⟩
 ·exact ⟨3, h3⟩
end Go.Stg
