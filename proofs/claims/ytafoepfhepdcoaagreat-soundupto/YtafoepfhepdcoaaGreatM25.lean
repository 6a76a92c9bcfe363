import Derived.Test.YtafoepfhepdcoaaGreatM6
import Derived.Test.YtafoepfhepdcoaaGreatM12
import Derived.Test.YtafoepfhepdcoaaGreatM14
import Derived.Test.YtafoepfhepdcoaaGreatM23
import Derived.Test.YtafoepfhepdcoaaGreatM5
set_option maxRecDepth 100000
set_option maxHeartbeats 8000000
namespace Go.Trawl
def Pre (s s' : ByteArray) : Prop := ∃ t, s'.data.toList = s.data.toList ++ t
theorem Pre.size {s s' : ByteArray} (h : Pre s s') : s.size ≤ s'.size := by
 obtain ⟨t, h⟩ := h
 have := congrArg List.length h
 simp at this
 omega
theorem at8_lst (s : ByteArray) (k : Nat) : at8 s k = (s.data.toList.getD k 0).toNat := by
 unfold at8
 simp [Array.getD_eq_getD_getElem?, List.getD_eq_getElem?_getD]
theorem Pre.at8 {s s' : ByteArray} (h : Pre s s') {k : Nat} (hk : k < s.size) : Go.Trawl.at8 s' k = Go.Trawl.at8 s k := by
 obtain ⟨t, h⟩ := h
 rw [at8_lst, at8_lst, h, List.getD_eq_getElem?_getD, List.getD_eq_getElem?_getD, List.getElem?_append_left (by simpa using hk)]
theorem Pre.cut {s s' : ByteArray} (h : Pre s s') {i j : Nat} (hj : j ≤ s.size) : Go.Trawl.cut s' i j = Go.Trawl.cut s i j := by
 obtain ⟨t, h⟩ := h
 have hl : s.data.toList.length = s.size := by simp
 unfold Go.Trawl.cut
 by_cases hi : i ≤ s.size
 ·rw [h, List.drop_append_of_le_length (by omega), List.take_append_of_le_length (by rw [List.length_drop]; omega)]
 ·have : j - i = 0 := by omega
  rw [this]
  simp
theorem Pre.behind {s s' : ByteArray} (h : Pre s s') (k : Nat) (hk : Go.Trawl.behind s k < s.size) : Go.Trawl.behind s' k = Go.Trawl.behind s k := by
 by_cases hc : k < s.size ∧ 0 < Go.Trawl.at8 s k ∧ Go.Trawl.at8 s k ≤ 63
 ·have e := h.at8 hc.1
  rw [behind_next s k hc.1 hc.2.1 hc.2.2] at hk ⊢
  rw [behind_next s' k (by have := h.size; omega) (by rw [e]; exact hc.2.1) (by rw [e]; exact hc.2.2), e]
  exact h.behind _ hk
 ·have hk2 := hk
  rw [behind_stop s k hc] at hk2
  have e := h.at8 hk2
  rw [behind_stop s k hc, behind_stop s' k]
  rw [e]
  exact fun hh => hc ⟨hk2, hh.2⟩
termination_by s.size - k
decreasing_by omega
theorem Pre.whole {s s' : ByteArray} (h : Pre s s') {k : Nat} {r : List UInt8 × Nat} (hr : Go.Trawl.whole s k = some r) : Go.Trawl.whole s' k = some r := by
 have hz := h.size
 by_cases hh : Go.Trawl.behind s k < s.size ∧ (Go.Trawl.at8 s (Go.Trawl.behind s k) = 0 ∨ 192 ≤ Go.Trawl.at8 s (Go.Trawl.behind s k) ∧ Go.Trawl.behind s k + 1 < s.size ∧ ptr s (Go.Trawl.behind s k) < k)
 ·obtain ⟨h1, h2⟩ := hh
  have e := h.behind k h1
  have e8 := h.at8 h1
  rcases h2 with h2 | ⟨h2, h3, h4⟩
  ·rw [whole_end h1 h2] at hr
   rw [whole_end (by rw [e]; omega) (by rw [e, e8]; exact h2), e, h.cut (by omega)]
   exact hr
  ·have ep : ptr s' (Go.Trawl.behind s k) = ptr s (Go.Trawl.behind s k) := by unfold ptr; rw [e8, h.at8 h3]
   rw [whole_on h1 h2 h3 h4] at hr
   rw [whole_on (by rw [e]; omega) (by rw [e, e8]; exact h2) (by rw [e]; omega) (by rw [e, ep]; exact h4), e, ep, h.cut (by omega)]
   cases hw : Go.Trawl.whole s (ptr s (Go.Trawl.behind s k)) with
   | none => rw [hw] at hr; cases hr
   | some q =>
    rw [hw] at hr
    rw [h.whole hw]
    exact hr
 ·rw [whole_no hh] at hr
  cases hr
termination_by k
decreasing_by exact h4
def Mono {α : Type} (p p' : Par α) : Prop := ∀ a r, p a = some r → p' a = some r
theorem Mono.bind {α β : Type} {p p' : Par α} {f f' : α → Par β} (h : Mono p p') (k : ∀ x, Mono (f x) (f' x)) : Mono (p.bind f) (p'.bind f') := fun a r hr => by
 unfold Par.bind at hr ⊢
 cases hp : p a with
 | none => rw [hp] at hr; cases hr
 | some q =>
  rw [hp] at hr
  rw [h a q hp]
  exact k q.1 q.2 r hr
theorem Mono.refl {α : Type} (p : Par α) : Mono p p := fun _ _ h => h
theorem Mono.many {α : Type} {p p' : Par α} (h : Mono p p') : ∀ n, Mono (p.many n) (p'.many n)
 | 0 => Mono.refl _
 | n + 1 => (Mono.many h n).bind fun _ => h.bind fun _ => Mono.refl _
theorem Pre.num2 {s s' : ByteArray} (h : Pre s s') : Mono (Go.Trawl.num2 s) (Go.Trawl.num2 s') := fun a r hr => by
 have := h.size
 unfold Go.Trawl.num2 at hr ⊢
 split at hr
 ·rename_i hl
  rw [if_pos (by omega)]
  have e : n2 s' a = n2 s a := by unfold n2; rw [h.at8 (by omega), h.at8 (by omega)]
  rw [e]; exact hr
 ·cases hr
theorem Pre.num4 {s s' : ByteArray} (h : Pre s s') : Mono (Go.Trawl.num4 s) (Go.Trawl.num4 s') := fun a r hr => by
 have := h.size
 unfold Go.Trawl.num4 at hr ⊢
 split at hr
 ·rename_i hl
  rw [if_pos (by omega)]
  have e : n4 s' a = n4 s a := by unfold n4 n2; rw [h.at8 (by omega), h.at8 (by omega), h.at8 (by omega), h.at8 (by omega)]
  rw [e]; exact hr
 ·cases hr
theorem Pre.name {s s' : ByteArray} (h : Pre s s') : Mono (pName s) (pName s') := fun a r hr => by
 unfold pName at hr ⊢
 cases hw : Go.Trawl.whole s a with
 | none => rw [hw] at hr; cases hr
 | some q => rw [hw] at hr; rw [h.whole hw]; exact hr
theorem Pre.data {s s' : ByteArray} (h : Pre s s') (k : Int) (n : Nat) : Mono (pData s k n) (pData s' k n) := fun a r hr => by
 have := h.size
 unfold pData at hr ⊢
 split at hr
 ·rename_i hn
  rw [if_pos hn]
  cases hp : pName s a with
  | none => rw [hp] at hr; cases hr
  | some q => rw [hp] at hr; rw [h.name a q hp]; exact hr
 ·rename_i hn
  rw [if_neg hn]
  unfold pText at hr ⊢
  split at hr
  ·rename_i hl
   rw [if_pos (by omega), h.cut hl]
   exact hr
  ·cases hr
theorem Pre.q {s s' : ByteArray} (h : Pre s s') : Mono (pQ s) (pQ s') := h.name.bind fun _ => h.num2.bind fun _ => h.num2.bind fun _ => Mono.refl _
theorem Pre.r {s s' : ByteArray} (h : Pre s s') : Mono (pR s) (pR s') := h.name.bind fun _ => h.num2.bind fun _ => h.num2.bind fun _ => h.num4.bind fun _ => h.num2.bind fun _ => (h.data _ _).bind fun _ => Mono.refl _
theorem Pre.m {s s' : ByteArray} (h : Pre s s') : Mono (pM s) (pM s') :=
 h.num2.bind fun _ => h.num2.bind fun _ => h.num2.bind fun _ => h.num2.bind fun _ => h.num2.bind fun _ => h.num2.bind fun _ => (h.q.many _).bind fun _ => (h.r.many _).bind fun _ => (h.r.many _).bind fun _ => (h.r.many _).bind fun _ => Mono.refl _
structure At (s : ByteArray) (a : Nat) (l : List UInt8) : Prop where
 le : a + l.length ≤ s.size
 is : cut s a (a + l.length) = l
theorem At.left {s : ByteArray} {a : Nat} {x y : List UInt8} (h : At s a (x ++ y)) : At s a x := by
 have hl := h.le
 rw [List.length_append] at hl
 refine ⟨by omega, ?_⟩
 have e := h.is
 rw [List.length_append, ← cut_join (i := a) (j := a + x.length) (by omega) (by omega)] at e
 exact (List.append_inj e (by rw [cut_length (by omega)]; omega)).1
theorem At.right {s : ByteArray} {a : Nat} {x y : List UInt8} (h : At s a (x ++ y)) : At s (a + x.length) y := by
 have hl := h.le
 rw [List.length_append] at hl
 refine ⟨by omega, ?_⟩
 have e := h.is
 rw [List.length_append, ← cut_join (i := a) (j := a + x.length) (by omega) (by omega)] at e
 have := (List.append_inj e (by rw [cut_length (by omega)]; omega)).2
 rwa [show a + (x.length + y.length) = a + x.length + y.length by omega] at this
theorem At.at8 {s : ByteArray} {a : Nat} {l : List UInt8} (h : At s a l) {k : Nat} {b : UInt8} (hk : l[k]? = some b) : Go.Trawl.at8 s (a + k) = b.toNat := by
 rw [← h.is] at hk
 unfold Go.Trawl.cut at hk
 rw [List.getElem?_take] at hk
 split at hk
 ·rw [List.getElem?_drop] at hk
  rw [at8_lst, List.getD_eq_getElem?_getD, hk]
  rfl
 ·cases hk
theorem u8_of {n : Int} (h : 0 ≤ n) (h2 : n < 256) : ((UInt8.ofNat n.toNat).toNat : Int) = n := by
 rw [UInt8.toNat_ofNat_of_lt' (show n.toNat < 2 ^ 8 by omega)]
 omega
theorem At.n2 {s : ByteArray} {a : Nat} {n : Int} (h : At s a (two n)) (h0 : 0 ≤ n) (h1 : n ≤ 65535) : (Go.Trawl.n2 s a : Int) = n := by
 have e0 := h.at8 (k := 0) rfl
 have e1 := h.at8 (k := 1) rfl
 have u0 := u8_of (n := n / 256 % 256) (by omega) (by omega)
 have u1 := u8_of (n := n % 256) (by omega) (by omega)
 unfold Go.Trawl.n2
 rw [Nat.add_zero] at e0
 rw [e0, e1]
 omega
theorem At.num2 {s : ByteArray} {a : Nat} {n : Int} (h : At s a (two n)) (h0 : 0 ≤ n) (h1 : n ≤ 65535) : Go.Trawl.num2 s a = some (n, a + 2) := by
 have := h.le
 rw [length_two] at this
 unfold Go.Trawl.num2
 rw [if_pos this, h.n2 h0 h1]
theorem At.num4 {s : ByteArray} {a : Nat} {n : Int} (h : At s a (two (n / 65536) ++ two (n % 65536))) (h0 : 0 ≤ n) (h1 : n ≤ 4294967295) : Go.Trawl.num4 s a = some (n, a + 4) := by
 have := h.le
 rw [List.length_append, length_two, length_two] at this
 have e0 := h.left.n2 (by omega) (by omega)
 have e1 := h.right.n2 (by omega) (by omega)
 rw [length_two] at e1
 unfold Go.Trawl.num4
 rw [if_pos (by omega)]
 have e : (n4 s a : Int) = n := by
  have : n4 s a = Go.Trawl.n2 s a * 65536 + Go.Trawl.n2 s (a + 2) := rfl
  omega
 rw [e]
theorem toList_get {n : ByteArray} {k : Nat} (h : k < n.size) : ∃ b, n.data.toList[k]? = some b ∧ b.toNat = Go.Trawl.at8 n k := by
 have hl : k < n.data.toList.length := by simpa using h
 refine ⟨n.data.toList[k], List.getElem?_eq_getElem hl, ?_⟩
 rw [at8_lst, List.getD_eq_getElem?_getD, List.getElem?_eq_getElem hl]
 rfl
theorem At.name8 {s : ByteArray} {a : Nat} {n : ByteArray} (h : At s a n.data.toList) {k : Nat} (hk : k < n.size) : Go.Trawl.at8 s (a + k) = Go.Trawl.at8 n k := by
 obtain ⟨b, h1, h2⟩ := toList_get hk
 rw [h.at8 h1, h2]
theorem At.behind {s : ByteArray} {a : Nat} {n : ByteArray} (h : At s a n.data.toList) (k : Nat) (hk : Go.Trawl.behind n k < n.size) : Go.Trawl.behind s (a + k) = a + Go.Trawl.behind n k := by
 have hl := h.le
 have hs : n.data.toList.length = n.size := by simp
 by_cases hc : k < n.size ∧ 0 < Go.Trawl.at8 n k ∧ Go.Trawl.at8 n k ≤ 63
 ·have e := h.name8 hc.1
  rw [behind_next n k hc.1 hc.2.1 hc.2.2] at hk ⊢
  rw [behind_next s (a + k) (by omega) (by rw [e]; exact hc.2.1) (by rw [e]; exact hc.2.2), e, show a + k + 1 + Go.Trawl.at8 n k = a + (k + 1 + Go.Trawl.at8 n k) by omega]
  exact h.behind _ hk
 ·have hk2 := hk
  rw [behind_stop n k hc] at hk2
  have e := h.name8 hk2
  rw [behind_stop n k hc, behind_stop s (a + k)]
  rw [e]
  exact fun hh => hc ⟨hk2, hh.2⟩
termination_by n.size - k
decreasing_by omega
theorem At.name {s : ByteArray} {a : Nat} {n : ByteArray} (h : At s a n.data.toList) (hn : nameB n = true) : pName s a = some (n, a + n.size) := by
 have hz := (nameB_size hn).2
 unfold nameB at hn
 obtain ⟨_, h1, h2⟩ := of_decide_eq_true hn
 have hl := h.le
 have hs : n.data.toList.length = n.size := by simp
 have hb := h.behind 0 (by omega)
 rw [Nat.add_zero] at hb
 have e8 := h.name8 (k := Go.Trawl.behind n 0) (by omega)
 have hw := whole_end (s := s) (k := a) (by rw [hb]; omega) (by rw [hb, e8]; exact h2)
 have e : cut s a (Go.Trawl.behind s a) ++ [0] = n.data.toList := by
  have hi := h.is
  rw [hs, show a + n.size = (a + Go.Trawl.behind n 0) + 1 by omega, ← cut_join (i := a) (j := a + Go.Trawl.behind n 0) (by omega) (by omega)] at hi
  rw [hb, ← hi]
  congr 1
  unfold Go.Trawl.cut
  rw [show a + Go.Trawl.behind n 0 + 1 - (a + Go.Trawl.behind n 0) = 1 by omega]
  rw [at8_lst, List.getD_eq_getElem?_getD] at e8
  have hlt : a + Go.Trawl.behind n 0 < s.data.toList.length := by simp; omega
  rw [List.drop_eq_getElem_cons hlt]
  simp only [List.take_succ_cons, List.take_zero]
  rw [List.getElem?_eq_getElem hlt, h2] at e8
  congr 1
  exact (UInt8.toNat_inj.1 e8).symm
 unfold pName
 rw [hw]
 simp only [Option.bind_some]
 rw [e, if_pos (by rw [hs]; exact hz), hb]
 simp only [Array.toArray_toList]
 rw [show a + Go.Trawl.behind n 0 + 1 = a + n.size by omega]
theorem At.text {s : ByteArray} {a : Nat} {n : ByteArray} (h : At s a n.data.toList) : pText s n.size a = some (n, a + n.size) := by
 have hl := h.le
 have hs : n.data.toList.length = n.size := by simp
 have hi := h.is
 rw [hs] at hi hl
 unfold pText
 rw [if_pos hl, hi]
structure NumQ (q : Qn) : Prop where
 k0 : 0 ≤ q.kind
 k1 : q.kind ≤ 65535
 c0 : 0 ≤ q.cls
 c1 : q.cls ≤ 65535
structure NumR (r : Rc) : Prop where
 k0 : 0 ≤ r.kind
 k1 : r.kind ≤ 65535
 c0 : 0 ≤ r.cls
 c1 : r.cls ≤ 65535
 t0 : 0 ≤ r.ttl
 t1 : r.ttl ≤ 4294967295
theorem bind_some {α β : Type} {p : Par α} {f : α → Par β} {a : Nat} {x : α} {b : Nat} (h : p a = some (x, b)) : p.bind f a = f x b := by
 unfold Par.bind
 rw [h]
 rfl
theorem At.q {s : ByteArray} {a : Nat} {q : Qn} (h : At s a (qbytes q)) (hn : okQ q = true) (hw : NumQ q) : pQ s a = some (q, a + (qbytes q).length) := by
 have hs : q.name.data.toList.length = q.name.size := by simp
 unfold qbytes at h
 have h1 := h.left.left
 have h2 := h.left.right
 have h3 := h.right
 rw [hs] at h2
 rw [List.length_append, hs, length_two] at h3
 unfold pQ
 rw [bind_some (h1.name hn), bind_some (h2.num2 hw.k0 hw.k1)]
 rw [show a + q.name.size + 2 = a + (q.name.size + 2) by omega, bind_some (h3.num2 hw.c0 hw.c1), length_qbytes]
 rfl
theorem At.r {s : ByteArray} {a : Nat} {r : Rc} (h : At s a (rbytes r)) (hn : okR r = true) (hw : NumR r) (hz : r.data.size ≤ 65535) : pR s a = some (r, a + (rbytes r).length) := by
 have hs : r.name.data.toList.length = r.name.size := by simp
 unfold rbytes at h
 have h6 := h.right
 have h5 := h.left.right
 have h4 : At s (a + (r.name.data.toList ++ two r.kind ++ two r.cls).length) (two (r.ttl / 65536) ++ two (r.ttl % 65536)) := by
  have := h.left.left
  rw [List.append_assoc] at this
  exact this.right
 have h3 := h.left.left.left.left.right
 have h2 := h.left.left.left.left.left.right
 have h1 := h.left.left.left.left.left.left
 simp only [List.length_append, length_two, hs] at h2 h3 h4 h5 h6
 unfold okR at hn
 rw [Bool.and_eq_true] at hn
 unfold pR
 rw [bind_some (h1.name hn.1), bind_some (h2.num2 hw.k0 hw.k1)]
 rw [show a + r.name.size + 2 = a + (r.name.size + 2) by omega, bind_some (h3.num2 hw.c0 hw.c1)]
 rw [show a + (r.name.size + 2) + 2 = a + (r.name.size + 2 + 2) by omega, bind_some (h4.num4 hw.t0 hw.t1)]
 rw [show a + (r.name.size + 2 + 2) + 4 = a + (r.name.size + 2 + 2 + 2 + 2) by omega, bind_some (h5.num2 (by omega) (by omega))]
 have hd : pData s r.kind ((r.data.size : Int)).toNat (a + (r.name.size + 2 + 2 + 2 + 2) + 2) = some (r.data, a + (r.name.size + 2 + 2 + 2 + 2 + 2) + r.data.size) := by
  rw [show a + (r.name.size + 2 + 2 + 2 + 2) + 2 = a + (r.name.size + 2 + 2 + 2 + 2 + 2) by omega, Int.toNat_natCast]
  unfold pData
  split
  ·rename_i hk
   have h7 : nameB r.data = true := by
    have := hn.2
    rw [hk] at this
    simpa using this
   rw [h6.name h7]
   simp
  ·exact h6.text
 rw [bind_some hd, length_rbytes]
 show some _ = some _
 rw [show a + (r.name.size + 2 + 2 + 2 + 2 + 2) + r.data.size = a + (r.name.size + 10 + r.data.size) by omega]
theorem many_at {α : Type} {s : ByteArray} {p : Par α} {f : α → List UInt8} : ∀ (n : Nat) (l : List α) (a : Nat), l.length = n → (∀ x ∈ l, ∀ a, At s a (f x) → p a = some (x, a + (f x).length)) → At s a (l.flatMap f) → p.many n a = some (l, a + (l.flatMap f).length)
 | 0, l, a, hl, _, _ => by
  cases l with
  | nil => rfl
  | cons x l => simp at hl
 | n + 1, l, a, hl, hx, h => by
  rcases List.eq_nil_or_concat l with rfl | ⟨l', x, rfl⟩
  ·simp at hl
  ·rw [List.concat_eq_append] at hl hx h ⊢
   rw [List.flatMap_append] at h ⊢
   simp only [List.flatMap_cons, List.flatMap_nil, List.append_nil] at h ⊢
   have ih := many_at n l' a (by simpa using hl) (fun y hy => hx y (List.mem_append_left _ hy)) h.left
   show (p.many n).bind _ a = _
   rw [bind_some ih, bind_some (hx x (by simp) _ h.right), List.length_append]
   show some _ = some _
   rw [Nat.add_assoc]
theorem dec_bit {b : Bool} {n : Int} (h : n = (if b then 1 else 0)) : decide (n = 1) = b := by
 subst h
 cases b <;> rfl
theorem unpack_pack {m : Msg} (hok : packOk m = true) (i0 : 0 ≤ m.id) (i1 : m.id ≤ 65535) (hq : ∀ q ∈ m.qs, NumQ q) (hr : ∀ r ∈ recs m, NumR r) : unpack ⟨(pack m).toArray⟩ = some m := by
 unfold packOk at hok
 simp only [Bool.and_eq_true, List.all_eq_true, decide_eq_true_eq] at hok
 obtain ⟨⟨⟨hin, hqs⟩, hrs⟩, hle⟩ := hok
 unfold inRange at hin
 have hin := of_decide_eq_true hin
 have hpl : (pack m).length ≤ 512 := by unfold pack; rw [List.length_append, length_head]; exact hle
 have hall : At ⟨(pack m).toArray⟩ 0 (pack m) := by
  refine ⟨by rw [Nat.zero_add]; exact Nat.le_refl _, ?_⟩
  unfold cut
  simp
 generalize hs : (⟨(pack m).toArray⟩ : ByteArray) = s at hall
 have hsz : s.size = (pack m).length := by rw [← hs]; rfl
 have hlen : ∀ (l : List Rc), l.length ≤ (l.flatMap rbytes).length := fun l => by
  induction l with
  | nil => simp
  | cons x l ih => rw [List.flatMap_cons, List.length_append, length_rbytes, List.length_cons]; omega
 have hlenq : m.qs.length ≤ (m.qs.flatMap qbytes).length := by
  generalize m.qs = l
  induction l with
  | nil => simp
  | cons x l ih => rw [List.flatMap_cons, List.length_append, length_qbytes, List.length_cons]; omega
 have hbody : (body m).length = (m.qs.flatMap qbytes).length + ((m.an.flatMap rbytes).length + (m.au.flatMap rbytes).length + (m.ex.flatMap rbytes).length) := by
  unfold body recs
  simp only [List.length_append, List.flatMap_append]
 have la := hlen m.an
 have lu := hlen m.au
 have lx := hlen m.ex
 have hd : ∀ r ∈ recs m, r.data.size ≤ 65535 := fun r hr => by
  have : (rbytes r).length ≤ ((recs m).flatMap rbytes).length := by
   generalize recs m = l at hr
   induction l with
   | nil => cases hr
   | cons x l ih =>
    rw [List.flatMap_cons, List.length_append]
    rcases List.mem_cons.1 hr with rfl | hr
    ·omega
    ·have := ih hr; omega
  rw [length_rbytes] at this
  unfold body at hle
  rw [List.length_append] at hle
  omega
 have hp : pack m = two m.id ++ (two (flags m) ++ (two m.qs.length ++ (two m.an.length ++ (two m.au.length ++ (two m.ex.length ++ (m.qs.flatMap qbytes ++ (m.an.flatMap rbytes ++ (m.au.flatMap rbytes ++ m.ex.flatMap rbytes)))))))) := by
  unfold pack head body recs
  simp only [List.append_assoc, List.flatMap_append]
 have a0 := hall
 rw [hp] at a0
 have a1 := a0.right
 have a2 := a1.right
 have a3 := a2.right
 have a4 := a3.right
 have a5 := a4.right
 have a6 := a5.right
 have a7 := a6.right
 have a8 := a7.right
 have a9 := a8.right
 simp only [length_two] at a1 a2 a3 a4 a5 a6 a7 a8 a9
 have hbit : ∀ b : Bool, ∀ n : Int, bit b n = if b then n else 0 := fun b n => rfl
 have hf : 0 ≤ flags m ∧ flags m ≤ 65535 := by
  unfold flags
  simp only [hbit]
  cases m.resp <;> cases m.own <;> cases m.cut <;> cases m.wanted <;> cases m.able <;> simp <;> omega
 have hR : ∀ l : List Rc, (∀ r ∈ l, r ∈ recs m) → ∀ x ∈ l, ∀ a, At s a (rbytes x) → pR s a = some (x, a + (rbytes x).length) := fun l hl x hx a ha => ha.r (hrs x (hl x hx)) (hr x (hl x hx)) (hd x (hl x hx))
 have e7 := many_at (p := pQ s) (f := qbytes) m.qs.length m.qs _ rfl (fun q hq' a ha => ha.q (hqs q hq') (hq q hq')) a6.left
 have e8 := many_at (p := pR s) (f := rbytes) m.an.length m.an _ rfl (hR m.an fun r hr => by simp [recs, hr]) a7.left
 have e9 := many_at (p := pR s) (f := rbytes) m.au.length m.au _ rfl (hR m.au fun r hr => by simp [recs, hr]) a8.left
 have e10 := many_at (p := pR s) (f := rbytes) m.ex.length m.ex _ rfl (hR m.ex fun r hr => by simp [recs, hr]) a9
 have key : pM s 0 = some (m, (pack m).length) := by
  unfold pM
  rw [bind_some (a0.left.num2 i0 i1), bind_some (a1.left.num2 hf.1 hf.2), bind_some (a2.left.num2 (by omega) (by omega)), bind_some (a3.left.num2 (by omega) (by omega)), bind_some (a4.left.num2 (by omega) (by omega)), bind_some (a5.left.num2 (by omega) (by omega))]
  simp only [Int.toNat_natCast]
  rw [bind_some e7, bind_some e8, bind_some e9, bind_some e10]
  show some _ = some _
  congr 1
  have hfl : flagged m.id (flags m) m.qs m.an m.au m.ex = m := by
   obtain ⟨id, rp, op, ow, ct, wa, ab, cd, qs, an, au, ex⟩ := m
   unfold flagged flags
   dsimp only at hin ⊢
   simp only [hbit]
   congr 1
   ·refine dec_bit ?_
    cases rp <;> cases ow <;> cases ct <;> cases wa <;> cases ab <;> simp <;> omega
   ·cases rp <;> cases ow <;> cases ct <;> cases wa <;> cases ab <;> simp <;> omega
   ·refine dec_bit ?_
    cases rp <;> cases ow <;> cases ct <;> cases wa <;> cases ab <;> simp <;> omega
   ·refine dec_bit ?_
    cases rp <;> cases ow <;> cases ct <;> cases wa <;> cases ab <;> simp <;> omega
   ·refine dec_bit ?_
    cases rp <;> cases ow <;> cases ct <;> cases wa <;> cases ab <;> simp <;> omega
   ·refine dec_bit ?_
    cases rp <;> cases ow <;> cases ct <;> cases wa <;> cases ab <;> simp <;> omega
   ·cases rp <;> cases ow <;> cases ct <;> cases wa <;> cases ab <;> simp <;> omega
  rw [hfl]
  congr 1
  rw [hp]
  simp only [List.length_append, length_two]
  omega
 unfold unpack
 rw [if_pos (by omega), key]
 simp only [Option.bind_some]
 rw [if_pos hsz.symm]
end Go.Trawl
namespace Go.Proofs.YtafoepfhepdcoaaGreat
open Go.RowKit Go.Trawl
theorem isConfig_yes (b d c t : Int) (rs : List Int) (a : Option Addr) (cp : Nat) (w : World) (h : confOk b d c t rs) :
  Calls Tryz.prog 102 #[confV b d c t (.slice a rs.length cp)] w fun e w' => e = .returned (.bool true) ∧ Hid (Below w.heap.size w w') := by
 have HB := hide ((Below.refl w.heap.size w).alloc (Nat.le_refl _) (.cells #[.int .i64 b, .int .i64 d, .int .i64 c, .int .i64 t, .slice a rs.length cp] 57))
 obtain ⟨⟨h1, h2⟩, ⟨h3, h4⟩, ⟨h5, h6⟩, ⟨h7, h8⟩, h9', h10'⟩ := h
 have h9 : (1 : Int) ≤ rs.length := by omega
 have h10 : (rs.length : Int) ≤ 8 := by omega
 clear h9' h10'
 unfold confV
 go_enter Tryz.func102, Tryz.ntmps102
 go_wp2
 go_ret
 exact ⟨rfl, HB.out⟩
theorem buildState (b d c t : Int) (a : Option Addr) (n cp : Nat) (W : World) : (Instr.build 150 #[(0, .agg #[.int .i64 b, .int .i64 d, .int .i64 c, .int .i64 t, .slice a n cp])]).run Tryz.prog W =
  .ok (.agg #[.int .i64 b, .int .i64 d, .int .i64 c, .int .i64 t, .slice a n cp, .int .u16 0, .nilFunc, .pointer none, .int .i64 0, .int .u16 0, .bool false, .int .i64 0, .bool false, .bool false, .bool false, .bool false, .int .i64 0, .slice none 0 0, .slice none 0 0, .slice none 0 0, .slice none 0 0]) W := run_build W _ _ _ (by kernel_rfl)
theorem buildXres (v : Option Addr) (W : World) : (Instr.build 96 #[(1, .pointer v)]).run Tryz.prog W = .ok (.agg #[.int .i32 0, .int .u32 0, .pointer v]) W := run_build W _ _ _ (by kernel_rfl)
attribute [local go_sem] buildState buildXres
theorem word_one {w : World} {v : Value} {x : Int} {rs : List Int} (h : Lies w 1 v (wordsV (x :: rs))) : ∃ b off n c, v = .slice (some ⟨b, off, none⟩) (n + 1) c ∧ w.cell? ⟨b, off, none⟩ = some (.int .u32 x) := by
 obtain ⟨a, c, hv, _, hc⟩ := h
 rcases hc with he | ⟨b, off, he, _, hc⟩
 ·cases he
 ·subst he
  exact ⟨b, off, rs.length, c, by rw [hv]; simp [wordsV], hc 0 [.int .u32 x] rfl 0 _ rfl⟩
def freshQ (b d c t : Int) (rs : List Int) : QSt := ⟨b, d, c, t, rs, 0, .idle, [], 0, zMsg⟩
theorem freshQ_ok {b d c t : Int} {rs : List Int} (h : confOk b d c t rs) : QOk (freshQ b d c t rs) :=
 ⟨h.1.1, h.1.2, h.2.1.1, h.2.1.2, h.2.2.1.1, h.2.2.1.2, h.2.2.2.1.1, h.2.2.2.1.2, h.2.2.2.2.1, h.2.2.2.2.2, by simp [freshQ], by simp [freshQ], by have := h.1.1; simp only [freshQ]; omega, by simp [freshQ], by have := h.2.1.1; simp only [freshQ, List.length_nil]; omega, zMsg_wf, rfl, rfl, by simp [freshQ, zMsg], fun e => absurd rfl e, fun _ => by have := h.2.2.1.1; simpa [freshQ, zMsg] using this, fun e => by cases e⟩
theorem freshQ_sim (b d c t : Int) (rs : List Int) : Sim (freshQ b d c t rs) (newSt b d c t rs) :=
 ⟨rfl, rfl, rfl, rfl, rfl, rfl, fun _ => ⟨rfl, rfl, rfl, rfl⟩, (fun e => by cases e), (fun e => by cases e), (fun e => by cases e), fun e => by cases e⟩
theorem notNil (a : Addr) (n c : Nat) (W : World) : (binOp BinOp.eql 55 (.slice (some a) n c) (.slice none 0 0)).run Tryz.prog W = .ok (.bool false) W := by
 kernel_rfl
attribute [local go_sem] notNil
theorem clone_any (w : World) (b off n cp : Nat) (rs : List Int) (hn : rs.length = n) (h1 : 1 ≤ n) (hv : Lies w 1 (.slice (some ⟨b, off, none⟩) n cp) (wordsV rs)) (hs : n ≤ 8) :
  Calls Tryz.prog 103 #[.slice (some ⟨b, off, none⟩) n cp] w fun e w' => ∃ a c, e = .returned (.slice a n c) ∧ Hid (Below w.heap.size w w' ∧ w'.ownsRow 0 54 1 (.slice a n c) n (wordsV rs).flatten ∧ ∀ k, (Value.slice a n c).ownBlock = some k → w.heap.size ≤ k) := by
 obtain ⟨i1, hi1, hy0, hy1, hy2⟩ := info_parts wI0
 have hlen : (wordsV rs).length = n := by simp [wordsV, hn]
 have hb1 := (Below.refl w.heap.size w).alloc (Nat.le_refl _) (.cells #[] 54)
 have HV := hide (hv.below hb1)
 have HO : Hid ((w.alloc (.cells #[] 54)).ownsRow 0 54 1 (.slice (some ⟨w.heap.size, 0, none⟩) 0 0) 0 []) := ⟨rfl, .inr ⟨w.heap.size, 0, #[], rfl, Nat.zero_le _, heap_new w _, Nat.le_refl _, by unfold maxLen; omega, rfl, rfl⟩⟩
 have HB := hide hb1
 clear hv hb1
 go_enter Tryz.func103, Tryz.ntmps103
 go_wp2_with (at_builtin; (refine Go.Trawl.wpList_append_lies _ rfl _ _ 55 rfl 54 i1 _ 1 4 uWs hi1 hy0 hy1 hy2 rfl (by decide) (.slice (some ⟨w.heap.size, 0, none⟩) 0 0) 0 _ rfl (.slice (some ⟨b, off, none⟩) n cp) (wordsV rs) rfl (words_ok _) HO.out HV.out (by rw [hlen]; unfold maxLen; omega) (by rw [hlen]; omega) ?_; intro v2 W2 g2; rw [hlen] at g2; simp only [Nat.zero_add, List.nil_append] at g2; obtain ⟨a2, c2, rfl⟩ := own_slice g2.own; have HG2 := hide g2; clear g2))
 go_ret
 refine ⟨a2, c2, rfl, below_of_grown HB.out (Nat.le_refl _) HG2.out.grown, HG2.out.own, fun k hk => ?_⟩
 rcases HG2.out.loc with e | ⟨i, e, hi⟩
 ·rw [hk] at e
  have : k = w.heap.size := Option.some.inj e
  omega
 ·rw [hk] at e
  cases e
  rw [alloc_size] at hi
  omega
theorem sNew_yes (w : World) (b d c t : Int) (rs : List Int) (vr : Value) (h : confOk b d c t rs) (hv : Lies w 1 vr (wordsV rs)) :
  Calls Tryz.prog 73 #[confV b d c t vr] w fun e w' => ∃ sb, e = .returned (.tuple #[.pointer (some ⟨sb, 0, none⟩), .int .i64 0]) ∧ Hid (∃ V, QAt w' sb (freshQ b d c t rs) V [] ∧ Below w.heap.size w w' ∧ ∀ k, V.owns [] sb k → w.heap.size ≤ k) := by
 have h1 := h.2.2.2.2.1
 have h2 := h.2.2.2.2.2
 obtain ⟨x, rs', hx⟩ : ∃ x rs', rs = x :: rs' := by
  cases rs with
  | nil => simp at h1
  | cons x rs => exact ⟨x, rs, rfl⟩
 obtain ⟨ba, off, n, cp, hvr, _⟩ := word_one (by rw [← hx]; exact hv)
 have hn : rs.length = n + 1 := by
  obtain ⟨_, _, e, _⟩ := hv
  rw [hvr] at e
  injection e with _ e2 _
  simp [wordsV] at e2
  omega
 subst hvr
 clear hx
 rw [← hn] at hv ⊢
 have hb1 := (Below.refl w.heap.size w).alloc (Nat.le_refl _) (.cells #[.int .i64 b, .int .i64 d, .int .i64 c, .int .i64 t, .slice (some ⟨ba, off, none⟩) rs.length cp] 57)
 have HB := hide hb1
 have HV := hide (hv.below hb1)
 have HX := hide (heap_new w (.cells #[.int .i64 b, .int .i64 d, .int .i64 c, .int .i64 t, .slice (some ⟨ba, off, none⟩) rs.length cp] 57))
 have HN := hide h
 have HL := hide hn
 clear h hb1 hv hn
 unfold confV
 go_enter Tryz.func73, Tryz.ntmps73
 go_wp2_with fail
 refine (isConfig_yes b d c t rs (some ⟨ba, off, none⟩) cp _ HN.out).mono ?_
 rintro e w2 ⟨rfl, H2⟩
 have HB2 := hide (HB.out.trans (H2.out.mono HB.out.size))
 have HV2 := hide (HV.out.below H2.out)
 have HX2 := hide ((H2.out.block _ (heap_lt HX.out)).trans HX.out)
 clear H2 HB HV HX
 have hc2 := box_cells HX2.out
 go_wp2_with fail
 refine (clone_any w2 ba off rs.length cp rs rfl h1 HV2.out h2).mono ?_
 rintro e w3 ⟨a3, c3, rfl, H3⟩
 have HB3 := hide (HB2.out.trans (H3.out.1.mono HB2.out.size))
 have HX3 := hide ((H3.out.1.block _ (heap_lt HX2.out)).trans HX2.out)
 have hz2 : w.heap.size < w2.heap.size := heap_lt HX2.out
 have hz3 : w.heap.size < w3.heap.size := heap_lt HX3.out
 clear hc2
 have hc3 := box_cells HX3.out
 have hf3 := frozen_of_block HX3.out
 go_wp2_with fail
 clear hc3 hf3
 obtain ⟨W4, hW4⟩ : ∃ x : World, x = w3.setCell ⟨w.heap.size, 4, none⟩ (.slice a3 rs.length c3) := ⟨_, rfl⟩
 have hz4 : W4.heap.size = w3.heap.size := by rw [hW4]; simp [World.setCell]
 have hG4 : w3.grownBy W4 (some w.heap.size) := by rw [hW4]; exact grownBy_setCell w3 w.heap.size 4 _
 have ho4 := own_grown H3.out.2.1 hG4 (fun e => by have := H3.out.2.2 _ e; omega)
 rw [← hW4]
 refine bodyPost_ret (results_tmp2 rfl _ _ _) rfl ?_
 have hl4 : ∀ k, (Value.slice a3 rs.length c3).ownBlock = some k → k < w3.heap.size := fun k hk => by have := (H3.out.2.1.lt k hk).2; omega
 have hb5 := (Below.refl W4.heap.size W4).alloc (Nat.le_refl _) (.cells (qCells (freshQ b d c t rs) ⟨.slice a3 rs.length c3, .slice none 0 0, .slice none 0 0⟩ W4.heap.size []) 150)
 have how : ∀ k, QV.owns ⟨.slice a3 rs.length c3, .slice none 0 0, .slice none 0 0⟩ [] W4.heap.size k → k = W4.heap.size ∨ (Value.slice a3 rs.length c3).ownBlock = some k := by
  rintro k ((e | e | ⟨x, hx, _⟩) | ⟨v, hv, e⟩)
  ·exact .inl e
  ·cases e
  ·cases hx
  ·rcases mem_reads.1 hv with rfl | rfl | ⟨x, hx, _⟩
   ·exact .inr e
   ·cases e
   ·cases hx
 refine ⟨W4.heap.size, by rw [hz4]; rfl, ⟨.slice a3 rs.length c3, .slice none 0 0, .slice none 0 0⟩, ⟨heap_new W4 _, rfl, (own_lies ho4 (fun x hx => (words_ok rs x hx).1) (by simp [wordsV])).below hb5, liesNil _ _, World.ownsRow_nil _ _ _ _, trivial, by simp, fun v hv k e hw => ?_, fun k e => ?_⟩, ?_, fun k e => ?_⟩
 ·rcases hw with e2 | e2 | ⟨x, hx, _⟩
  ·rcases mem_reads.1 hv with rfl | rfl | ⟨x, hx, _⟩
   ·have := hl4 k e; omega
   ·cases e
   ·cases hx
  ·cases e2
  ·cases hx
 ·rw [alloc_size]
  rcases how k e with e | e
  ·omega
  ·have := hl4 k e; omega
 ·exact (below_of_grown HB3.out (Nat.le_refl _) hG4).trans (hb5.mono (by omega))
 ·rcases how k e with e | e
  ·omega
  ·have := H3.out.2.2 k e; omega
theorem tNew_yes (w : World) (b d c t : Int) (rs : List Int) (vr : Value) (h : confOk b d c t rs) (hv : Lies w 1 vr (wordsV rs)) :
  Calls Tryz.prog 32 #[confV b d c t vr] w fun e w' => ∃ xb, e = .returned (.tuple #[.pointer (some ⟨xb, 0, none⟩), .int .i64 0]) ∧ Hid (∃ sb vr', PAt w' xb sb vr' (newSt b d c t rs) ∧ Below w.heap.size w w' ∧ ∀ k, pOwns xb sb vr' k → w.heap.size ≤ k) := by
 have hv0 := hv
 obtain ⟨a, cp, rfl, _⟩ := hv0
 have hb1 := (Below.refl w.heap.size w).alloc (Nat.le_refl _) (.cells #[.int .i64 b, .int .i64 d, .int .i64 c, .int .i64 t, .slice a (wordsV rs).length cp] 57)
 have HB := hide hb1
 have HV := hide (hv.below hb1)
 have HN := hide h
 clear h hb1 hv
 unfold confV
 go_enter Tryz.func32, Tryz.ntmps32
 go_wp2_with fail
 refine (sNew_yes _ b d c t rs _ HN.out HV.out).mono ?_
 rintro e w2 ⟨sb, rfl, H2⟩
 obtain ⟨V, hs, hb, hk⟩ := H2.out
 have HB2 := hide (HB.out.trans (hb.mono HB.out.size))
 have HS2 := hide hs
 have HL2 : Hid (∀ k, V.owns [] sb k → w.heap.size ≤ k) := fun k h => Nat.le_trans HB.out.size (hk k h)
 clear H2 hs hb hk
 go_wp2_with fail
 refine bodyPost_ret (results_tmp2 rfl _ _ _) rfl ?_
 have hb5 := (Below.refl w2.heap.size w2).alloc (Nat.le_refl _) (.cells #[.int .i32 0, .int .u32 0, .pointer (some ⟨sb, 0, none⟩)] 96)
 refine ⟨w2.heap.size, rfl, sb, ⟨V, []⟩, ⟨⟨.int .u32 0, heap_new w2 _⟩, ⟨_, HS2.out.below hb5, freshQ_ok HN.out, freshQ_sim _ _ _ _ _⟩, fun hk => by have := HS2.out.lt _ hk; omega⟩, HB2.out.trans (hb5.mono HB2.out.size), ?_⟩
 have := HB2.out.size
 rintro k (rfl | hk)
 ·exact this
 ·exact HL2.out k hk
end Go.Proofs.YtafoepfhepdcoaaGreat
namespace Go.Proofs.YtafoepfhepdcoaaGreat
open Go.RowKit Go.Trawl
def labL (l : List UInt8) : List UInt8 := l.flatMap fun c => [1, c]
def nameL (s : ByteArray) : List UInt8 := labL s.data.toList ++ [0]
theorem labL_snoc (l : List UInt8) (c : UInt8) : labL (l ++ [c]) = labL l ++ [1, c] := by
 unfold labL
 rw [List.flatMap_append]
 simp
theorem labL_length (l : List UInt8) : (labL l).length = 2 * l.length := by
 unfold labL
 induction l with
 | nil => rfl
 | cons a l ih => rw [List.flatMap_cons, List.length_append, ih]; simp; omega
theorem take_get {s : ByteArray} {k : Nat} (h : k < s.size) : s.data.toList.take (k + 1) = s.data.toList.take k ++ [s.data.toList[k]'(by simpa using h)] := by
 rw [List.take_add_one, List.getElem?_eq_getElem (by simpa using h)]
 rfl
theorem at8_get {s : ByteArray} {k : Nat} (h : k < s.size) : (at8 s k : Int) = ((s.data.toList[k]'(by simpa using h)).toNat : Int) := by
 rw [at8_lst, List.getD_eq_getElem?_getD, List.getElem?_eq_getElem (by simpa using h)]
 rfl
theorem kName_any (w : World) (s : ByteArray) (hs : s.size ≤ 1000) :
  Calls Tryz.prog 26 #[.string s] w fun e w' => e = .returned (.string (str (nameL s))) ∧ Hid (Below w.heap.size w w') := by
 obtain ⟨i0, hi, hz0, hz1, hz2⟩ := info_parts u8_info
 go_enter Tryz.func26, Tryz.ntmps26
 go_wp2_with fail
 go_loopw [3, 4] (fun v i wr => ∃ k : Nat, i = .int .i64 k ∧ k ≤ s.size ∧ Hid (wr.ownsRow 0 5 1 v (2 * k) (bytesV (labL (s.data.toList.take k))) ∧ Below w.heap.size w wr ∧ ∀ g, v.ownBlock = some g → w.heap.size ≤ g)) (fun _ i _ => s.size - (intOf i).toNat)
 case atStart => exact ⟨0, rfl, Nat.zero_le _, World.ownsRow_nil _ _ _ _, Below.refl _ _, fun g hg => by cases hg⟩
 case round =>
  obtain ⟨k, rfl, hk, H⟩ := hrel
  by_cases hlt : k < s.size
  ·have hidx := idx s k hlt
   have h8 := at8_lt s k
   go_wp2_with (at_builtin; refine wpList_append_grew _ rfl _ _ 32 rfl 5 i0 (.int .u8 0) 1 1 und_bytes hi hz0 hz1 hz2 rfl (by decide) u3 (2 * k) _ rfl ⟨wr.heap.size, 0, none⟩ 2 2 [.int .u8 1, .int .u8 (at8 s k)] rfl rfl one2 (H.out.1.alloc _) (cells_new _ _ _) (by unfold maxLen; omega) (by omega) ?_; intro v' w' hg)
   have hb1 := (Below.refl wr.heap.size wr).alloc (Nat.le_refl _) (.cells #[.int .u8 1, .int .u8 (at8 s k)] 5)
   have hgb := hg.below (B := w.heap.size) (by rw [alloc_size]; have := H.out.2.1.size; omega) H.out.2.2
   refine ⟨⟨k + 1, by go_num, by omega, ?_, (H.out.2.1.trans (hb1.mono H.out.2.1.size)).trans hgb.1, hgb.2⟩, by simp [intOf]; omega⟩
   rw [take_get hlt, labL_snoc, bytesV_append]
   have e : bytesV [1, s.data.toList[k]'(by simpa using hlt)] = [.int .u8 1, .int .u8 (at8 s k)] := by rw [at8_get hlt]; rfl
   rw [e]
   exact hg.own
  ·have hk2 : k = s.size := by omega
   subst hk2
   go_wp2_with (at_builtin; refine wpList_append_grew _ rfl _ _ 32 rfl 5 i0 (.int .u8 0) 1 1 und_bytes hi hz0 hz1 hz2 rfl (by decide) u3 (2 * s.size) _ rfl ⟨wr.heap.size, 0, none⟩ 1 1 [.int .u8 0] rfl rfl one_u8 (H.out.1.alloc _) (cells_new _ _ _) (by unfold maxLen; omega) (by omega) ?_; intro v' w' hg; obtain ⟨a', c', rfl⟩ := own_slice hg.own; have hln : 2 * s.size + 1 = (nameL s).length := (by unfold nameL; rw [List.length_append, labL_length]; simp); have hown : w'.ownsRow 0 5 1 (.slice a' (nameL s).length c') (nameL s).length (bytesV (nameL s)) := (by rw [← hln]; unfold nameL; rw [bytesV_append]; have e : s.data.toList.take s.size = s.data.toList := List.take_of_length_le (by simp); rw [e] at hg; exact hg.own); have hconv := conv_own w' 0 a' c' (nameL s) hown; rw [hln])
   go_ret
   have hb1 := (Below.refl wr.heap.size wr).alloc (Nat.le_refl _) (.cells #[.int .u8 0] 5)
   have hgb := hg.below (B := w.heap.size) (by rw [alloc_size]; have := H.out.2.1.size; omega) H.out.2.2
   exact ⟨rfl, (H.out.2.1.trans (hb1.mono H.out.2.1.size)).trans hgb.1⟩
end Go.Proofs.YtafoepfhepdcoaaGreat
