import Derived.WalkKit
import Derived.WalkSpells
import Derived.WalkLawsBesides
import Derived.Lib.AppendStr
import Derived.Test.YtafoepfhepdcoaaGreatM1
/- Rows that the call itself has made, and that grow: what is written, and where the row lies then. -/
namespace Go.Trawl
open Go.RowKit

theorem hide {p : Prop} (h : p) : Hid p := h
theorem unhide {p : Prop} (h : Hid p) : p := h
/-- Bytes as cells. -/
def bytesV (l : List UInt8) : List Value := l.map fun b => .int .u8 (b.toNat : Int)
theorem bytesV_append (a b : List UInt8) : bytesV (a ++ b) = bytesV a ++ bytesV b := List.map_append
theorem bytesV_length (a : List UInt8) : (bytesV a).length = a.length := List.length_map _
theorem strCells_bytesV (s : ByteArray) : Lib.strCells s = bytesV s.data.toList := rfl

theorem ofNat_toNat {n : Nat} (h : n < 256) : (UInt8.ofNat n).toNat = n := by
  simp [Nat.mod_eq_of_lt h]
theorem two_cells (x : Int) : bytesV (two x) = [.int .u8 (x / 256 % 256), .int .u8 (x % 256)] := by
  have h1 : (x / 256 % 256).toNat < 256 := by omega
  have h2 : (x % 256).toNat < 256 := by omega
  simp only [bytesV, two, List.map_cons, List.map_nil, ofNat_toNat h1, ofNat_toNat h2]
  congr 2
  · omega
  · congr 2; omega
theorem two_cells' {x : Int} (h0 : 0 ≤ x) (h1 : x ≤ 65535) : bytesV (two x) = [.int .u8 (x / 256), .int .u8 (x % 256)] := by
  rw [two_cells x]
  have : x / 256 % 256 = x / 256 := by omega
  rw [this]

/-- The row lies where it lay, or in a new block. -/
def Loc (w : World) (v v' : Value) : Prop := v'.ownBlock = v.ownBlock ∨ ∃ k, v'.ownBlock = some k ∧ w.heap.size ≤ k

structure Grew (e : TypeId) (sz : Nat) (w w' : World) (v v' : Value) (n' : Nat) (xs' : List Value) : Prop where
  own : w'.ownsRow 0 e sz v' n' xs'
  grown : w.grownBy w' v.ownBlock
  loc : Loc w v v'

theorem grownBy_refl (w : World) (r : Option Nat) : w.grownBy w r := ⟨rfl, rfl, rfl, Nat.le_refl _, fun _ _ _ => rfl⟩
theorem grownBy_drew (w : World) (r : Option Nat) : w.grownBy w.drew r := ⟨rfl, rfl, rfl, Nat.le_refl _, fun _ _ _ => rfl⟩
theorem grownBy_drewN (w : World) (n : Nat) (r : Option Nat) : w.grownBy (w.drewN n) r := ⟨rfl, rfl, rfl, Nat.le_refl _, fun _ _ _ => rfl⟩
theorem grownBy_trans {a b c : World} {r : Option Nat} (h : a.grownBy b r) (k : b.grownBy c r) : a.grownBy c r :=
  ⟨k.os.trans h.os, k.tape.trans h.tape, k.output.trans h.output, Nat.le_trans h.size k.size, fun i hi hr => (k.block i (Nat.lt_of_lt_of_le hi h.size) hr).trans (h.block i hi hr)⟩
/-- what is written in new blocks counts for nothing -/
theorem grownBy_trans' {a b c : World} {r r' : Option Nat} (h : a.grownBy b r) (k : b.grownBy c r') (hr : r' = r ∨ ∃ j, r' = some j ∧ a.heap.size ≤ j) : a.grownBy c r :=
  ⟨k.os.trans h.os, k.tape.trans h.tape, k.output.trans h.output, Nat.le_trans h.size k.size, fun i hi hne => (k.block i (Nat.lt_of_lt_of_le hi h.size) (by
    rcases hr with rfl | ⟨j, rfl, hj⟩
    · exact hne
    · intro e; have := Option.some.inj e; omega)).trans (h.block i hi hne)⟩
theorem grownBy_none {a b : World} {r : Option Nat} (h : a.grownBy b none) : a.grownBy b r :=
  ⟨h.os, h.tape, h.output, h.size, fun i hi _ => h.block i hi (by simp)⟩
theorem grownBy_below {a b : World} (h : Below a.heap.size a b) (r : Option Nat) : a.grownBy b r :=
  ⟨h.os, h.tape, h.output, h.size, fun i hi _ => h.block i hi⟩
theorem below_grownBy {a b : World} (h : a.grownBy b none) : Below a.heap.size a b :=
  ⟨h.os, h.tape, h.output, h.size, fun i hi => h.block i hi (by simp)⟩

theorem Grew.trans {e : TypeId} {sz : Nat} {w w1 w2 : World} {v v1 v2 : Value} {n1 n2 : Nat} {x1 x2 : List Value} (h : Grew e sz w w1 v v1 n1 x1) (k : Grew e sz w1 w2 v1 v2 n2 x2) : Grew e sz w w2 v v2 n2 x2 := by
  refine ⟨k.own, grownBy_trans' h.grown k.grown h.loc, ?_⟩
  rcases k.loc with e1 | ⟨j, e1, hj⟩
  · rcases h.loc with e2 | ⟨i, e2, hi⟩
    · exact .inl (e1.trans e2)
    · exact .inr ⟨i, e1.trans e2, hi⟩
  · exact .inr ⟨j, e1, Nat.le_trans h.grown.size hj⟩

theorem Grew.pre {e : TypeId} {sz : Nat} {w0 w w' : World} {v v' : Value} {n' : Nat} {x' : List Value} (hb : w0.grownBy w v.ownBlock) (h : Grew e sz w w' v v' n' x') : Grew e sz w0 w' v v' n' x' := by
  refine ⟨h.own, grownBy_trans hb h.grown, ?_⟩
  rcases h.loc with e1 | ⟨j, e1, hj⟩
  · exact .inl e1
  · exact .inr ⟨j, e1, Nat.le_trans hb.size hj⟩

theorem Grew.post {e : TypeId} {sz : Nat} {w w1 w2 : World} {v v' : Value} {n' : Nat} {x' : List Value} (h : Grew e sz w w1 v v' n' x') (hb : w1.grownBy w2 none) : Grew e sz w w2 v v' n' x' :=
  ⟨h.own.kept hb (by cases h1 : v'.ownBlock <;> simp), grownBy_trans h.grown (grownBy_none hb), h.loc⟩

/-- A block that is not the row's stays as it was, and is not the row's later. -/
theorem Grew.keeps {e : TypeId} {sz : Nat} {w w' : World} {v v' : Value} {n : Nat} {x : List Value} (h : Grew e sz w w' v v' n x) {b : Nat} (hb : b < w.heap.size) (hv : v.ownBlock ≠ some b) : w'.heap[b]? = w.heap[b]? ∧ v'.ownBlock ≠ some b ∧ b < w'.heap.size := by
  refine ⟨h.grown.block b hb (Ne.symm hv), ?_, Nat.lt_of_lt_of_le hb h.grown.size⟩
  rcases h.loc with e1 | ⟨j, e1, hj⟩
  · rw [e1]; exact hv
  · rw [e1]; intro e2; have := Option.some.inj e2; omega
theorem cell_of_heap {w w' : World} {b : Nat} (h : w'.heap[b]? = w.heap[b]?) {o : Nat} {v : Value} (hc : w.cell? ⟨b, o, none⟩ = some v) : w'.cell? ⟨b, o, none⟩ = some v := by
  rw [World.cell?_of_block (w := w) (a := ⟨b, o, none⟩) h]; exact hc
theorem Grew.below {e : TypeId} {sz : Nat} {w w' : World} {v v' : Value} {n : Nat} {x : List Value} {B : Nat} (h : Grew e sz w w' v v' n x) (hB : B ≤ w.heap.size) (hv : ∀ k, v.ownBlock = some k → B ≤ k) : Below B w w' ∧ (∀ k, v'.ownBlock = some k → B ≤ k) := by
  refine ⟨⟨h.grown.os, h.grown.tape, h.grown.output, h.grown.size, fun k hk => h.grown.block k (by omega) fun e1 => ?_⟩, fun k hk => ?_⟩
  · have := hv k e1.symm; omega
  · rcases h.loc with e1 | ⟨j, e1, hj⟩
    · exact hv k (by rw [← e1]; exact hk)
    · rw [e1] at hk; have := Option.some.inj hk; omega
theorem own_base {w : World} {e : TypeId} {sz : Nat} {v : Value} {n : Nat} {x : List Value} {B : Nat} (h : w.ownsRow 0 e sz v n x) (hv : ∀ k, v.ownBlock = some k → B ≤ k) : w.ownsRow B e sz v n x := by
  refine ⟨h.1, ?_⟩
  rcases h.2 with h2 | ⟨g, cap, cur, rfl, _, r⟩
  · exact .inl h2
  · exact .inr ⟨g, cap, cur, rfl, hv g rfl, r⟩
theorem box_cells {w : World} {b : Nat} {cs : Array Value} {t : TypeId} (h : w.heap[b]? = some (.cells cs t)) : ∀ o, w.cell? ⟨b, o, none⟩ = cs[o]? := by
  intro o
  simp [World.cell?, h]
theorem heap_new (w : World) (o : Obj) : (w.alloc o).heap[w.heap.size]? = some o := by
  show (w.heap.push o)[w.heap.size]? = _
  simp
theorem alloc_drewN (A : World) (o : Obj) (n : Nat) : (A.drewN n).alloc o = (A.alloc o).drewN n := rfl
theorem alloc_size (w : World) (o : Obj) : (w.alloc o).heap.size = w.heap.size + 1 := Array.size_push _
theorem own_ne {w : World} {base : Nat} {e : TypeId} {sz : Nat} {v : Value} {n : Nat} {x : List Value} (h : w.ownsRow base e sz v n x) {b : Nat} (hb : w.heap.size ≤ b) : v.ownBlock ≠ some b := by
  intro e1
  have := (h.lt b e1).2
  omega

theorem Grew.refl {e : TypeId} {sz : Nat} {w : World} {v : Value} {n : Nat} {x : List Value} (h : w.ownsRow 0 e sz v n x) : Grew e sz w w v v n x := ⟨h, grownBy_refl _ _, .inl rfl⟩

section
variable {P : Program} (w : World)

/-- 'append' of other elements. -/
theorem append_grew (t ty e : TypeId) (i : TypeInfo) (z : Value) (size bytes : Nat) (ht : P.underlying t = some (.slice e)) (hi : P.info? e = some i) (hz : i.zero = some z)
    (hsize : i.size = size) (hby : i.bytes = bytes) (hzs : z.cells.size = size) (hsz : 0 < size)
    (v : Value) (n : Nat) (xs : List Value) (hown : w.ownsRow 0 e size v n xs)
    (a : Addr) (m c : Nat) (news : List Value) (hl : news.length = m * size) (hnews : ∀ j u, news[j]? = some u → w.cell? (a.add j) = some u) (h1 : ∀ u ∈ news, u.oneCell' = true)
    (h63 : n + m ≤ maxLen) (hbytes : (n + m) * bytes ≤ 140737488355328) :
    ∃ v' w', (Builtin.append_ #[t, t] ty #[v, .slice (some a) m c]).run P w = .ok v' w' ∧ Grew e size w w' v v' (n + m) (xs ++ news) := by
  obtain ⟨v', w', hr, ho, hg, hnil⟩ := run_append_own (P := P) w 0 t ty e i z size bytes ht hi hz hsize hby hzs hsz v n xs hown a m c news hl hnews h1 h63 hbytes (Nat.zero_le _)
  refine ⟨v', w', hr, ho, hg, ?_⟩
  rcases hown.2 with ⟨rfl, rfl⟩ | ⟨g, cap, cur, rfl, _, hgc, hnc, hcm, hcs, htake⟩
  · by_cases hm : m = 0
    · have := hnil.2 ⟨rfl, hm⟩
      subst this
      exact .inl rfl
    · have h := run_append_nil (P := P) w t ty e i z ht hi hz a m c news (by rw [hsize]; exact hl) hnews (by omega) (by unfold maxLen at h63; omega) (by rw [hby]; rw [Nat.zero_add] at hbytes; omega)
      rw [h] at hr
      injection hr with h2 h3
      exact .inr ⟨w.heap.size, by rw [← h2]; rfl, Nat.le_refl _⟩
  · by_cases hroom : n + m ≤ cap
    · obtain ⟨w2, h, _⟩ := run_append_fits (P := P) w 0 t ty e i size ht hi hsize g n cap xs hown a m c news hl hnews h1 hroom
      rw [h] at hr
      injection hr with h2 h3
      exact .inl (by rw [← h2]; rfl)
    · have hxl : xs.length = n * size := hown.1
      obtain ⟨v2, w2, h, ho2, _⟩ := run_append_arg_grows (P := P) w t ty e i z size bytes ht hi hz hsize hby hzs hsz ⟨g, 0, none⟩ n cap xs hxl (fun j u hj => by
        have := hown.cells (g := g) rfl j u hj
        exact this) a m c news hl hnews (by omega) h63 hbytes
      rw [h] at hr
      injection hr with h2 h3
      subst h2
      rcases ho2.2 with ⟨_, hn0⟩ | ⟨g2, cap2, cur2, e2, hg2, _⟩
      · omega
      · exact .inr ⟨g2, by rw [e2]; rfl, hg2⟩

/-- A shorter value over the same row. -/
theorem own_shorter {w : World} {e : TypeId} {size g n m cap : Nat} {xs news : List Value} (h : w.ownsRow 0 e size (.slice (some ⟨g, 0, none⟩) (n + m) cap) (n + m) (xs ++ news)) (hl : xs.length = n * size) : w.ownsRow 0 e size (.slice (some ⟨g, 0, none⟩) n cap) n xs := by
  refine ⟨hl, ?_⟩
  rcases h.2 with ⟨h1, _⟩ | ⟨g2, cap2, cur, e1, _, hg, hnc, hcm, hcs, htake⟩
  · cases h1
  · injection e1 with e2 e3 e4
    injection e2 with e2
    injection e2 with e5
    subst e4 e5
    refine .inr ⟨_, _, cur, rfl, Nat.zero_le _, hg, by omega, hcm, hcs, ?_⟩
    have := congrArg (List.take (n * size)) htake
    rw [List.take_take, Nat.min_eq_left (Nat.mul_le_mul_right _ (by omega)), List.take_append_of_le_length (by omega), List.take_of_length_le (l := xs) (by omega)] at this
    exact this

/-- The same, and what was there reads on. -/
theorem append_grew2 (t ty e : TypeId) (i : TypeInfo) (z : Value) (size bytes : Nat) (ht : P.underlying t = some (.slice e)) (hi : P.info? e = some i) (hz : i.zero = some z)
    (hsize : i.size = size) (hby : i.bytes = bytes) (hzs : z.cells.size = size) (hsz : 0 < size)
    (v : Value) (n : Nat) (xs : List Value) (hown : w.ownsRow 0 e size v n xs)
    (a : Addr) (m c : Nat) (news : List Value) (hl : news.length = m * size) (hnews : ∀ j u, news[j]? = some u → w.cell? (a.add j) = some u) (h1 : ∀ u ∈ news, u.oneCell' = true)
    (h63 : n + m ≤ maxLen) (hbytes : (n + m) * bytes ≤ 140737488355328) :
    ∃ v' w', (Builtin.append_ #[t, t] ty #[v, .slice (some a) m c]).run P w = .ok v' w' ∧ Grew e size w w' v v' (n + m) (xs ++ news) ∧ w'.ownsRow 0 e size v n xs := by
  obtain ⟨v', w', hr, hg⟩ := append_grew (P := P) w t ty e i z size bytes ht hi hz hsize hby hzs hsz v n xs hown a m c news hl hnews h1 h63 hbytes
  refine ⟨v', w', hr, hg, ?_⟩
  have hxl := hown.1
  rcases hown.2 with ⟨rfl, rfl⟩ | ⟨g, cap, cur, rfl, _, hgc, hnc, hcm, hcs, htake⟩
  · have : xs = [] := List.eq_nil_of_length_eq_zero (by omega)
    subst this
    exact World.ownsRow_nil _ _ _ _
  · by_cases hroom : n + m ≤ cap
    · obtain ⟨w2, h, ho, _⟩ := run_append_fits (P := P) w 0 t ty e i size ht hi hsize g n cap xs hown a m c news hl hnews h1 hroom
      rw [h] at hr
      injection hr with h2 h3
      subst h3
      exact own_shorter ho hxl
    · obtain ⟨v2, w2, h, ho2, hgr⟩ := run_append_arg_grows (P := P) w t ty e i z size bytes ht hi hz hsize hby hzs hsz ⟨g, 0, none⟩ n cap xs hxl (fun j u hj => by
        have := hown.cells (g := g) rfl j u hj
        exact this) a m c news hl hnews (by omega) h63 hbytes
      rw [h] at hr
      injection hr with h2 h3
      subst h3
      exact hown.kept hgr (.inr (by simp [Value.ownBlock]))

/-- 'append' of a string's bytes. -/
theorem append_grew_string (t u ty e : TypeId) (i : TypeInfo) (ht : P.underlying t = some (.slice e)) (hu : P.underlying u = some .string) (hi : P.info? e = some i) (hz : i.zero = some (.int .u8 0))
    (hsize : i.size = 1) (hby : i.bytes = 1)
    (v : Value) (n : Nat) (xs : List Value) (hown : w.ownsRow 0 e 1 v n xs) (s : ByteArray) (h63 : n + s.size ≤ maxLen) (hbytes : n + s.size ≤ 140737488355328) :
    ∃ v' w', (Builtin.append_ #[t, u] ty #[v, .string s]).run P w = .ok v' w' ∧ Grew e 1 w w' v v' (n + s.size) (xs ++ Lib.strCells s) := by
  obtain ⟨v', w', hr, ho, hg, hnil⟩ := Lib.run_append_own_string (P := P) w 0 t u ty e i ht hu hi hz hsize hby v n xs hown s h63 hbytes (Nat.zero_le _)
  refine ⟨v', w', hr, ho, hg, ?_⟩
  rcases hown.2 with ⟨rfl, rfl⟩ | ⟨g, cap, cur, rfl, _, hgc, hnc, hcm, hcs, htake⟩
  · by_cases h0 : s.size = 0
    · have := hnil.2 ⟨rfl, h0⟩
      subst this
      exact .inl rfl
    · have h := run_append_nil_string (P := P) w t u ty e i (.int .u8 0) ht hu hi hz s (by omega) (by unfold maxLen at h63; omega) (by rw [hby]; omega)
      rw [h] at hr
      injection hr with h2 h3
      exact .inr ⟨w.heap.size, by rw [← h2]; rfl, Nat.le_refl _⟩
  · by_cases hroom : n + s.size ≤ cap
    · have h := Lib.run_append_room_string (P := P) w t u ty e i ht hu hi hsize g n cap cur hgc s hroom (by omega)
      rw [h] at hr
      injection hr with h2 h3
      exact .inl (by rw [← h2]; rfl)
    · have hxl : xs.length = n := by simpa using hown.1
      have h := Lib.run_append_grow_string (P := P) w t u ty e i (.int .u8 0) ht hu hi hz ⟨g, 0, none⟩ n cap xs (by rw [hsize]; omega) (fun j u hj => by
        have := hown.cells (g := g) rfl j u hj
        exact this) s (by omega) (by unfold maxLen at h63; omega) (growslice_fits (by omega) (by rw [hby]; omega))
      rw [h] at hr
      injection hr with h2 h3
      exact .inr ⟨w.heap.size, by rw [← h2]; rfl, Nat.le_refl _⟩

variable {ops : Array Oper} {rest : List Oper} {o : Oper} {a : Act} {Q : Exit → Act → World → Prop}

theorem wpList_append_grew (hgd : o.guard = none) (s x : Operand) (t : TypeId) (ho : o.op = .call { callee := .builtin .append, args := #[s, x], argTypes := #[t, t] })
    (e : TypeId) (i : TypeInfo) (z : Value) (size bytes : Nat) (ht : P.underlying t = some (.slice e)) (hi : P.info? e = some i) (hz : i.zero = some z)
    (hsize : i.size = size) (hby : i.bytes = bytes) (hzs : z.cells.size = size) (hsz : 0 < size)
    (v : Value) (n : Nat) (xs : List Value) (hs : a.eval s = v) (ad : Addr) (m c : Nat) (news : List Value) (hx : a.eval x = .slice (some ad) m c) (hl : news.length = m * size)
    (h1 : ∀ u ∈ news, u.oneCell' = true)
    (hown : w.ownsRow 0 e size v n xs) (hnews : ∀ j u, news[j]? = some u → w.cell? (ad.add j) = some u) (h63 : n + m ≤ maxLen) (hbytes : (n + m) * bytes ≤ 140737488355328)
    (h : ∀ v' w', Grew e size w w' v v' (n + m) (xs ++ news) → wpList P ops Q rest (a.put o.dst v') w') : wpList P ops Q (o :: rest) a w := by
  refine wpList_plain hgd fun K hK => ?_
  obtain ⟨v', w', hr, h2⟩ := append_grew (P := P) w t o.type e i z size bytes ht hi hz hsize hby hzs hsz v n xs hown ad m c news hl hnews h1 h63 hbytes
  unfold Oper.wp execOp
  simp only [ho, resolve, invoke, builtin, Sem.run_bind, Sem.run_pure, Result.andThen_ok, List.map_toArray, List.map_cons, List.map_nil, hs, hx, hr]
  exact hK _ _ (h v' w' h2)

theorem wpList_append_grew_string (hgd : o.guard = none) (s x : Operand) (t u : TypeId) (ho : o.op = .call { callee := .builtin .append, args := #[s, x], argTypes := #[t, u] })
    (e : TypeId) (i : TypeInfo) (ht : P.underlying t = some (.slice e)) (hu : P.underlying u = some .string) (hi : P.info? e = some i) (hz : i.zero = some (.int .u8 0))
    (hsize : i.size = 1) (hby : i.bytes = 1)
    (v : Value) (n : Nat) (xs : List Value) (hs : a.eval s = v) (str : ByteArray) (hx : a.eval x = .string str)
    (hown : w.ownsRow 0 e 1 v n xs) (h63 : n + str.size ≤ maxLen) (hbytes : n + str.size ≤ 140737488355328)
    (h : ∀ v' w', Grew e 1 w w' v v' (n + str.size) (xs ++ Lib.strCells str) → wpList P ops Q rest (a.put o.dst v') w') : wpList P ops Q (o :: rest) a w := by
  refine wpList_plain hgd fun K hK => ?_
  obtain ⟨v', w', hr, h2⟩ := append_grew_string (P := P) w t u o.type e i ht hu hi hz hsize hby v n xs hown str h63 hbytes
  unfold Oper.wp execOp
  simp only [ho, resolve, invoke, builtin, Sem.run_bind, Sem.run_pure, Result.andThen_ok, List.map_toArray, List.map_cons, List.map_nil, hs, hx, hr]
  exact hK _ _ (h v' w' h2)
end
end Go.Trawl
