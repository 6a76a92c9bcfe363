import Derived.Test.YtafoepfhepdcoaaGreatM9
import Derived.Test.YtafoepfhepdcoaaGreatM8
import Derived.Deep.AppendLies
import Derived.Deep.RegionHeld3
set_option maxRecDepth 100000
set_option maxHeartbeats 8000000
namespace Go.Trawl
inductive NB : List UInt8 → Prop
 | stop : NB [0]
 | lab (n : UInt8) (xs rest : List UInt8) (h0 : 1 ≤ n.toNat) (h1 : n.toNat ≤ 63) (hx : xs.length = n.toNat) (h : NB rest) : NB (n :: (xs ++ rest))
theorem at8_list (pre : List UInt8) (x : UInt8) (rest : List UInt8) : at8 ⟨(pre ++ x :: rest).toArray⟩ pre.length = x.toNat := by
 unfold at8
 rw [Array.getD_eq_getD_getElem?, List.getElem?_toArray, List.getElem?_append_right (Nat.le_refl _), Nat.sub_self]
 rfl
theorem NB.at {l : List UInt8} (h : NB l) : ∀ pre : List UInt8, behind ⟨(pre ++ l).toArray⟩ pre.length + 1 = (pre ++ l).length ∧ at8 ⟨(pre ++ l).toArray⟩ (behind ⟨(pre ++ l).toArray⟩ pre.length) = 0 := by
 induction h with
 | stop =>
  intro pre
  have h0 : at8 ⟨(pre ++ [0]).toArray⟩ pre.length = 0 := at8_list pre 0 []
  rw [behind_stop _ _ (by omega)]
  exact ⟨by simp, h0⟩
 | lab n xs rest h0 h1 hx h ih =>
  intro pre
  have ha : at8 ⟨(pre ++ n :: (xs ++ rest)).toArray⟩ pre.length = n.toNat := at8_list pre n (xs ++ rest)
  have hs : (⟨(pre ++ n :: (xs ++ rest)).toArray⟩ : ByteArray).size = (pre ++ n :: (xs ++ rest)).length := rfl
  rw [behind_next _ _ (by rw [hs]; simp) (by omega) (by omega), ha]
  have e : pre ++ n :: (xs ++ rest) = (pre ++ n :: xs) ++ rest := by simp
  have hl : (pre ++ n :: xs).length = pre.length + 1 + n.toNat := by simp [hx]; omega
  have := ih (pre ++ n :: xs)
  rw [← e, hl] at this
  exact this
theorem NB.pos {l : List UInt8} (h : NB l) : 0 < l.length := by cases h <;> simp
theorem NB.name {l : List UInt8} (h : NB l) (hl : l.length ≤ 255) : nameB ⟨l.toArray⟩ = true := by
 obtain ⟨h1, h2⟩ := h.at []
 simp only [List.nil_append, List.length_nil] at h1 h2
 exact decide_eq_true ⟨hl, h1, h2⟩
theorem cut_one {s : ByteArray} {k j : Nat} (hk : k < s.size) (hj : k < j) : ∃ x : UInt8, x.toNat = at8 s k ∧ cut s k j = x :: cut s (k + 1) j := by
 have h' : k < s.data.toList.length := by rw [Array.length_toList]; exact hk
 refine ⟨s.data.toList[k], ?_, ?_⟩
 ·unfold at8
  have h2 : k < s.data.size := hk
  rw [Array.getD_eq_getD_getElem?, Array.getElem?_eq_getElem h2]
  rfl
 ·unfold cut
  rw [List.drop_eq_getElem_cons h']
  obtain ⟨m, hm⟩ : ∃ m, j - k = m + 1 := ⟨j - k - 1, by omega⟩
  rw [hm, List.take_succ_cons]
  congr 2
  omega
theorem NB.labels {s : ByteArray} {rest : List UInt8} (hr : NB rest) : ∀ n k, s.size - k ≤ n → behind s k ≤ s.size → NB (cut s k (behind s k) ++ rest)
 | 0, k, hn, hb => by
  have hk := le_behind s k
  have e : behind s k = k := behind_stop s k (by omega)
  rw [e, cut_nil]
  exact hr
 | n + 1, k, hn, hb => by
  by_cases hh : k < s.size ∧ 0 < at8 s k ∧ at8 s k ≤ 63
  ·have e := behind_next s k hh.1 hh.2.1 hh.2.2
   have hl := le_behind s (k + 1 + at8 s k)
   rw [e] at hb ⊢
   obtain ⟨x, hx, hc⟩ := cut_one (s := s) (k := k) (j := k + 1 + at8 s k) hh.1 (by omega)
   rw [← cut_join (s := s) (i := k) (j := k + 1 + at8 s k) (by omega) hl, hc, List.cons_append, List.cons_append, List.append_assoc]
   exact .lab x _ _ (by omega) (by omega) (by rw [cut_length (by omega)]; omega) (NB.labels hr n _ (by omega) hb)
  ·rw [behind_stop s k hh, cut_nil]
   exact hr
theorem whole_nb {s : ByteArray} {k : Nat} {r : List UInt8 × Nat} (h : whole s k = some r) : NB r.1 := by
 by_cases hh : behind s k < s.size ∧ (at8 s (behind s k) = 0 ∨ 192 ≤ at8 s (behind s k) ∧ behind s k + 1 < s.size ∧ ptr s (behind s k) < k)
 ·obtain ⟨h1, h2 | ⟨h2, h3, h4⟩⟩ := hh
  ·rw [whole_end h1 h2] at h
   cases h
   exact NB.labels .stop _ k (Nat.le_refl _) (by omega)
  ·rw [whole_on h1 h2 h3 h4] at h
   cases hr : whole s (ptr s (behind s k)) with
   | none => rw [hr] at h; cases h
   | some q =>
    have ih := whole_nb hr
    rw [hr] at h
    cases h
    exact NB.labels ih _ k (Nat.le_refl _) (by omega)
 ·rw [whole_no hh] at h
  cases h
termination_by k
decreasing_by exact h4
theorem pName_name {s : ByteArray} {a : Nat} {r : ByteArray × Nat} (h : pName s a = some r) : nameB r.1 = true := by
 unfold pName at h
 cases hw : whole s a with
 | none => rw [hw] at h; cases h
 | some q =>
  rw [hw] at h
  simp only [Option.bind_some] at h
  split at h
  ·rename_i hl
   cases h
   exact (whole_nb hw).name hl
  ·cases h
def Always {α : Type} (p : Par α) (P : α → Prop) : Prop := ∀ a r, p a = some r → P r.1
theorem Always.bind {α β : Type} {p : Par α} {f : α → Par β} {P : α → Prop} {Q : β → Prop} (h : Always p P) (k : ∀ x, P x → Always (f x) Q) : Always (p.bind f) Q := by
 intro a r hr
 unfold Par.bind at hr
 cases hp : p a with
 | none => rw [hp] at hr; cases hr
 | some q =>
  rw [hp] at hr
  exact k q.1 (h a q hp) q.2 r hr
theorem Always.any {α : Type} (p : Par α) : Always p fun _ => True := fun _ _ _ => trivial
theorem Always.pure {α : Type} {x : α} {P : α → Prop} (h : P x) : Always (Par.pure x) P := fun a r hr => by cases hr; exact h
theorem Always.many {α : Type} {p : Par α} {P : α → Prop} (h : Always p P) : ∀ n, Always (p.many n) fun xs => (∀ x ∈ xs, P x) ∧ xs.length = n
 | 0 => Always.pure ⟨(fun x hx => by cases hx), rfl⟩
 | n + 1 => (Always.many h n).bind fun xs hxs => h.bind fun x hx => Always.pure ⟨fun y hy => by
   rcases List.mem_append.1 hy with hy | hy
   ·exact hxs.1 y hy
   ·simp at hy; subst hy; exact hx, by simp [hxs.2]⟩
def NamedQ (q : Qn) : Prop := nameB q.name = true ∧ 0 ≤ q.kind ∧ q.kind ≤ 65535 ∧ 0 ≤ q.cls ∧ q.cls ≤ 65535
def NamedR (r : Rc) : Prop := nameB r.name = true ∧ (named r.kind = true → nameB r.data = true)
theorem num2_range (s : ByteArray) : Always (num2 s) fun x => 0 ≤ x ∧ x ≤ 65535 := by
 intro a r hr
 unfold num2 at hr
 split at hr
 ·cases hr
  have := n2_lt s a
  exact ⟨by omega, by omega⟩
 ·cases hr
theorem pQ_named (s : ByteArray) : Always (pQ s) NamedQ :=
 Always.bind (P := fun n => nameB n = true) (fun _ _ h => pName_name h) fun _ hn => (num2_range s).bind fun _ ht => (num2_range s).bind fun _ hc => Always.pure ⟨hn, ht.1, ht.2, hc.1, hc.2⟩
theorem pData_named (s : ByteArray) (k : Int) (n : Nat) : Always (pData s k n) fun d => named k = true → nameB d = true := by
 intro a r hr hk
 unfold pData at hr
 rw [if_pos hk] at hr
 cases hp : pName s a with
 | none => rw [hp] at hr; cases hr
 | some q =>
  rw [hp] at hr
  simp only [Option.bind_some] at hr
  split at hr
  ·cases hr
   exact pName_name hp
  ·cases hr
theorem pR_named (s : ByteArray) : Always (pR s) NamedR :=
 Always.bind (P := fun n => nameB n = true) (fun _ _ h => pName_name h) fun _ hn => (Always.any _).bind fun t _ => (Always.any _).bind fun _ _ => (Always.any _).bind fun _ _ => (Always.any _).bind fun k _ =>
  (pData_named s t k.toNat).bind fun _ hd => Always.pure ⟨hn, hd⟩
structure NamedM (m : Msg) : Prop where
 q : ∀ q ∈ m.qs, NamedQ q
 a : ∀ r ∈ m.an, NamedR r
 u : ∀ r ∈ m.au, NamedR r
 x : ∀ r ∈ m.ex, NamedR r
theorem pM_named (s : ByteArray) : Always (pM s) NamedM :=
 (Always.any _).bind fun _ _ => (Always.any _).bind fun _ _ => (Always.any _).bind fun _ _ => (Always.any _).bind fun _ _ => (Always.any _).bind fun _ _ => (Always.any _).bind fun _ _ =>
  ((pQ_named s).many _).bind fun _ hq => ((pR_named s).many _).bind fun _ ha => ((pR_named s).many _).bind fun _ hu => ((pR_named s).many _).bind fun _ hx => Always.pure ⟨hq.1, ha.1, hu.1, hx.1⟩
theorem unpack_named {s : ByteArray} {m : Msg} (h : unpack s = some m) : NamedM m := by
 unfold unpack at h
 split at h
 ·cases hp : pM s 0 with
  | none => rw [hp] at h; cases h
  | some r =>
   rw [hp] at h
   simp only [Option.bind_some] at h
   split at h
   ·cases h
    exact pM_named s 0 r hp
   ·cases h
 ·cases h
end Go.Trawl
namespace Go.Proofs.YtafoepfhepdcoaaGreat
open Go.RowKit Go.Trawl
def ofB (zone name : ByteArray) (kind : Int) (r : Rc) : Bool := liesB r.name zone && sameB r.name name && decide (r.kind = kind) && decide (r.cls = 1)
structure OL (w wr : World) (xs : List Rc) (v : Value) : Prop where
 below : Below w.heap.size w wr
 own : wr.ownsRow 0 69 5 v xs.length ((xs.map Rc.cells).flatten)
 new : ∀ g, v.ownBlock = some g → w.heap.size ≤ g
theorem OL.drewN {w wr : World} {xs : List Rc} {v : Value} (h : OL w wr xs v) (n : Nat) : OL w (wr.drewN n) xs v :=
 ⟨below_drewN h.below n, h.own.kept (grownBy_drewN _ n none) (by cases v.ownBlock <;> simp), h.new⟩
theorem OL.next {w w2 w5 : World} {xs : List Rc} {r : Rc} {v v5 : Value} {o : Obj} (h : OL w w2 xs v) (g : Grew 69 5 (w2.alloc o) w5 v v5 (xs.length + 1) ((xs.map Rc.cells).flatten ++ r.cells)) : OL w w5 (xs ++ [r]) v5 := by
 have hb : Below w2.heap.size w2 (w2.alloc o) := (Below.refl _ _).alloc (Nat.le_refl _) _
 have hg := g.below (B := w.heap.size) (Nat.le_trans h.below.size hb.size) h.new
 refine ⟨(h.below.trans (hb.mono h.below.size)).trans hg.1, ?_, hg.2⟩
 have e1 : (xs ++ [r]).length = xs.length + 1 := by simp
 have e2 : ((xs ++ [r]).map Rc.cells).flatten = (xs.map Rc.cells).flatten ++ r.cells := by simp
 rw [e1, e2]
 exact g.own
def adr (d : ByteArray) : Int := (at8 d 0 : Int) * 16777216 + (at8 d 1 : Int) * 65536 + (at8 d 2 : Int) * 256 + (at8 d 3 : Int)
def addrs (l : List Rc) : List Int := (l.filter fun r => decide (r.data.size = 4)).map fun r => adr r.data
theorem wI0 : (Tryz.prog.info? 54).map (fun i => (i.zero, i.size, i.bytes)) = some (some (.int .u32 0), 1, 4) := by kernel_rfl
theorem uWs : Tryz.prog.underlying 55 = some (.slice 54) := by kernel_rfl
def wV (xs : List Int) : List Value := xs.map fun x => .int .u32 x
structure AL (w wr : World) (xs : List Int) (v : Value) : Prop where
 below : Below w.heap.size w wr
 own : wr.ownsRow 0 54 1 v xs.length (wV xs)
 new : ∀ g, v.ownBlock = some g → w.heap.size ≤ g
structure Ch where
 name : ByteArray
 kind : Int
 zone : ByteArray
 servers : List Int
 sent : Nat
 names : List ByteArray
structure RSt where
 b : Int
 d : Int
 c : Int
 t : Int
 roots : List Int
 id : Int
 busy : Bool
 asked : Msg
 kept : List Rc
 seen : List ByteArray
 l : List Ch
 spent : Nat
 to : Int
 ans : ByteArray
structure ChV where
 ch : Ch
 vs : Value
 vn : Value
def ChV.cells (c : ChV) : List Value := [.string c.ch.name, .int .u16 c.ch.kind, .string c.ch.zone, c.vs, .int .i64 c.ch.sent, c.vn]
structure RV where
 vR : Value
 vq : Value
 va : Value
 vu : Value
 vx : Value
 vK : Value
 vS : Value
 vL : Value
def refCells (st : RSt) (V : RV) : Array Value :=
 #[.int .i64 st.b, .int .i64 st.d, .int .i64 st.c, .int .i64 st.t, V.vR, .int .u16 st.id, .bool st.busy,
  .int .u16 st.asked.id, .bool st.asked.resp, .int .i64 st.asked.op, .bool st.asked.own, .bool st.asked.cut, .bool st.asked.wanted, .bool st.asked.able, .int .i64 st.asked.code, V.vq, V.va, V.vu, V.vx,
  V.vK, V.vS, V.vL, .int .i64 st.spent, .int .u32 st.to, .string st.ans]
def RV.reads (V : RV) (cs : List ChV) : List Value := V.vR :: V.vq :: V.va :: V.vu :: V.vx :: cs.flatMap fun c => [c.vs, c.vn]
def RV.writes (V : RV) (rb k : Nat) : Prop := k = rb ∨ V.vK.ownBlock = some k ∨ V.vS.ownBlock = some k ∨ V.vL.ownBlock = some k
def RV.owns (V : RV) (cs : List ChV) (rb k : Nat) : Prop := V.writes rb k ∨ ∃ v ∈ V.reads cs, v.ownBlock = some k
def strV (l : List ByteArray) : List Value := l.map .string
def wordsV (l : List Int) : List (List Value) := l.map fun x => [.int .u32 x]
def textsV (l : List ByteArray) : List (List Value) := l.map fun x => [.string x]
def capOk (v : Value) : Prop := ∀ a n c, v = .slice a n c → n ≤ c
structure RefAt (w : World) (rb : Nat) (st : RSt) (V : RV) (cs : List ChV) : Prop where
 box : w.heap[rb]? = some (.cells (refCells st V) 163)
 chs : cs.map ChV.ch = st.l
 roots : Lies w 1 V.vR (wordsV st.roots)
 asked : MsgAt w st.asked V.vq V.va V.vu V.vx
 kept : w.ownsRow 0 69 5 V.vK st.kept.length ((st.kept.map Rc.cells).flatten)
 seen : w.ownsRow 0 9 1 V.vS st.seen.length (strV st.seen)
 row : w.ownsRow 0 169 6 V.vL cs.length ((cs.map ChV.cells).flatten)
 srv : ∀ c ∈ cs, Lies w 1 c.vs (wordsV c.ch.servers) ∧ Lies w 1 c.vn (textsV c.ch.names)
 free : ∀ v ∈ V.reads cs, ∀ k, v.ownBlock = some k → ¬ V.writes rb k
 lt : ∀ k, V.owns cs rb k → k < w.heap.size
 caps : ∀ c ∈ cs, capOk c.vn
structure Fr (w w' : World) (O O' : Nat → Prop) : Prop where
 os : w'.os = w.os
 tape : w'.tape = w.tape
 output : w'.output = w.output
 size : w.heap.size ≤ w'.heap.size
 block : ∀ k, k < w.heap.size → ¬ O k → w'.heap[k]? = w.heap[k]?
 new : ∀ k, O' k → O k ∨ w.heap.size ≤ k
theorem Fr.trans {w w1 w2 : World} {O O1 O2 : Nat → Prop} (h : Fr w w1 O O1) (k : Fr w1 w2 O1 O2) : Fr w w2 O O2 := by
 refine ⟨k.os.trans h.os, k.tape.trans h.tape, k.output.trans h.output, Nat.le_trans h.size k.size, fun i hi ho => ?_, fun i hi => ?_⟩
 ·rw [k.block i (Nat.lt_of_lt_of_le hi h.size) (fun h1 => by
   rcases h.new i h1 with h2 | h2
   ·exact ho h2
   ·omega)]
  exact h.block i hi ho
 ·rcases k.new i hi with h1 | h1
  ·exact h.new i h1
  ·exact .inr (Nat.le_trans h.size h1)
theorem Fr.of_below {w w' : World} (hb : Below w.heap.size w w') (O : Nat → Prop) : Fr w w' O O := ⟨hb.os, hb.tape, hb.output, hb.size, fun k hk _ => hb.block k hk, fun _ h => .inl h⟩
theorem RefAt.reads_keep {w w' : World} {rb : Nat} {st : RSt} {V : RV} {cs : List ChV} (h : RefAt w rb st V cs) (hs : w.heap.size ≤ w'.heap.size) (hk : ∀ k, k < w.heap.size → ¬ V.writes rb k → w'.heap[k]? = w.heap[k]?) :
  Lies w' 1 V.vR (wordsV st.roots) ∧ MsgAt w' st.asked V.vq V.va V.vu V.vx ∧ (∀ c ∈ cs, Lies w' 1 c.vs (wordsV c.ch.servers) ∧ Lies w' 1 c.vn (textsV c.ch.names)) := by
 have key : ∀ v ∈ V.reads cs, ∀ b, v.ownBlock = some b → b < w.heap.size → w'.heap[b]? = w.heap[b]? := fun v hv b hb hlt => hk b hlt (h.free v hv b hb)
 refine ⟨h.roots.keep hs (key _ (by simp [RV.reads])), ⟨h.asked.q.keep hs (key _ (by simp [RV.reads])), h.asked.a.keep hs (key _ (by simp [RV.reads])), h.asked.u.keep hs (key _ (by simp [RV.reads])), h.asked.x.keep hs (key _ (by simp [RV.reads]))⟩, fun c hc => ?_⟩
 have h1 : c.vs ∈ V.reads cs := by
  simp only [RV.reads, List.mem_cons, List.mem_flatMap]
  exact .inr (.inr (.inr (.inr (.inr ⟨c, hc, by simp⟩))))
 have h2 : c.vn ∈ V.reads cs := by
  simp only [RV.reads, List.mem_cons, List.mem_flatMap]
  exact .inr (.inr (.inr (.inr (.inr ⟨c, hc, by simp⟩))))
 exact ⟨(h.srv c hc).1.keep hs (key _ h1), (h.srv c hc).2.keep hs (key _ h2)⟩
theorem RefAt.keep {w w' : World} {rb : Nat} {st : RSt} {V : RV} {cs : List ChV} (h : RefAt w rb st V cs) (hb : Below w.heap.size w w') : RefAt w' rb st V cs := by
 obtain ⟨h1, h2, h3⟩ := h.reads_keep hb.size (fun k hk _ => hb.block k hk)
 exact ⟨(hb.block rb (heap_lt h.box)).trans h.box, h.chs, h1, h2, own_below h.kept hb, own_below h.seen hb, own_below h.row hb, h3, h.free, fun k hk => Nat.lt_of_lt_of_le (h.lt k hk) hb.size, h.caps⟩
theorem RefAt.set {w : World} {rb : Nat} {st st' : RSt} {V : RV} {cs : List ChV} (h : RefAt w rb st V cs) (j : Nat) (u : Value) (he : (refCells st V).setIfInBounds j u = refCells st' V)
  (e1 : st'.l = st.l) (e2 : st'.roots = st.roots) (e3 : st'.asked = st.asked) (e4 : st'.kept = st.kept) (e5 : st'.seen = st.seen) : RefAt (w.setCell ⟨rb, j, none⟩ u) rb st' V cs := by
 have hw := grownBy_setCell w rb j u
 obtain ⟨h1, h2, h3⟩ := h.reads_keep (w' := w.setCell ⟨rb, j, none⟩ u) hw.size (fun k hk hn => hw.block k hk (fun e => hn (.inl (Option.some.inj e))))
 have hz : (w.setCell ⟨rb, j, none⟩ u).heap.size = w.heap.size := by simp [World.setCell]
 have n1 : V.vK.ownBlock ≠ some rb := own_type_ne h.kept h.box (by decide)
 have n2 : V.vS.ownBlock ≠ some rb := own_type_ne h.seen h.box (by decide)
 have n3 : V.vL.ownBlock ≠ some rb := own_type_ne h.row h.box (by decide)
 exact ⟨by rw [heap_setCell_eq h.box, he], by rw [e1]; exact h.chs, by rw [e2]; exact h1, by rw [e3]; exact h2, by rw [e4]; exact h.kept.kept hw (.inr n1), by rw [e5]; exact h.seen.kept hw (.inr n2), h.row.kept hw (.inr n3), h3, h.free, fun k hk => by rw [hz]; exact h.lt k hk, h.caps⟩
theorem Fr.set {w : World} {rb : Nat} {V : RV} {cs : List ChV} (j : Nat) (u : Value) : Fr w (w.setCell ⟨rb, j, none⟩ u) (V.owns cs rb) (V.owns cs rb) := by
 have hw := grownBy_setCell w rb j u
 exact ⟨hw.os, hw.tape, hw.output, hw.size, fun k hk hn => hw.block k hk (fun e => hn (.inl (.inl (Option.some.inj e)))), fun _ h => .inl h⟩
theorem RefAt.aside {w w' : World} {rb r : Nat} {st : RSt} {V : RV} {cs : List ChV} (h : RefAt w rb st V cs) (hw : w.grownBy w' (some r)) (hr : ¬ V.owns cs rb r) : RefAt w' rb st V cs := by
 obtain ⟨h1, h2, h3⟩ : Lies w' 1 V.vR (wordsV st.roots) ∧ MsgAt w' st.asked V.vq V.va V.vu V.vx ∧ (∀ c ∈ cs, Lies w' 1 c.vs (wordsV c.ch.servers) ∧ Lies w' 1 c.vn (textsV c.ch.names)) := by
  have key : ∀ v ∈ V.reads cs, ∀ b, v.ownBlock = some b → b < w.heap.size → w'.heap[b]? = w.heap[b]? := fun v hv b hb hlt => hw.block b hlt (fun e => hr (.inr ⟨v, hv, by rw [hb, e]⟩))
  have hs := hw.size
  refine ⟨h.roots.keep hs (key _ (by simp [RV.reads])), ⟨h.asked.q.keep hs (key _ (by simp [RV.reads])), h.asked.a.keep hs (key _ (by simp [RV.reads])), h.asked.u.keep hs (key _ (by simp [RV.reads])), h.asked.x.keep hs (key _ (by simp [RV.reads]))⟩, fun c hc => ?_⟩
  have h1 : c.vs ∈ V.reads cs := by
   simp only [RV.reads, List.mem_cons, List.mem_flatMap]
   exact .inr (.inr (.inr (.inr (.inr ⟨c, hc, by simp⟩))))
  have h2 : c.vn ∈ V.reads cs := by
   simp only [RV.reads, List.mem_cons, List.mem_flatMap]
   exact .inr (.inr (.inr (.inr (.inr ⟨c, hc, by simp⟩))))
  exact ⟨(h.srv c hc).1.keep hs (key _ h1), (h.srv c hc).2.keep hs (key _ h2)⟩
 refine ⟨(hw.block rb (heap_lt h.box) (fun e => hr (.inl (.inl (Option.some.inj e).symm)))).trans h.box, h.chs, h1, h2, h.kept.kept hw (.inr fun e => hr (.inl (.inr (.inl e)))), h.seen.kept hw (.inr fun e => hr (.inl (.inr (.inr (.inl e))))), h.row.kept hw (.inr fun e => hr (.inl (.inr (.inr (.inr e))))), h3, h.free, fun k hk => Nat.lt_of_lt_of_le (h.lt k hk) hw.size, h.caps⟩
theorem Fr.write {w w1 w2 : World} {O O1 : Nat → Prop} {r : Nat} (h : Fr w w1 O O1) (hw : w1.grownBy w2 (some r)) (hr : w.heap.size ≤ r) : Fr w w2 O O1 :=
 ⟨hw.os.trans h.os, hw.tape.trans h.tape, hw.output.trans h.output, Nat.le_trans h.size hw.size, fun k hk ho => (hw.block k (Nat.lt_of_lt_of_le hk h.size) (fun e => by have := Option.some.inj e; omega)).trans (h.block k hk ho), h.new⟩
theorem RefAt.grow {w w' : World} {rb : Nat} {st : RSt} {V : RV} {cs : List ChV} (h : RefAt w rb st V cs) {v : Value} (hw : w.grownBy w' v.ownBlock) (hr : ∀ k, v.ownBlock = some k → ¬ V.owns cs rb k) : RefAt w' rb st V cs := by
 cases hv : v.ownBlock with
 | none => rw [hv] at hw; exact h.keep (below_grownBy hw)
 | some k => rw [hv] at hw; exact h.aside hw (hr k hv)
theorem Fr.grow {w w1 w2 : World} {O O1 : Nat → Prop} (h : Fr w w1 O O1) {v : Value} (hw : w1.grownBy w2 v.ownBlock) (hr : ∀ k, v.ownBlock = some k → w.heap.size ≤ k) : Fr w w2 O O1 := by
 cases hv : v.ownBlock with
 | none => rw [hv] at hw; exact h.trans (Fr.of_below (below_grownBy hw) _)
 | some k => rw [hv] at hw; exact h.write hw (hr k hv)
def withL (V : RV) (v : Value) : RV := { V with vL := v }
theorem reads_snoc (V : RV) (cs : List ChV) (c : ChV) (v : Value) : v ∈ V.reads (cs ++ [c]) ↔ v ∈ V.reads cs ∨ v = c.vs ∨ v = c.vn := by
 simp only [RV.reads, List.flatMap_append, List.flatMap_cons, List.flatMap_nil, List.mem_cons, List.mem_append, List.append_nil, List.not_mem_nil, or_false]
 constructor
 ·rintro (h | h | h | h | h | h | h | h) <;> simp [h]
 ·rintro ((h | h | h | h | h | h) | h | h) <;> simp [h]
theorem chcells_len (l : List ChV) : ((l.map ChV.cells).flatten).length = l.length * 6 := by
 induction l with
 | nil => rfl
 | cons c l ih => simp only [List.map_cons, List.flatten_cons, List.length_append, ih, ChV.cells, List.length_cons, List.length_nil]; omega
theorem RefAt.push {w w' : World} {rb : Nat} {st : RSt} {V : RV} {cs : List ChV} (h : RefAt w rb st V cs) {v' : Value} {n : Nat} {xs : List Value} (g : Grew 169 6 w w' V.vL v' n xs) (c : ChV) (hn : n = (cs ++ [c]).length) (hxs : xs = ((cs ++ [c]).map ChV.cells).flatten)
  (hs : Lies w' 1 c.vs (wordsV c.ch.servers)) (hm : Lies w' 1 c.vn (textsV c.ch.names)) (hrd : ∀ k, c.vs.ownBlock = some k ∨ c.vn.ownBlock = some k → ∃ v ∈ V.reads cs, v.ownBlock = some k) (hcap : capOk c.vn) :
  RefAt (w'.setCell ⟨rb, 21, none⟩ v') rb { st with l := st.l ++ [c.ch] } (withL V v') (cs ++ [c]) ∧ Fr w (w'.setCell ⟨rb, 21, none⟩ v') (V.owns cs rb) ((withL V v').owns (cs ++ [c]) rb) := by
 have hlt : ∀ k, c.vs.ownBlock = some k ∨ c.vn.ownBlock = some k → k < w.heap.size ∧ ¬ V.writes rb k := fun k hk => by
  obtain ⟨v, hv, e⟩ := hrd k hk
  exact ⟨h.lt k (.inr ⟨v, hv, e⟩), h.free v hv k e⟩
 have hrb : rb < w.heap.size := heap_lt h.box
 have hg := g.grown
 have n1 : V.vL.ownBlock ≠ some rb := own_type_ne h.row h.box (by decide)
 have hbox := (g.keeps hrb n1).1.trans h.box
 have hw := grownBy_setCell w' rb 21 v'
 have hz : (w'.setCell ⟨rb, 21, none⟩ v').heap.size = w'.heap.size := by simp [World.setCell]
 have hwr : ∀ k, (withL V v').writes rb k → V.writes rb k ∨ w.heap.size ≤ k := by
  rintro k (e | e | e | e)
  ·exact .inl (.inl e)
  ·exact .inl (.inr (.inl e))
  ·exact .inl (.inr (.inr (.inl e)))
  ·rcases g.loc with e1 | ⟨j, e1, hj⟩
   ·exact .inl (.inr (.inr (.inr (e1 ▸ e))))
   ·have e : v'.ownBlock = some k := e
    rw [e1] at e
    have := Option.some.inj e
    exact .inr (by omega)
 have hkeep : ∀ k, k < w.heap.size → ¬ V.writes rb k → (w'.setCell ⟨rb, 21, none⟩ v').heap[k]? = w.heap[k]? := fun k hk hn => by
  rw [hw.block k (Nat.lt_of_lt_of_le hk hg.size) (fun e => hn (.inl (Option.some.inj e)))]
  exact hg.block k hk (fun e => hn (.inr (.inr (.inr e.symm))))
 have hsz : w.heap.size ≤ (w'.setCell ⟨rb, 21, none⟩ v').heap.size := by rw [hz]; exact hg.size
 obtain ⟨h1, h2, h3⟩ := h.reads_keep hsz hkeep
 have hrl : ∀ v ∈ V.reads cs, ∀ k, v.ownBlock = some k → k < w.heap.size := fun v hv k hk => h.lt k (.inr ⟨v, hv, hk⟩)
 have nK := own_type_ne h.kept h.box (by decide : 69 ≠ 163)
 have nS := own_type_ne h.seen h.box (by decide : 9 ≠ 163)
 have neq : ∀ {e : TypeId} {sz : Nat} {v : Value} {m : Nat} {x : List Value}, w.ownsRow 0 e sz v m x → e ≠ 169 → V.vL.ownBlock = none ∨ v.ownBlock ≠ V.vL.ownBlock := by
  intro e sz v m x hv hne
  cases hb : V.vL.ownBlock with
  | none => exact .inl rfl
  | some b =>
   right
   rcases h.row.2 with ⟨e0, _⟩ | ⟨g0, cap, cur, e0, _, hg0, _⟩
   ·rw [e0] at hb; cases hb
   ·rw [e0] at hb
    have : g0 = b := Option.some.inj hb
    subst this
    exact own_type_ne hv hg0 hne
 have kept' : ∀ {e : TypeId} {sz : Nat} {v : Value} {m : Nat} {x : List Value}, w.ownsRow 0 e sz v m x → e ≠ 169 → v.ownBlock ≠ some rb → (w'.setCell ⟨rb, 21, none⟩ v').ownsRow 0 e sz v m x := by
  intro e sz v m x hv hne hnb
  have : w'.ownsRow 0 e sz v m x := by
   cases hb : V.vL.ownBlock with
   | none => exact hv.kept (row := none) (hb ▸ hg) (by cases v.ownBlock <;> simp)
   | some b =>
    rcases neq hv hne with e0 | e0
    ·rw [hb] at e0; cases e0
    ·exact hv.kept hg (.inr e0)
  exact this.kept hw (.inr hnb)
 have own' := g.own
 rw [hn, hxs] at own'
 have nv : v'.ownBlock ≠ some rb := (g.keeps hrb n1).2.1
 have hsl : ∀ {v : Value} {es : List (List Value)}, Lies w' 1 v es → (∀ k, v.ownBlock = some k → k < w.heap.size ∧ ¬ V.writes rb k) → Lies (w'.setCell ⟨rb, 21, none⟩ v') 1 v es := fun hl hv => hl.keep hw.size (fun b hb hlt' => hw.block b hlt' (fun e => (hv b hb).2 (.inl (Option.some.inj e))))
 refine ⟨⟨?_, ?_, h1, h2, kept' h.kept (by decide) nK, kept' h.seen (by decide) nS, own'.kept hw (.inr nv), ?_, ?_, ?_, ?_⟩, ⟨?_, ?_, ?_, hsz, ?_, ?_⟩⟩
 ·rw [heap_setCell_eq hbox]; rfl
 ·simp [h.chs]
 ·intro x hx
  rcases List.mem_append.1 hx with hx | hx
  ·exact h3 x hx
  ·simp only [List.mem_singleton] at hx
   subst hx
   exact ⟨hsl hs (fun k hk => hlt k (.inl hk)), hsl hm (fun k hk => hlt k (.inr hk))⟩
 ·intro v hv k hk hwk
  rcases (reads_snoc (withL V v') cs c v).1 hv with hv | rfl | rfl
  ·rcases hwr k hwk with h4 | h4
   ·exact h.free v hv k hk h4
   ·have := hrl v hv k hk; omega
  ·rcases hwr k hwk with h4 | h4
   ·exact (hlt k (.inl hk)).2 h4
   ·have := (hlt k (.inl hk)).1; omega
  ·rcases hwr k hwk with h4 | h4
   ·exact (hlt k (.inr hk)).2 h4
   ·have := (hlt k (.inr hk)).1; omega
 ·rintro k (hk | ⟨v, hv, hk⟩)
  ·rcases hk with e | e | e | e
   ·subst e; exact Nat.lt_of_lt_of_le hrb hsz
   ·exact Nat.lt_of_lt_of_le (h.lt k (.inl (.inr (.inl e)))) hsz
   ·exact Nat.lt_of_lt_of_le (h.lt k (.inl (.inr (.inr (.inl e))))) hsz
   ·rw [hz]
    rcases own'.2 with ⟨e0, _⟩ | ⟨g0, cap, cur, e0, _, hg0, _⟩
    ·have e : v'.ownBlock = some k := e
     rw [e0] at e; cases e
    ·have e : v'.ownBlock = some k := e
     rw [e0] at e
     have : g0 = k := Option.some.inj e
     subst this
     exact heap_lt hg0
  ·rcases (reads_snoc (withL V v') cs c v).1 hv with hv | rfl | rfl
   ·exact Nat.lt_of_lt_of_le (hrl v hv k hk) hsz
   ·exact Nat.lt_of_lt_of_le (hlt k (.inl hk)).1 hsz
   ·exact Nat.lt_of_lt_of_le (hlt k (.inr hk)).1 hsz
 ·intro x hx
  rcases List.mem_append.1 hx with hx | hx
  ·exact h.caps x hx
  ·simp only [List.mem_singleton] at hx
   subst hx
   exact hcap
 ·exact hw.os.trans hg.os
 ·exact hw.tape.trans hg.tape
 ·exact hw.output.trans hg.output
 ·exact fun k hk ho => hkeep k hk (fun e => ho (.inl e))
 ·rintro k (hk | ⟨v, hv, hk⟩)
  ·rcases hwr k hk with h4 | h4
   ·exact .inl (.inl h4)
   ·exact .inr h4
  ·rcases (reads_snoc (withL V v') cs c v).1 hv with hv | rfl | rfl
   ·exact .inl (.inr ⟨v, hv, hk⟩)
   ·exact .inl (.inr (hrd k (.inl hk)))
   ·exact .inl (.inr (hrd k (.inr hk)))
theorem Fr.step {w0 w w' : World} {O0 O O' : Nat → Prop} (h : Fr w0 w O0 O) (ho : w'.os = w.os) (ht : w'.tape = w.tape) (hp : w'.output = w.output) (hs : w.heap.size ≤ w'.heap.size) (hb : ∀ k, k < w.heap.size → ¬ O k → w'.heap[k]? = w.heap[k]?) (hO : ∀ k, O' k → O k ∨ w0.heap.size ≤ k) : Fr w0 w' O0 O' := by
 refine ⟨ho.trans h.os, ht.trans h.tape, hp.trans h.output, Nat.le_trans h.size hs, fun k hk hn => ?_, fun k hk => ?_⟩
 ·rw [hb k (Nat.lt_of_lt_of_le hk h.size) (fun e => by
   rcases h.new k e with e | e
   ·exact hn e
   ·omega)]
  exact h.block k hk hn
 ·rcases hO k hk with e | e
  ·exact h.new k e
  ·exact .inr e
theorem row_at {w : World} {rb : Nat} {st : RSt} {V : RV} {cs : List ChV} {c : ChV} (h : RefAt w rb st V (cs ++ [c])) : ∃ g cap cur, V.vL = .slice (some ⟨g, 0, none⟩) (cs.length + 1) cap ∧ w.heap[g]? = some (.cells cur 169) ∧ cs.length + 1 ≤ cap ∧ cap ≤ maxLen ∧ cur.size = cap * 6 ∧ cur.toList.take ((cs.length + 1) * 6) = ((cs ++ [c]).map ChV.cells).flatten := by
 rcases h.row.2 with ⟨_, e⟩ | ⟨g, cap, cur, e, _, hg, h1, h2, h3, h4⟩
 ·simp at e
 ·simp only [List.length_append, List.length_cons, List.length_nil, Nat.zero_add] at e h1 h4
  exact ⟨g, cap, cur, e, hg, h1, h2, h3, h4⟩
theorem flat_snoc (cs : List ChV) (c : ChV) : ((cs ++ [c]).map ChV.cells).flatten = (cs.map ChV.cells).flatten ++ c.cells := by simp
theorem RefAt.pop {w : World} {rb : Nat} {st : RSt} {V : RV} {cs : List ChV} {c : ChV} (h : RefAt w rb st V (cs ++ [c])) {g cap : Nat} (hv : V.vL = .slice (some ⟨g, 0, none⟩) (cs.length + 1) cap) :
  RefAt (w.setCell ⟨rb, 21, none⟩ (.slice (some ⟨g, 0, none⟩) cs.length cap)) rb { st with l := cs.map ChV.ch } (withL V (.slice (some ⟨g, 0, none⟩) cs.length cap)) cs := by
 have hw := grownBy_setCell w rb 21 (.slice (some ⟨g, 0, none⟩) cs.length cap)
 obtain ⟨g', cap', cur, e, hg, k1, k2, k3, k4⟩ := row_at h
 rw [hv] at e
 cases e
 have hrb := heap_lt h.box
 have hgr : g ≠ rb := fun e => by
  subst e
  rw [h.box] at hg
  cases hg
 have hwr : ∀ k, (withL V (.slice (some ⟨g, 0, none⟩) cs.length cap)).writes rb k → V.writes rb k := by
  rintro k (e | e | e | e)
  ·exact .inl e
  ·exact .inr (.inl e)
  ·exact .inr (.inr (.inl e))
  ·exact .inr (.inr (.inr (by rw [hv]; exact e)))
 obtain ⟨h1, h2, h3⟩ := h.reads_keep (w' := w.setCell ⟨rb, 21, none⟩ (.slice (some ⟨g, 0, none⟩) cs.length cap)) hw.size (fun k hk hn => hw.block k hk (fun e => hn (.inl (Option.some.inj e))))
 have n1 : V.vK.ownBlock ≠ some rb := own_type_ne h.kept h.box (by decide)
 have n2 : V.vS.ownBlock ≠ some rb := own_type_ne h.seen h.box (by decide)
 have hz : (w.setCell ⟨rb, 21, none⟩ (.slice (some ⟨g, 0, none⟩) cs.length cap)).heap.size = w.heap.size := by simp [World.setCell]
 refine ⟨?_, rfl, h1, h2, h.kept.kept hw (.inr n1), h.seen.kept hw (.inr n2), ⟨?_, .inr ⟨g, cap, cur, rfl, Nat.zero_le _, (hw.block g (heap_lt hg) (fun e => hgr (Option.some.inj e))).trans hg, by omega, k2, k3, ?_⟩⟩, fun x hx => h3 x (List.mem_append_left _ hx), ?_, ?_, fun x hx => h.caps x (List.mem_append_left _ hx)⟩
 ·rw [heap_setCell_eq h.box]
  rfl
 ·exact chcells_len cs
 ·rw [flat_snoc] at k4
  have := congrArg (List.take (cs.length * 6)) k4
  rw [List.take_take, Nat.min_eq_left (by omega), List.take_left' (chcells_len cs)] at this
  exact this
 ·intro v hv' k hk hwk
  exact h.free v ((reads_snoc V cs c v).2 (.inl hv')) k hk (hwr k hwk)
 ·rintro k (hk | ⟨v, hv', hk⟩)
  ·rw [hz]; exact h.lt k (.inl (hwr k hk))
  ·rw [hz]; exact h.lt k (.inr ⟨v, (reads_snoc V cs c v).2 (.inl hv'), hk⟩)
theorem Fr.pop {w0 w : World} {O0 : Nat → Prop} {rb : Nat} {V : RV} {cs : List ChV} {c : ChV} (h : Fr w0 w O0 (V.owns (cs ++ [c]) rb)) {g cap : Nat} (hv : V.vL = .slice (some ⟨g, 0, none⟩) (cs.length + 1) cap) :
  Fr w0 (w.setCell ⟨rb, 21, none⟩ (.slice (some ⟨g, 0, none⟩) cs.length cap)) O0 ((withL V (.slice (some ⟨g, 0, none⟩) cs.length cap)).owns cs rb) := by
 have hw := grownBy_setCell w rb 21 (.slice (some ⟨g, 0, none⟩) cs.length cap)
 refine h.step hw.os hw.tape hw.output hw.size (fun k hk hn => hw.block k hk (fun e => hn (.inl (.inl (Option.some.inj e))))) ?_
 rintro k (hk | ⟨v, hv', hk⟩)
 ·refine .inl (.inl ?_)
  rcases hk with e | e | e | e
  ·exact .inl e
  ·exact .inr (.inl e)
  ·exact .inr (.inr (.inl e))
  ·exact .inr (.inr (.inr (by rw [hv]; exact e)))
 ·exact .inl (.inr ⟨v, (reads_snoc V cs c v).2 (.inl hv'), hk⟩)
def doneM (st : RSt) (code : Int) (l : List Rc) : Msg := ⟨st.asked.id, false, 0, false, false, st.asked.wanted, true, code, st.asked.qs, if code = 2 then [] else st.kept ++ l, [], []⟩
theorem buildD (i d : Int) (b1 b2 : Bool) (a : Option Addr) (n c : Nat) (W : World) : (Instr.build 30 #[(0, .int .u16 i), (5, .bool b1), (6, .bool b2), (7, .int .i64 d), (8, .slice a n c)]).run Tryz.prog W = .ok (.agg #[.int .u16 i, .bool false, .int .i64 0, .bool false, .bool false, .bool b1, .bool b2, .int .i64 d, .slice a n c, .slice none 0 0, .slice none 0 0, .slice none 0 0]) W := run_build W _ _ _ (by kernel_rfl)
attribute [local go_sem] buildD
theorem rcells_len' (l : List Rc) : ∀ x ∈ l.map Rc.cells, x.length = 5 := by
 intro x hx
 obtain ⟨q, _, rfl⟩ := List.mem_map.1 hx
 rfl
theorem step_append_run {P : Program} {ops : Array Oper} {o : Oper} {a : Act} {w w' : World} {K : Act → World → Prop} {Q : Exit → Act → World → Prop} {E : Prop} (hgd : o.guard = none) (s x : Operand) (t : TypeId) (ho : o.op = .call { callee := .builtin .append, args := #[s, x], argTypes := #[t, t] })
  (v u v' : Value) (hs : a.eval s = v) (hx : a.eval x = u) (hr : (Builtin.append_ #[t, t] o.type #[v, u]).run P w = .ok v' w') (h : K (a.put o.dst v') w') :
  if Region.wanted o (yielded ops a.tmps) = true then Oper.wp P o a w K Q else E := by
 have hw : Region.wanted o (yielded ops a.tmps) = true := by simp [Region.wanted, hgd]
 rw [if_pos hw]
 unfold Oper.wp execOp
 simp only [ho, resolve, invoke, builtin, Sem.run_bind, Sem.run_pure, Result.andThen_ok, List.map_toArray, List.map_cons, List.map_nil, hs, hx, hr]
 exact h
end Go.Proofs.YtafoepfhepdcoaaGreat
namespace Go.Proofs.YtafoepfhepdcoaaGreat
open Go.RowKit Go.Trawl
def rootN : ByteArray := ⟨#[0]⟩
def freshCh (st : RSt) (name : ByteArray) (kind : Int) : Ch := ⟨name, kind, rootN, st.roots, 0, []⟩
theorem buildC (n z : ByteArray) (k : Int) (a : Option Addr) (m c : Nat) (W : World) : (Instr.build 169 #[(0, .string n), (1, .int .u16 k), (2, .string z), (3, .slice a m c)]).run Tryz.prog W = .ok (.agg #[.string n, .int .u16 k, .string z, .slice a m c, .int .i64 0, .slice none 0 0]) W := run_build W _ _ _ (by kernel_rfl)
attribute [local go_sem] buildC Stg.upon
end Go.Proofs.YtafoepfhepdcoaaGreat
