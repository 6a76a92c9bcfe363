import Derived.Test.YtafoepfhepdcoaaGreatM16
import Derived.Test.YtafoepfhepdcoaaGreatM17
import Derived.Test.YtafoepfhepdcoaaGreatM6
import Derived.Test.YtafoepfhepdcoaaGreatM8
import Derived.Test.YtafoepfhepdcoaaGreatM20
import Derived.Test.YtafoepfhepdcoaaGreatM22
import Derived.Test.YtafoepfhepdcoaaGreatM12
set_option maxRecDepth 100000
set_option maxHeartbeats 8000000
namespace Go.Proofs.YtafoepfhepdcoaaGreat
open Go.RowKit Go.Trawl
theorem bI0 : (Tryz.prog.info? 5).map (fun i => (i.zero, i.size, i.bytes)) = some (some (.int .u8 0), 1, 1) := by kernel_rfl
def m201 : Value := .int .u8 201
def lentC (s : ByteArray) (k : Nat) : List Value := bytesV s.data.toList ++ (List.replicate k m201 ++ List.replicate (8 - k) (.int .u8 0))
theorem lentC_length (s : ByteArray) (k : Nat) (h : k ≤ 8) : (lentC s k).length = s.size + 8 := by
 unfold lentC
 rw [List.length_append, List.length_append, bytesV_length, List.length_replicate, List.length_replicate, Array.length_toList]
 show s.data.size + _ = s.data.size + 8
 omega
theorem lentC_set (s : ByteArray) (k : Nat) (h : k < 8) : (lentC s k).set (s.size + k) m201 = lentC s (k + 1) := by
 have hl : (bytesV s.data.toList).length = s.size := by rw [bytesV_length, Array.length_toList]; rfl
 unfold lentC
 rw [List.set_append_right _ _ (by omega), hl, Nat.add_sub_cancel_left, List.set_append_right _ _ (by simp)]
 obtain ⟨j, hj⟩ : ∃ j, 8 - k = j + 1 := ⟨8 - k - 1, by omega⟩
 have hj2 : 8 - (k + 1) = j := by omega
 rw [hj, hj2, List.length_replicate, Nat.sub_self, List.replicate_succ, List.set_cons_zero, List.replicate_succ']
 simp
theorem lentC_at (s : ByteArray) (k : Nat) (h : k < 8) : (lentC s k)[s.size + k]? = some (.int .u8 0) := by
 have hl : (bytesV s.data.toList).length = s.size := by rw [bytesV_length, Array.length_toList]; rfl
 unfold lentC
 rw [List.getElem?_append_right (by omega), hl, Nat.add_sub_cancel_left, List.getElem?_append_right (by simp), List.length_replicate, Nat.sub_self]
 obtain ⟨j, hj⟩ : ∃ j, 8 - k = j + 1 := ⟨8 - k - 1, by omega⟩
 rw [hj, List.replicate_succ]
 rfl
theorem lentC_byte (s : ByteArray) (k i : Nat) (h : i < s.size) : (lentC s k)[i]? = some (.int .u8 (at8 s i)) := by
 have hl : (bytesV s.data.toList).length = s.size := by rw [bytesV_length, Array.length_toList]; rfl
 unfold lentC
 rw [List.getElem?_append_left (by omega)]
 unfold bytesV
 have h' : i < s.data.size := h
 rw [List.getElem?_map, Array.getElem?_toList, Array.getElem?_eq_getElem h']
 simp only [Option.map_some, Option.some.injEq, Value.int.injEq, true_and]
 rw [← at8_eq s i h]
 rfl
theorem lentC_mark (s : ByteArray) (i : Nat) (h : i < 8) : (lentC s 8)[s.size + i]? = some m201 := by
 have hl : (bytesV s.data.toList).length = s.size := by rw [bytesV_length, Array.length_toList]; rfl
 unfold lentC
 rw [List.getElem?_append_right (by omega), hl, Nat.add_sub_cancel_left, List.getElem?_append_left (by simp; exact h), List.getElem?_replicate, if_pos h]
theorem copy_str {P : Program} (w : World) (t s ty e : TypeId) (i : TypeInfo) (ht : P.underlying t = some (.slice e)) (hi : P.info? e = some i) (hsize : i.size = 1) (g n c : Nat) (cur : Array Value) (hg : w.heap[g]? = some (.cells cur e)) (x : ByteArray) (hle : x.size ≤ n) (hcs : x.size ≤ cur.size) :
  (Builtin.copy_ #[t, s] ty #[.slice (some ⟨g, 0, none⟩) n c, .string x]).run P w = .ok (goInt x.size) (w.setRow g (bytesV x.data.toList ++ cur.toList.drop x.size).toArray) := by
 have hmin : Nat.min x.size n = x.size := Nat.min_eq_left hle
 have hl : (Lib.strCells x).length = x.size := Lib.strCells_length x
 have hst := run_storeCells_at P g 0 e (Lib.strCells x) 0 cur w hg (by rw [hl]; omega) (Lib.strCells_oneCell x)
 have hf := Lib.run_firstCells_string (P := P) w 1 x
 simp only [Nat.add_zero, Nat.zero_add, List.take_zero, List.nil_append, hl] at hst
 rw [strCells_bytesV] at hst hf
 simp [Builtin.copy_, run_underlying ht, Builtin.lenOf, sizeOf, typeInfo, hi, hsize, hmin, hf, hst]
theorem lent_any (w : World) (s : ByteArray) (hs : s.size ≤ 2097152) :
  Calls Tryz.prog 52 #[.string s] w fun e w' => e = .returned (newV w.heap.size (s.size + 8)) ∧ Hid (w'.heap[w.heap.size]? = some (.cells (lentC s 8).toArray 5) ∧ Below w.heap.size w w') := by
 obtain ⟨ib, ib0, ib1, ib2, ib3⟩ := info_parts bI0
 go_enter Tryz.func52, Tryz.ntmps52
 go_wp2_with (at_make; refine wpList_make_full _ rfl _ _ 32 rfl 0 5 ib _ 1 und_bytes ib0 ib1 ib2 _ _ _ _ (s.size + 8) rfl rfl (by omega) (by omega) (by rw [ib3]; omega) (by unfold maxLen; omega) (Nat.zero_le _) ?_; intro w2 ho2 hg2; have HO2 := hide ho2; have HG2 := hide hg2; clear ho2 hg2)
 have hblk : ∃ cur : Array Value, w2.heap[w.heap.size]? = some (.cells cur 5) ∧ cur.toList = List.replicate (s.size + 8) (.int .u8 0) := by
  have ho := HO2.out
  have hm := made_flat [Value.int .u8 0] (by decide) (s.size + 8)
  have e0 : (Value.int IntKind.u8 0).cells = [Value.int .u8 0].toArray := rfl
  rw [e0, show (s.size + 8) * 1 = (s.size + 8) * [Value.int .u8 0].length from rfl, hm] at ho
  rcases ho.2 with ⟨h0, _⟩ | ⟨g', cap, cur, e1, _, hg, hnc, hcm, hcs, htake⟩
  ·cases h0
  ·injection e1 with e2 _ e3
   injection e2 with e2
   injection e2 with e4
   subst e3 e4
   refine ⟨cur, hg, ?_⟩
   rw [List.take_of_length_le (by rw [Array.length_toList, hcs]; omega)] at htake
   rw [htake]
   have : ∀ n, (List.replicate n [Value.int .u8 0]).flatten = List.replicate n (Value.int .u8 0) := by
    intro n
    induction n with
    | zero => rfl
    | succ n ih => rw [List.replicate_succ, List.flatten_cons, ih]; rfl
   exact this _
 obtain ⟨cur, hg, hcur⟩ := hblk
 have hcz : cur.size = s.size + 8 := by rw [← Array.length_toList, hcur, List.length_replicate]
 rw [copy_str (P := Tryz.prog) w2 32 9 3 5 ib und_bytes ib0 ib2 w.heap.size (s.size + 8) (s.size + 8) cur hg s (by omega) (by omega)]
 have hl0 : bytesV s.data.toList ++ cur.toList.drop s.size = lentC s 0 := by
  rw [hcur, List.drop_replicate, show s.size + 8 - s.size = 8 from by omega]
  rfl
 rw [hl0]
 have HG3 : Hid ((w2.setRow w.heap.size (lentC s 0).toArray).heap[w.heap.size]? = some (.cells (lentC s 0).toArray 5)) := setRow_heap w2 _ cur _ _ _ hg
 have HB3 : Hid (Below w.heap.size w (w2.setRow w.heap.size (lentC s 0).toArray)) := below_of_grown (below_grownBy HG2.out) (Nat.le_refl _) (grownBy_setRow _ _ _)
 clear hl0 hcz hcur hg HO2 HG2
 generalize w2.setRow w.heap.size (lentC s 0).toArray = w3 at HG3 HB3 ⊢
 go_wp2_with fail
 go_loopw [4] (fun i wr => ∃ k : Nat, i = .int .i64 ((s.size : Int) + (k : Int)) ∧ k ≤ 8 ∧ Hid (wr.heap[w.heap.size]? = some (.cells (lentC s k).toArray 5)) ∧ Hid (Below w.heap.size w wr)) (fun i _ => (s.size + 8) - (intOf i).toNat)
 case atStart => exact ⟨0, by simp, by omega, HG3.out, HB3.out⟩
 case round =>
  obtain ⟨k, rfl, hk, HG, HB⟩ := hrel
  by_cases hlt : k < 8
  ·have hc := box_cells HG.out (s.size + k)
   rw [List.getElem?_toArray, lentC_at s k hlt] at hc
   have hf := frozen_of_block HG.out (s.size + k)
   have hlt2 : ((s.size : Int) + (k : Int)).toNat = s.size + k := by omega
   go_wp2_with fail
   refine ⟨⟨k + 1, by rw [Int.natCast_add, Int.add_assoc]; rfl, by omega, ?_, HB.out.setCell (Nat.le_refl _) _⟩, by simp [intOf]; omega⟩
   unfold Hid
   rw [heap_setCell_eq HG.out, List.setIfInBounds_toArray]
   exact congrArg (fun l => some (Obj.cells (List.toArray l) 5)) (lentC_set s k hlt)
  ·go_wp2_with fail
   go_ret
   have e : k = 8 := by omega
   subst e
   exact ⟨rfl, HG.out, HB.out⟩
theorem still_any (w : World) (g : Nat) (s : ByteArray) (hs : s.size ≤ 2097152) (hg : w.heap[g]? = some (.cells (lentC s 8).toArray 5)) :
  Calls Tryz.prog 57 #[newV g (s.size + 8), .string s] w fun e w' => e = .returned (.bool true) ∧ ∃ n, w' = w.drewN n := by
 have HG := hide hg
 clear hg
 unfold newV
 go_enter Tryz.func57, Tryz.ntmps57
 go_wp2_with fail
 go_loopw [5] (fun i wr => ∃ k m : Nat, i = .int .i64 k ∧ k ≤ s.size + 8 ∧ wr = w.drewN m) (fun i _ => (s.size + 8) - (intOf i).toNat)
 case atStart => exact ⟨0, 0, rfl, by omega, rfl⟩
 case round =>
  obtain ⟨k, m, rfl, hk, rfl⟩ := hrel
  by_cases hlt : k < s.size + 8
  ·by_cases hks : k < s.size
   ·have hc := box_cells HG.out k
    rw [List.getElem?_toArray, lentC_byte s 8 k hks] at hc
    have hidx := idx s k hks
    have hd1 : decide (k < s.size) = true := by simp; exact hks
    have hd2 : decide (s.size ≤ k) = false := by simp; omega
    go_wp2_with fail
    go_quiet (fail)
    go_wp2_with fail
    exact ⟨⟨k + 1, _, by go_num, by omega, rfl⟩, by simp [intOf]; omega⟩
   ·have hc := box_cells HG.out k
    have hmk := lentC_mark s (k - s.size) (by omega)
    rw [show s.size + (k - s.size) = k from by omega] at hmk
    rw [List.getElem?_toArray, hmk] at hc
    unfold m201 at hc
    clear hmk
    have hd1 : decide (k < s.size) = false := by simp; omega
    have hd2 : decide (s.size ≤ k) = true := by simp; omega
    go_wp2_with fail
    go_quiet (fail)
    go_wp2_with fail
    exact ⟨⟨k + 1, _, by go_num, by omega, rfl⟩, by simp [intOf]; omega⟩
  ·go_wp2_with fail
   go_ret
   exact ⟨rfl, m, rfl⟩
attribute [local go_sem] selfQ selfR guardQ guardR
end Go.Proofs.YtafoepfhepdcoaaGreat
namespace Go.Proofs.YtafoepfhepdcoaaGreat
open Go.RowKit Go.Trawl
attribute [local go_sem] buildH0 buildH2 buildH3
def zMsg : Msg := ⟨0, false, 0, false, false, false, false, 0, [], [], [], []⟩
def unM (s : ByteArray) : Msg := (unpack s).getD zMsg
def unE (s : ByteArray) : Int := if (unpack s).isSome then 0 else 1
theorem zMsg_wf : WfM zMsg := ⟨by decide, by decide, by decide, by decide, by decide, by decide, by decide, by decide, by decide, by decide, (fun q hq => by cases hq), (fun r hr => by cases hr)⟩
theorem liesNil (w : World) (sz : Nat) : Lies w sz (.slice none 0 0) [] := ⟨none, 0, rfl, fun _ => rfl, .inl rfl⟩
theorem rUnpack2 (w : World) (s : ByteArray) (hsm : s.size ≤ 2097152) :
  Calls Tryz.prog 84 #[.string s] w fun e w' => ∃ (aq : Option Addr) (cq : Nat) (aa : Option Addr) (ca : Nat) (au : Option Addr) (cu : Nat) (ax : Option Addr) (cx : Nat),
   e = .returned (.tuple #[.agg (msgCells (unM s) (.slice aq (unM s).qs.length cq) (.slice aa (unM s).an.length ca) (.slice au (unM s).au.length cu) (.slice ax (unM s).ex.length cx)), .int .i64 (unE s)]) ∧
   Hid (Below w.heap.size w w' ∧ MsgAt w' (unM s) (.slice aq (unM s).qs.length cq) (.slice aa (unM s).an.length ca) (.slice au (unM s).au.length cu) (.slice ax (unM s).ex.length cx) ∧ New4 w w' (.slice aq (unM s).qs.length cq) (.slice aa (unM s).an.length ca) (.slice au (unM s).au.length cu) (.slice ax (unM s).ex.length cx)) := by
 refine (rUnpack_any w s hsm).mono ?_
 intro e w' H
 obtain ⟨hb, hno, hyes⟩ := H.out
 cases hu : unpack s with
 | none =>
  have e1 : unM s = zMsg := by unfold unM; rw [hu]; rfl
  have e2 : unE s = 1 := by unfold unE; rw [hu]; rfl
  rw [e1, e2]
  exact ⟨none, 0, none, 0, none, 0, none, 0, hno hu, hb, ⟨liesNil _ _, liesNil _ _, liesNil _ _, liesNil _ _⟩, fun k hk => by rcases hk with hk | hk | hk | hk <;> cases hk⟩
 | some m =>
  have e1 : unM s = m := by unfold unM; rw [hu]; rfl
  have e2 : unE s = 0 := by unfold unE; rw [hu]; rfl
  rw [e1, e2]
  obtain ⟨vq, va, vu, vx, he, hat, hnw⟩ := hyes m hu
  have hat2 := hat
  obtain ⟨⟨aq, cq, rfl, _⟩, ⟨aa, ca, rfl, _⟩, ⟨au, cu, rfl, _⟩, ⟨ax, cx, rfl, _⟩⟩ := hat2
  rw [List.length_map, List.length_map, List.length_map, List.length_map] at he hat hnw
  exact ⟨aq, cq, aa, ca, au, cu, ax, cx, he, hb, hat, hnw⟩
theorem lent_bytes {w : World} {g : Nat} {s : ByteArray} (h : w.heap[g]? = some (.cells (lentC s 8).toArray 5)) : Bytes w g s := fun k hk => by
 rw [box_cells h k, List.getElem?_toArray, lentC_byte s 8 k hk]
theorem lent_own {w : World} {g : Nat} {s : ByteArray} (hs : s.size ≤ 2097152) (h : w.heap[g]? = some (.cells (lentC s 8).toArray 5)) : w.ownsRow 0 5 1 (newV g (s.size + 8)) (s.size + 8) (lentC s 8) := by
 have hl := lentC_length s 8 (Nat.le_refl _)
 refine ⟨by rw [hl]; omega, .inr ⟨g, s.size + 8, (lentC s 8).toArray, rfl, Nat.zero_le _, h, Nat.le_refl _, by unfold maxLen; omega, by rw [List.size_toArray, hl]; omega, ?_⟩⟩
 rw [List.take_of_length_le (by simp [hl])]
def OpBox (w : World) (N : Nat) (s : ByteArray) : Prop := ∃ cs t, w.heap[N]? = some (.cells cs t) ∧ cs[14]? = some (.string s)
theorem OpBox.cell {w : World} {N : Nat} {s : ByteArray} (h : OpBox w N s) : w.cell? ⟨N, 14, none⟩ = some (.string s) := by
 obtain ⟨cs, t, h1, h2⟩ := h
 rw [box_cells h1 14, h2]
theorem OpBox.lt {w : World} {N : Nat} {s : ByteArray} (h : OpBox w N s) : N < w.heap.size := by
 obtain ⟨cs, t, h1, h2⟩ := h
 exact heap_lt h1
theorem OpBox.below {w w' : World} {N : Nat} {s : ByteArray} (h : OpBox w N s) (hb : Below w.heap.size w w') : OpBox w' N s := by
 have hl := h.lt
 obtain ⟨cs, t, h1, h2⟩ := h
 exact ⟨cs, t, (hb.block N hl).trans h1, h2⟩
theorem Rows4.below {B : Nat} {w w' : World} {m : Msg} {vq va vu vx : Value} (h : Rows4 B w m vq va vu vx) (hb : Below w.heap.size w w') : Rows4 B w' m vq va vu vx :=
 { h with q := own_below h.q hb, a := own_below h.a hb, u := own_below h.u hb, x := own_below h.x hb }
theorem Rows4.at {B : Nat} {w : World} {m : Msg} {vq va vu vx : Value} (h : Rows4 B w m vq va vu vx) : MsgAt w m vq va vu vx :=
 ⟨own_lies h.q (qcells_len _) (by simp), own_lies h.a (rcells_len _) (by simp), own_lies h.u (rcells_len _) (by simp), own_lies h.x (rcells_len _) (by simp)⟩
end Go.Proofs.YtafoepfhepdcoaaGreat
namespace Go.Proofs.YtafoepfhepdcoaaGreat
open Go.RowKit Go.Trawl
def confOk (b d c t : Int) (rs : List Int) : Prop := (1 ≤ b ∧ b ≤ 200) ∧ (0 ≤ d ∧ d ≤ 6) ∧ (0 ≤ c ∧ c ≤ 10) ∧ (1 ≤ t ∧ t ≤ 8) ∧ 1 ≤ rs.length ∧ rs.length ≤ 8
instance (b d c t : Int) (rs : List Int) : Decidable (confOk b d c t rs) := by unfold confOk; infer_instance
def newSt (b d c t : Int) (rs : List Int) : RSt := ⟨b, d, c, t, rs, 0, false, zMsg, [], [], [], 0, 0, ⟨#[]⟩⟩
theorem newSt_ok {b d c t : Int} {rs : List Int} (h : confOk b d c t rs) : StOk (newSt b d c t rs) :=
 ⟨h.1.1, h.1.2, h.2.1.1, h.2.1.2, h.2.2.1.1, h.2.2.1.2, h.2.2.2.1.1, h.2.2.2.1.2, h.2.2.2.2.1, h.2.2.2.2.2, by simp [newSt], by simp [newSt], zMsg_wf, by simp [newSt], by simp [newSt], by simp [newSt], by simp [newSt], by simp [newSt], by simp [newSt], by simp [newSt]⟩
def refM (id code : Int) (qs : List Qn) : Msg := ⟨id, false, 0, false, false, false, false, code, qs, [], [], []⟩
def beginSt (st : RSt) (m : Msg) (q : Qn) : RSt := { st with busy := true, asked := m, kept := [], seen := [q.name], l := [freshCh st q.name q.kind], spent := 0 }
def askS (st : RSt) (s : ByteArray) : RSt × Value × Int :=
 if st.busy then (st, stepV 0 0 ⟨#[]⟩, 3)
 else if s.size < 12 then (st, stepV 2 0 ⟨#[]⟩, 0)
 else match unpack s with
  | none => (st, stepV 2 0 (str (replyL (refM (n2 s 0) 1 []))), 0)
  | some m =>
   if m.resp then (st, stepV 2 0 (str (replyL (refM (n2 s 0) 1 []))), 0)
   else match m.qs with
    | [q] => if m.op ≠ 0 ∨ q.cls ≠ 1 then (st, stepV 2 0 (str (replyL (refM m.id 4 [q]))), 0)
     else ((askP (beginSt st m q) [] (freshCh st q.name q.kind)).1, (askP (beginSt st m q) [] (freshCh st q.name q.kind)).2, 0)
    | _ => (st, stepV 2 0 (str (replyL (refM m.id 4 []))), 0)
theorem par_bind {α β : Type} {p : Par α} {f : α → Par β} {a : Nat} {r : β × Nat} (h : p.bind f a = some r) : ∃ q, p a = some q ∧ f q.1 q.2 = some r := by
 unfold Par.bind at h
 cases hp : p a with
 | none => rw [hp] at h; cases h
 | some q => rw [hp] at h; exact ⟨q, rfl, h⟩
theorem unpack_id {s : ByteArray} {m : Msg} (h : unpack s = some m) : m.id = n2 s 0 := by
 unfold unpack at h
 split at h
 ·cases hp : pM s 0 with
  | none => simp [hp] at h
  | some r =>
   simp only [hp, Option.bind_some] at h
   split at h
   ·cases h
    unfold pM at hp
    obtain ⟨q, h1, h2⟩ := par_bind hp
    have e : q.1 = (n2 s 0 : Int) := by
     unfold num2 at h1
     split at h1
     ·cases h1; rfl
     ·cases h1
    have key : ∀ id : Int, Always _ fun m : Msg => m.id = id := fun id =>
     (Always.any (num2 s)).bind fun f _ => (Always.any (num2 s)).bind fun q _ => (Always.any (num2 s)).bind fun a _ => (Always.any (num2 s)).bind fun u _ => (Always.any (num2 s)).bind fun x _ =>
      (Always.any ((pQ s).many q.toNat)).bind fun qs _ => (Always.any ((pR s).many a.toNat)).bind fun an _ => (Always.any ((pR s).many u.toNat)).bind fun au _ => (Always.any ((pR s).many x.toNat)).bind fun ex _ => Always.pure (x := flagged id f qs an au ex) rfl
    rw [← e]
    exact key q.1 q.2 r h2
   ·cases h
 ·cases h
inductive Ph where
 | idle
 | send
 | fail
 | failAll
 | seek
 | finish
structure QSt where
 b : Int
 d : Int
 c : Int
 t : Int
 roots : List Int
 id : Int
 ph : Ph
 ch : List Ch
 sent : Nat
 reply : Msg
abbrev QOut := Int × Int × List UInt8
def noOut : QOut := (0, 0, [])
def newQ (n : ByteArray) (k : Int) : Ch := ⟨n, k, ⟨#[]⟩, [], 0, []⟩
def startQ (s : QSt) (c : Ch) (r : List Ch) : QSt := { s with ph := .send, ch := { c with zone := rootN, servers := s.roots } :: r }
def settleQ (s : QSt) (code : Int) (l : List Rc) : QSt := { s with ph := .finish, reply := { s.reply with code := code, an := if code = 2 then [] else s.reply.an ++ l } }
def endQ (s : QSt) (code : Int) (l : List Rc) : QSt :=
 match s.ch with
 | _ :: a :: r => { s with ph := .seek, ch := { a with servers := addrs l } :: r }
 | _ => settleQ s code l
def sendQ (s : QSt) : QSt × QOut :=
 match s.ch with
 | [] => (s, noOut)
 | c :: r =>
  if (c.sent : Int) = s.t then ({ s with ph := .fail }, noOut)
  else if (s.sent : Int) = s.b then ({ s with ph := .failAll }, noOut)
  else ({ s with ch := { c with sent := c.sent + 1 } :: r, sent := s.sent + 1, id := nextId s.id }, (1, toOf c, packL (askM (nextId s.id) c)))
def seekQ (s : QSt) : QSt :=
 match s.ch with
 | [] => s
 | c :: r =>
  if c.servers ≠ [] then { s with ph := .send, ch := { c with names := [] } :: r }
  else match c.names with
   | [] => { s with ph := .fail }
   | n :: ns => if (r.length : Int) = s.d then { s with ph := .fail } else startQ s (newQ n 1) ({ c with names := ns } :: r)
def idleQ (s : QSt) : QSt := { s with ph := .idle, ch := [], sent := 0, reply := zMsg }
def stepQ (s : QSt) : QSt × QOut :=
 match s.ph with
 | .idle => (s, noOut)
 | .send => sendQ s
 | .fail => (endQ s 2 [], noOut)
 | .failAll => (settleQ s 2 [], noOut)
 | .seek => (seekQ s, noOut)
 | .finish => (idleQ s, (2, 0, replyL s.reply))
def goes : Nat → QSt → Option (QSt × QOut)
 | 0, _ => none
 | n + 1, s => if (stepQ s).2.1 = 0 then goes n (stepQ s).1 else some (stepQ s)
structure QcOk (t : Int) (c : Ch) : Prop where
 name : nameB c.name = true
 k0 : 0 ≤ c.kind
 k1 : c.kind ≤ 65535
 zone : nameB c.zone = true
 servers : c.servers.length ≤ 4294967295
 sent : (c.sent : Int) ≤ t
 names : c.names.length ≤ 2097152
 texts : ∀ x ∈ c.names, nameB x = true
structure QOk (s : QSt) : Prop where
 b0 : 1 ≤ s.b
 b1 : s.b ≤ 200
 d0 : 0 ≤ s.d
 d1 : s.d ≤ 6
 c0 : 0 ≤ s.c
 c1 : s.c ≤ 10
 t0 : 1 ≤ s.t
 t1 : s.t ≤ 8
 r0 : 1 ≤ s.roots.length
 r1 : s.roots.length ≤ 8
 id0 : 0 ≤ s.id
 id1 : s.id ≤ 65535
 sent : (s.sent : Int) ≤ s.b
 chs : ∀ c ∈ s.ch, QcOk s.t c
 len : (s.ch.length : Int) ≤ s.d + 1
 reply : WfM s.reply
 au : s.reply.au = []
 ex : s.reply.ex = []
 few : s.reply.an.length ≤ 1048576
 busy : s.ph ≠ .idle → s.ch ≠ [] ∧ s.reply.resp = true ∧ ∃ q, s.reply.qs = [q] ∧ NamedQ q
 an : s.ph ≠ .finish → (s.reply.an.length : Int) ≤ s.c
 srv : s.ph = .send → ∀ c r, s.ch = c :: r → c.servers ≠ []
theorem rootN_name : nameB rootN = true := by decide
theorem addrs_len (l : List Rc) : (addrs l).length ≤ l.length := by
 unfold addrs
 rw [List.length_map]
 exact List.length_filter_le _ _
theorem startQ_ok {s : QSt} (h : QOk s) (c : Ch) (r : List Ch) (hb : s.reply.resp = true ∧ ∃ q, s.reply.qs = [q] ∧ NamedQ q) (ha : (s.reply.an.length : Int) ≤ s.c) (hn : nameB c.name = true) (k0 : 0 ≤ c.kind) (k1 : c.kind ≤ 65535) (hs : c.sent = 0) (he : c.names = []) (hr : ∀ x ∈ r, QcOk s.t x) (hl : (r.length : Int) ≤ s.d) : QOk (startQ s c r) := by
 have hr0 := h.r0
 have hr1 := h.r1
 have ht := h.t0
 refine { h with chs := fun x hx => ?_, len := by simp only [startQ, List.length_cons]; omega, busy := fun _ => ⟨by simp [startQ], hb⟩, an := fun _ => ha, srv := fun _ x y e => ?_ }
 ·simp only [startQ, List.mem_cons] at hx
  rcases hx with rfl | hx
  ·exact ⟨hn, k0, k1, rootN_name, by dsimp only; omega, by dsimp only [startQ]; omega, by simp [he], by simp [he]⟩
  ·exact hr x hx
 ·simp only [startQ] at e
  injection e with e _
  rw [← e]
  intro e
  have : s.roots = [] := e
  rw [this] at hr0
  simp at hr0
theorem settleQ_ok {s : QSt} (h : QOk s) (hp : s.ph ≠ .idle) (code : Int) (hc : -9223372036854775808 ≤ code ∧ code ≤ 9223372036854775807) (l : List Rc) (hl : l.length ≤ 65535) (hw : ∀ r ∈ l, WfR r) (ha : (s.reply.an.length : Int) ≤ s.c) : QOk (settleQ s code l) := by
 have hc1 := h.c1
 have hm := h.reply
 have hlen : (if code = 2 then [] else s.reply.an ++ l).length ≤ 70000 := by
  split
  ·simp
  ·rw [List.length_append]; omega
 refine { h with reply := ?_, few := by simp only [settleQ]; omega, busy := fun _ => ⟨(h.busy hp).1, (h.busy hp).2⟩, an := fun e => absurd rfl e, srv := fun e => by cases e }
 refine { hm with code0 := hc.1, code1 := hc.2, na := by simp only [settleQ]; omega, rs := fun r hr => ?_ }
 simp only [settleQ, recs, List.mem_append] at hr
 rcases hr with (hr | hr) | hr
 ·split at hr
  ·cases hr
  ·rcases List.mem_append.1 hr with hr | hr
   ·exact hm.rs r (by simp [recs, hr])
   ·exact hw r hr
 ·exact hm.rs r (by simp [recs, hr])
 ·exact hm.rs r (by simp [recs, hr])
theorem endQ_ok {s : QSt} (h : QOk s) (hp : s.ph ≠ .idle) (code : Int) (hc : -9223372036854775808 ≤ code ∧ code ≤ 9223372036854775807) (l : List Rc) (hl : l.length ≤ 65535) (hw : ∀ r ∈ l, WfR r) (ha : (s.reply.an.length : Int) ≤ s.c) : QOk (endQ s code l) := by
 unfold endQ
 split
 ·rename_i c0 a r e
  have hlen := h.len
  have hch := h.chs
  rw [e] at hlen hch
  have hA := hch a (by simp)
  have := addrs_len l
  refine { h with chs := fun x hx => ?_, len := by simp only [List.length_cons] at hlen ⊢; omega, busy := fun _ => ⟨by simp, (h.busy hp).2⟩, an := fun _ => ha, srv := fun e => by cases e }
  simp only [List.mem_cons] at hx
  rcases hx with rfl | hx
  ·exact { hA with servers := by dsimp only; omega }
  ·exact hch x (by simp [hx])
 ·exact settleQ_ok h hp code hc l hl hw ha
theorem stepQ_ok {s : QSt} (h : QOk s) (hp : s.ph ≠ .idle) : QOk (stepQ s).1 := by
 have hb := h.busy hp
 unfold stepQ
 split
 ·rename_i e; exact absurd e hp
 ·rename_i e
  have ha := h.an (by rw [e]; simp)
  unfold sendQ
  split
  ·exact h
  ·rename_i c r ec
   have hch := h.chs
   have hlen := h.len
   rw [ec] at hch hlen
   have hC := hch c (by simp)
   have hs := hC.sent
   have hsb := h.sent
   split
   ·exact { h with busy := fun _ => hb, an := fun _ => ha, srv := fun e => by cases e }
   ·split
    ·exact { h with busy := fun _ => hb, an := fun _ => ha, srv := fun e => by cases e }
    ·refine { h with id0 := by show 0 ≤ nextId s.id; unfold nextId; omega, id1 := by show nextId s.id ≤ 65535; unfold nextId; omega, sent := by dsimp only; omega, chs := fun x hx => ?_, len := by simpa using hlen, busy := fun _ => ⟨by simp, hb.2⟩, an := fun _ => ha, srv := fun _ x y exy => ?_ }
     ·simp only [List.mem_cons] at hx
      rcases hx with rfl | hx
      ·exact { hC with sent := by dsimp only; omega }
      ·exact hch x (by simp [hx])
     ·injection exy with e1 _
      rw [← e1]
      exact h.srv e c r ec
 ·rename_i e
  exact endQ_ok h hp 2 (by decide) [] (by simp) (by simp) (h.an (by rw [e]; simp))
 ·rename_i e
  exact settleQ_ok h hp 2 (by decide) [] (by simp) (by simp) (h.an (by rw [e]; simp))
 ·rename_i e
  have ha := h.an (by rw [e]; simp)
  show QOk (seekQ s)
  unfold seekQ
  split
  ·exact h
  ·rename_i c r ec
   have hch := h.chs
   have hlen := h.len
   rw [ec] at hch hlen
   have hC := hch c (by simp)
   split
   ·rename_i hne
    refine { h with chs := fun x hx => ?_, len := by simpa using hlen, busy := fun _ => ⟨by simp, hb.2⟩, an := fun _ => ha, srv := fun _ x y exy => ?_ }
    ·simp only [List.mem_cons] at hx
     rcases hx with rfl | hx
     ·exact { hC with names := by simp, texts := by simp }
     ·exact hch x (by simp [hx])
    ·injection exy with e1 _
     rw [← e1]
     exact hne
   ·split
    ·exact { h with busy := fun _ => hb, an := fun _ => ha, srv := fun e => by cases e }
    ·rename_i n ns en
     split
     ·exact { h with busy := fun _ => hb, an := fun _ => ha, srv := fun e => by cases e }
     ·rename_i hd
      have h1 := hC.names
      have h2 := hC.texts
      rw [en] at h1 h2
      refine startQ_ok h _ _ hb.2 ha (h2 n (by simp)) (show (0 : Int) ≤ 1 by decide) (show (1 : Int) ≤ 65535 by decide) rfl rfl (fun x hx => ?_) (by simp only [List.length_cons] at hlen ⊢; omega)
      simp only [List.mem_cons] at hx
      rcases hx with rfl | hx
      ·exact { hC with names := by simp only [List.length_cons] at h1; dsimp only; omega, texts := fun x hx => h2 x (by simp [hx]) }
      ·exact hch x (by simp [hx])
 ·refine { h with sent := by have := h.b0; simp only [idleQ]; omega, chs := by simp [idleQ], len := by have := h.d0; simp only [idleQ, List.length_nil]; omega, reply := zMsg_wf, au := rfl, ex := rfl, few := by simp [idleQ, zMsg], busy := fun e => absurd rfl e, an := fun _ => by have := h.c0; simpa [idleQ, zMsg] using this, srv := fun e => by cases e }
end Go.Proofs.YtafoepfhepdcoaaGreat
