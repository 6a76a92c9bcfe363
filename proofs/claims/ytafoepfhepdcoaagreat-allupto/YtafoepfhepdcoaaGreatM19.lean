import Derived.Test.YtafoepfhepdcoaaGreatM18
import Derived.Deep.AppendLies
import Derived.Test.YtafoepfhepdcoaaGreatM17
set_option maxRecDepth 100000
set_option maxHeartbeats 8000000
namespace Go.Proofs.YtafoepfhepdcoaaGreat
open Go.RowKit Go.Trawl
def adr (d : ByteArray) : Int := (at8 d 0 : Int) * 16777216 + (at8 d 1 : Int) * 65536 + (at8 d 2 : Int) * 256 + (at8 d 3 : Int)
def addrs (l : List Rc) : List Int := (l.filter fun r => decide (r.data.size = 4)).map fun r => adr r.data
theorem wI0 : (Tryz.prog.info? 54).map (fun i => (i.zero, i.size, i.bytes)) = some (some (.int .u32 0), 1, 4) := by kernel_rfl
theorem uWs : Tryz.prog.underlying 55 = some (.slice 54) := by kernel_rfl
def wV (xs : List Int) : List Value := xs.map fun x => .int .u32 x
structure AL (w wr : World) (xs : List Int) (v : Value) : Prop where
 below : Below w.heap.size w wr
 own : wr.ownsRow 0 54 1 v xs.length (wV xs)
 new : ∀ g, v.ownBlock = some g → w.heap.size ≤ g
theorem addresses_any (w : World) (v : Value) (l : List Rc) (hl : l.length ≤ 65535) (hds : ∀ r ∈ l, r.data.size ≤ 2097152) (hv : Lies w 5 v (l.map Rc.cells)) :
  Calls Tryz.prog 135 #[v] w fun e w' => ∃ (a : Option Addr) (c : Nat), e = .returned (.slice a (addrs l).length c) ∧ Hid (AL w w' (addrs l) (.slice a (addrs l).length c)) := by
 obtain ⟨i0, hi, hz0, hz1, hz2⟩ := info_parts wI0
 obtain ⟨av, cv, rfl, -, hv⟩ := hv
 rw [List.length_map]
 have HV := hide hv
 have HDS := hide hds
 have H0 : Hid (AL w w [] (.slice none 0 0)) := ⟨Below.refl _ _, World.ownsRow_nil _ _ _ _, fun g hg => by cases hg⟩
 clear hv hds
 go_enter Tryz.func135, Tryz.ntmps135
 go_wp2_with fail
 go_loopw [3, 4] (fun u i wr => ∃ (k : Nat) (xs : List Int) (a : Option Addr) (c : Nat), u = .slice a xs.length c ∧ i = .int .i64 k ∧ k ≤ l.length ∧ xs.length ≤ k ∧ Hid (xs = addrs (l.take k)) ∧ Hid (AL w wr xs (.slice a xs.length c))) (fun _ i _ => l.length - (intOf i).toNat)
 case atStart => exact ⟨0, [], none, 0, rfl, rfl, Nat.zero_le _, by simp, rfl, H0.out⟩
 case round =>
  obtain ⟨k, xs, a, c, rfl, rfl, hk, hxl, HX, HO⟩ := hrel
  by_cases hin : k < l.length
  ·obtain ⟨r, hr⟩ : ∃ r, l[k]? = some r := ⟨_, List.getElem?_eq_getElem hin⟩
   rcases HV.out with he | ⟨b, off, rfl, hbl, hc⟩
   ·exfalso; have := congrArg List.length he; simp at this; subst this; simp at hin
   obtain ⟨c0, c1, c2, c3, c4⟩ := Lies.rat hc hr
   have hdz := HDS.out r (List.mem_of_getElem? hr)
   have HTK : Hid (addrs (l.take (k + 1)) = xs ++ addrs [r]) := by
    unfold Hid
    rw [take_snoc l k r hr, HX.out]
    simp [addrs]
   have t1 : ∀ o u, w.cell? ⟨b, o, none⟩ = some u → wr.cell? ⟨b, o, none⟩ = some u := fun o u => cell_of_heap (HO.out.below.block b hbl)
   replace c4 := t1 _ _ c4
   have hwz := HO.out.below.size
   obtain ⟨nm, kd, cl, tt, dt⟩ := r
   dsimp only at c4 hdz
   clear hc hr t1 c0 c1 c2 c3
   by_cases h4 : dt.size = 4
   ·have l0 := at8_lt dt 0
    have l1 := at8_lt dt 1
    have l2 := at8_lt dt 2
    have l3 := at8_lt dt 3
    have i0' : ∀ W, (Instr.index 9 (.string dt) (.int .i64 0)).run Tryz.prog W = .ok (.int .u8 (at8 dt 0)) W := idx dt 0 (by omega)
    have i1' : ∀ W, (Instr.index 9 (.string dt) (.int .i64 1)).run Tryz.prog W = .ok (.int .u8 (at8 dt 1)) W := idx dt 1 (by omega)
    have i2' : ∀ W, (Instr.index 9 (.string dt) (.int .i64 2)).run Tryz.prog W = .ok (.int .u8 (at8 dt 2)) W := idx dt 2 (by omega)
    have i3' : ∀ W, (Instr.index 9 (.string dt) (.int .i64 3)).run Tryz.prog W = .ok (.int .u8 (at8 dt 3)) W := idx dt 3 (by omega)
    have wr32 : ∀ x : Int, 0 ≤ x → x ≤ 4294967295 → IntKind.u32.wrap x = x := fun x h0 h1 => by
     have : IntKind.u32.wrap x = x % 4294967296 := rfl
     rw [this]
     omega
    have a0 := wr32 (at8 dt 0 : Int) (by omega) (by omega)
    have a1 := wr32 (at8 dt 1 : Int) (by omega) (by omega)
    have a2 := wr32 (at8 dt 2 : Int) (by omega) (by omega)
    have a3 := wr32 (at8 dt 3 : Int) (by omega) (by omega)
    have b0 := wr32 ((at8 dt 0 : Int) * 16777216) (by omega) (by omega)
    have b1 := wr32 ((at8 dt 1 : Int) * 65536) (by omega) (by omega)
    have b2 := wr32 ((at8 dt 2 : Int) * 256) (by omega) (by omega)
    have s1 := wr32 ((at8 dt 0 : Int) * 16777216 + (at8 dt 1 : Int) * 65536) (by omega) (by omega)
    have s2 := wr32 ((at8 dt 0 : Int) * 16777216 + (at8 dt 1 : Int) * 65536 + (at8 dt 2 : Int) * 256) (by omega) (by omega)
    have s3 := wr32 ((at8 dt 0 : Int) * 16777216 + (at8 dt 1 : Int) * 65536 + (at8 dt 2 : Int) * 256 + (at8 dt 3 : Int)) (by omega) (by omega)
    clear wr32
    obtain ⟨W0, hW0⟩ : ∃ x : World, x = wr.drew := ⟨_, rfl⟩
    obtain ⟨W1, hW1⟩ : ∃ x : World, x = W0.alloc (.cells #[.int .u32 ((at8 dt 0 : Int) * 16777216 + (at8 dt 1 : Int) * 65536 + (at8 dt 2 : Int) * 256 + (at8 dt 3 : Int))] 54) := ⟨_, rfl⟩
    have hO1 : W1.ownsRow 0 54 1 (.slice a xs.length c) xs.length (wV xs) := by
     rw [hW1, hW0]
     exact ((HO.out.own.kept (grownBy_drew _ none) (by cases (Value.slice a xs.length c).ownBlock <;> simp)).alloc _)
    obtain ⟨v5, W2, hrun, g5⟩ := append_grew (P := Tryz.prog) W1 55 55 54 i0 (.int .u32 0) 1 4 uWs hi hz0 hz1 hz2 rfl (by decide) (.slice a xs.length c) xs.length (wV xs) hO1 ⟨W0.heap.size, 0, none⟩ 1 1 [.int .u32 ((at8 dt 0 : Int) * 16777216 + (at8 dt 1 : Int) * 65536 + (at8 dt 2 : Int) * 256 + (at8 dt 3 : Int))] rfl (by rw [hW1]; exact cells_new W0 #[.int .u32 ((at8 dt 0 : Int) * 16777216 + (at8 dt 1 : Int) * 65536 + (at8 dt 2 : Int) * 256 + (at8 dt 3 : Int))] 54) one_u8 (by unfold maxLen; omega) (by omega)
    obtain ⟨a5, c5, rfl⟩ := os_ g5.own
    obtain ⟨f, hf0, hf1, hf2, hf3, hfp⟩ := Stg.coverE4 W0 W1 W2 W2
    have HU := hide (Stg.pick4_cover4 hf0 hf1 hf2 hf3)
    have HR := hide hrun
    have HW1 := hide hW1
    have HG5 : Hid (Grew 54 1 W1 W2 (.slice a xs.length c) (.slice a5 (xs.length + 1) c5) (xs.length + 1) (wV xs ++ [.int .u32 ((at8 dt 0 : Int) * 16777216 + (at8 dt 1 : Int) * 65536 + (at8 dt 2 : Int) * 256 + (at8 dt 3 : Int))])) := g5
    have HB1 : Hid (Below w.heap.size w W1) := by
     rw [hW1, hW0]
     exact (below_drewN HO.out.below 1).alloc (by show w.heap.size ≤ wr.heap.size; omega) _
    clear hf0 hf1 hf2 hf3 hfp hrun hW1 g5 hO1
    go_wp2_with fail
    refine Stg.wp_region_stage [19, 20] (fun j w' => w' = Stg.pick4 W0 W1 W2 W2 j) (by kernel_rfl) (by kernel_rfl) hW0.symm ?_
    clear hW0
    refine Stg.lex_upto 19 4 (by decide) (by kernel_rfl) HU.out ?_
    simp only [List.take_succ_cons, List.take_zero, List.drop_succ_cons, List.drop_zero]
    repeat (first | go_big_quiet_step (fail) | quiet_step (fail))
    refine wpQuiet_nil ?_
    refine Stg.lex_move 0 (by kernel_rfl) (.slice (some ⟨W0.heap.size, 0, none⟩) 1 1) ?_ ?_
    ·intro w' hw'
     rw [show w' = W0 from hw', show Stg.pick4 W0 W1 W2 W2 (0 + 1) = W1 from rfl]
     clear hw' w'
     go_simp
     exact ⟨rfl, HW1.out.symm⟩
    refine Stg.lex_move 1 (by kernel_rfl) (.slice a5 (xs.length + 1) c5) ?_ ?_
    ·intro w' hw'
     rw [show w' = W1 from hw', show Stg.pick4 W0 W1 W2 W2 (1 + 1) = W2 from rfl]
     clear hw' w'
     exact Stg.upon_append rfl rfl rfl HR.out rfl
    refine Stg.lex_upto 1 4 (by decide) (by kernel_rfl) HU.out ?_
    simp only [List.take_succ_cons, List.take_zero, List.drop_succ_cons, List.drop_zero]
    repeat (first | go_big_quiet_step (fail) | quiet_step (fail))
    refine wpQuiet_nil ?_
    refine Stg.lex_nil ?_
    intro w' hw'
    rw [show w' = W2 from hw']
    clear hw' w'
    clear HU HR HW1
    go_wp2_with fail
    have hlen : (xs ++ [adr dt]).length = xs.length + 1 := by simp
    have hbw := HG5.out.below (B := w.heap.size) HB1.out.size HO.out.new
    refine ⟨⟨k + 1, xs ++ [adr dt], a5, c5, by rw [hlen], by go_num, by omega, by rw [hlen]; omega, ?_, ?_⟩, by simp [intOf]; omega⟩
    ·unfold Hid
     rw [HTK.out]
     simp [addrs, h4]
    ·rw [hlen]
     refine ⟨HB1.out.trans hbw.1, ?_, hbw.2⟩
     have e2 : wV (xs ++ [adr dt]) = wV xs ++ [.int .u32 (adr dt)] := by simp [wV]
     rw [hlen, e2]
     exact HG5.out.own
   ·go_wp2_with fail
    refine ⟨⟨k + 1, xs, a, c, rfl, by go_num, by omega, by omega, ?_, HO.out⟩, by simp [intOf]; omega⟩
    unfold Hid
    rw [HTK.out]
    simp [addrs, h4]
  ·go_wp2_with fail
   go_ret
   have e : xs = addrs l := by rw [HX.out, List.take_of_length_le (by omega)]
   subst e
   exact ⟨_, _, rfl, HO.out⟩
structure Ch where
 name : ByteArray
 kind : Int
 zone : ByteArray
 servers : List Int
 sent : Nat
 names : List ByteArray
structure RSt where
 b : Int
 d : Int
 c : Int
 t : Int
 roots : List Int
 id : Int
 busy : Bool
 asked : Msg
 kept : List Rc
 seen : List ByteArray
 l : List Ch
 spent : Nat
 to : Int
 ans : ByteArray
structure ChV where
 ch : Ch
 vs : Value
 vn : Value
def ChV.cells (c : ChV) : List Value := [.string c.ch.name, .int .u16 c.ch.kind, .string c.ch.zone, c.vs, .int .i64 c.ch.sent, c.vn]
structure RV where
 vR : Value
 vq : Value
 va : Value
 vu : Value
 vx : Value
 vK : Value
 vS : Value
 vL : Value
def refCells (st : RSt) (V : RV) : Array Value :=
 #[.int .i64 st.b, .int .i64 st.d, .int .i64 st.c, .int .i64 st.t, V.vR, .int .u16 st.id, .bool st.busy,
  .int .u16 st.asked.id, .bool st.asked.resp, .int .i64 st.asked.op, .bool st.asked.own, .bool st.asked.cut, .bool st.asked.wanted, .bool st.asked.able, .int .i64 st.asked.code, V.vq, V.va, V.vu, V.vx,
  V.vK, V.vS, V.vL, .int .i64 st.spent, .int .u32 st.to, .string st.ans]
def RV.reads (V : RV) (cs : List ChV) : List Value := V.vR :: V.vq :: V.va :: V.vu :: V.vx :: cs.flatMap fun c => [c.vs, c.vn]
def RV.writes (V : RV) (rb k : Nat) : Prop := k = rb ∨ V.vK.ownBlock = some k ∨ V.vS.ownBlock = some k ∨ V.vL.ownBlock = some k
def RV.owns (V : RV) (cs : List ChV) (rb k : Nat) : Prop := V.writes rb k ∨ ∃ v ∈ V.reads cs, v.ownBlock = some k
def strV (l : List ByteArray) : List Value := l.map .string
def wordsV (l : List Int) : List (List Value) := l.map fun x => [.int .u32 x]
def textsV (l : List ByteArray) : List (List Value) := l.map fun x => [.string x]
def capOk (v : Value) : Prop := ∀ a n c, v = .slice a n c → n ≤ c
structure RefAt (w : World) (rb : Nat) (st : RSt) (V : RV) (cs : List ChV) : Prop where
 box : w.heap[rb]? = some (.cells (refCells st V) 163)
 chs : cs.map ChV.ch = st.l
 roots : Lies w 1 V.vR (wordsV st.roots)
 asked : MsgAt w st.asked V.vq V.va V.vu V.vx
 kept : w.ownsRow 0 69 5 V.vK st.kept.length ((st.kept.map Rc.cells).flatten)
 seen : w.ownsRow 0 9 1 V.vS st.seen.length (strV st.seen)
 row : w.ownsRow 0 169 6 V.vL cs.length ((cs.map ChV.cells).flatten)
 srv : ∀ c ∈ cs, Lies w 1 c.vs (wordsV c.ch.servers) ∧ Lies w 1 c.vn (textsV c.ch.names)
 free : ∀ v ∈ V.reads cs, ∀ k, v.ownBlock = some k → ¬ V.writes rb k
 lt : ∀ k, V.owns cs rb k → k < w.heap.size
 caps : ∀ c ∈ cs, capOk c.vn
structure Fr (w w' : World) (O O' : Nat → Prop) : Prop where
 os : w'.os = w.os
 tape : w'.tape = w.tape
 output : w'.output = w.output
 size : w.heap.size ≤ w'.heap.size
 block : ∀ k, k < w.heap.size → ¬ O k → w'.heap[k]? = w.heap[k]?
 new : ∀ k, O' k → O k ∨ w.heap.size ≤ k
theorem Fr.trans {w w1 w2 : World} {O O1 O2 : Nat → Prop} (h : Fr w w1 O O1) (k : Fr w1 w2 O1 O2) : Fr w w2 O O2 := by
 refine ⟨k.os.trans h.os, k.tape.trans h.tape, k.output.trans h.output, Nat.le_trans h.size k.size, fun i hi ho => ?_, fun i hi => ?_⟩
 ·rw [k.block i (Nat.lt_of_lt_of_le hi h.size) (fun h1 => by
   rcases h.new i h1 with h2 | h2
   ·exact ho h2
   ·omega)]
  exact h.block i hi ho
 ·rcases k.new i hi with h1 | h1
  ·exact h.new i h1
  ·exact .inr (Nat.le_trans h.size h1)
theorem Fr.of_below {w w' : World} (hb : Below w.heap.size w w') (O : Nat → Prop) : Fr w w' O O := ⟨hb.os, hb.tape, hb.output, hb.size, fun k hk _ => hb.block k hk, fun _ h => .inl h⟩
theorem RefAt.reads_keep {w w' : World} {rb : Nat} {st : RSt} {V : RV} {cs : List ChV} (h : RefAt w rb st V cs) (hs : w.heap.size ≤ w'.heap.size) (hk : ∀ k, k < w.heap.size → ¬ V.writes rb k → w'.heap[k]? = w.heap[k]?) :
  Lies w' 1 V.vR (wordsV st.roots) ∧ MsgAt w' st.asked V.vq V.va V.vu V.vx ∧ (∀ c ∈ cs, Lies w' 1 c.vs (wordsV c.ch.servers) ∧ Lies w' 1 c.vn (textsV c.ch.names)) := by
 have key : ∀ v ∈ V.reads cs, ∀ b, v.ownBlock = some b → b < w.heap.size → w'.heap[b]? = w.heap[b]? := fun v hv b hb hlt => hk b hlt (h.free v hv b hb)
 refine ⟨h.roots.keep hs (key _ (by simp [RV.reads])), ⟨h.asked.q.keep hs (key _ (by simp [RV.reads])), h.asked.a.keep hs (key _ (by simp [RV.reads])), h.asked.u.keep hs (key _ (by simp [RV.reads])), h.asked.x.keep hs (key _ (by simp [RV.reads]))⟩, fun c hc => ?_⟩
 have h1 : c.vs ∈ V.reads cs := by
  simp only [RV.reads, List.mem_cons, List.mem_flatMap]
  exact .inr (.inr (.inr (.inr (.inr ⟨c, hc, by simp⟩))))
 have h2 : c.vn ∈ V.reads cs := by
  simp only [RV.reads, List.mem_cons, List.mem_flatMap]
  exact .inr (.inr (.inr (.inr (.inr ⟨c, hc, by simp⟩))))
 exact ⟨(h.srv c hc).1.keep hs (key _ h1), (h.srv c hc).2.keep hs (key _ h2)⟩
theorem RefAt.keep {w w' : World} {rb : Nat} {st : RSt} {V : RV} {cs : List ChV} (h : RefAt w rb st V cs) (hb : Below w.heap.size w w') : RefAt w' rb st V cs := by
 obtain ⟨h1, h2, h3⟩ := h.reads_keep hb.size (fun k hk _ => hb.block k hk)
 exact ⟨(hb.block rb (hl_ h.box)).trans h.box, h.chs, h1, h2, own_below h.kept hb, own_below h.seen hb, own_below h.row hb, h3, h.free, fun k hk => Nat.lt_of_lt_of_le (h.lt k hk) hb.size, h.caps⟩
theorem RefAt.set {w : World} {rb : Nat} {st st' : RSt} {V : RV} {cs : List ChV} (h : RefAt w rb st V cs) (j : Nat) (u : Value) (he : (refCells st V).setIfInBounds j u = refCells st' V)
  (e1 : st'.l = st.l) (e2 : st'.roots = st.roots) (e3 : st'.asked = st.asked) (e4 : st'.kept = st.kept) (e5 : st'.seen = st.seen) : RefAt (w.setCell ⟨rb, j, none⟩ u) rb st' V cs := by
 have hw := gs_ w rb j u
 obtain ⟨h1, h2, h3⟩ := h.reads_keep (w' := w.setCell ⟨rb, j, none⟩ u) hw.size (fun k hk hn => hw.block k hk (fun e => hn (.inl (Option.some.inj e))))
 have hz : (w.setCell ⟨rb, j, none⟩ u).heap.size = w.heap.size := by simp [World.setCell]
 have n1 : V.vK.ownBlock ≠ some rb := ot_ h.kept h.box (by decide)
 have n2 : V.vS.ownBlock ≠ some rb := ot_ h.seen h.box (by decide)
 have n3 : V.vL.ownBlock ≠ some rb := ot_ h.row h.box (by decide)
 exact ⟨by rw [hs_ h.box, he], by rw [e1]; exact h.chs, by rw [e2]; exact h1, by rw [e3]; exact h2, by rw [e4]; exact h.kept.kept hw (.inr n1), by rw [e5]; exact h.seen.kept hw (.inr n2), h.row.kept hw (.inr n3), h3, h.free, fun k hk => by rw [hz]; exact h.lt k hk, h.caps⟩
theorem Fr.set {w : World} {rb : Nat} {V : RV} {cs : List ChV} (j : Nat) (u : Value) : Fr w (w.setCell ⟨rb, j, none⟩ u) (V.owns cs rb) (V.owns cs rb) := by
 have hw := gs_ w rb j u
 exact ⟨hw.os, hw.tape, hw.output, hw.size, fun k hk hn => hw.block k hk (fun e => hn (.inl (.inl (Option.some.inj e)))), fun _ h => .inl h⟩
theorem RefAt.aside {w w' : World} {rb r : Nat} {st : RSt} {V : RV} {cs : List ChV} (h : RefAt w rb st V cs) (hw : w.grownBy w' (some r)) (hr : ¬ V.owns cs rb r) : RefAt w' rb st V cs := by
 obtain ⟨h1, h2, h3⟩ : Lies w' 1 V.vR (wordsV st.roots) ∧ MsgAt w' st.asked V.vq V.va V.vu V.vx ∧ (∀ c ∈ cs, Lies w' 1 c.vs (wordsV c.ch.servers) ∧ Lies w' 1 c.vn (textsV c.ch.names)) := by
  have key : ∀ v ∈ V.reads cs, ∀ b, v.ownBlock = some b → b < w.heap.size → w'.heap[b]? = w.heap[b]? := fun v hv b hb hlt => hw.block b hlt (fun e => hr (.inr ⟨v, hv, by rw [hb, e]⟩))
  have hs := hw.size
  refine ⟨h.roots.keep hs (key _ (by simp [RV.reads])), ⟨h.asked.q.keep hs (key _ (by simp [RV.reads])), h.asked.a.keep hs (key _ (by simp [RV.reads])), h.asked.u.keep hs (key _ (by simp [RV.reads])), h.asked.x.keep hs (key _ (by simp [RV.reads]))⟩, fun c hc => ?_⟩
  have h1 : c.vs ∈ V.reads cs := by
   simp only [RV.reads, List.mem_cons, List.mem_flatMap]
   exact .inr (.inr (.inr (.inr (.inr ⟨c, hc, by simp⟩))))
  have h2 : c.vn ∈ V.reads cs := by
   simp only [RV.reads, List.mem_cons, List.mem_flatMap]
   exact .inr (.inr (.inr (.inr (.inr ⟨c, hc, by simp⟩))))
  exact ⟨(h.srv c hc).1.keep hs (key _ h1), (h.srv c hc).2.keep hs (key _ h2)⟩
 refine ⟨(hw.block rb (hl_ h.box) (fun e => hr (.inl (.inl (Option.some.inj e).symm)))).trans h.box, h.chs, h1, h2, h.kept.kept hw (.inr fun e => hr (.inl (.inr (.inl e)))), h.seen.kept hw (.inr fun e => hr (.inl (.inr (.inr (.inl e))))), h.row.kept hw (.inr fun e => hr (.inl (.inr (.inr (.inr e))))), h3, h.free, fun k hk => Nat.lt_of_lt_of_le (h.lt k hk) hw.size, h.caps⟩
theorem Fr.write {w w1 w2 : World} {O O1 : Nat → Prop} {r : Nat} (h : Fr w w1 O O1) (hw : w1.grownBy w2 (some r)) (hr : w.heap.size ≤ r) : Fr w w2 O O1 :=
 ⟨hw.os.trans h.os, hw.tape.trans h.tape, hw.output.trans h.output, Nat.le_trans h.size hw.size, fun k hk ho => (hw.block k (Nat.lt_of_lt_of_le hk h.size) (fun e => by have := Option.some.inj e; omega)).trans (h.block k hk ho), h.new⟩
theorem RefAt.grow {w w' : World} {rb : Nat} {st : RSt} {V : RV} {cs : List ChV} (h : RefAt w rb st V cs) {v : Value} (hw : w.grownBy w' v.ownBlock) (hr : ∀ k, v.ownBlock = some k → ¬ V.owns cs rb k) : RefAt w' rb st V cs := by
 cases hv : v.ownBlock with
 | none => rw [hv] at hw; exact h.keep (below_grownBy hw)
 | some k => rw [hv] at hw; exact h.aside hw (hr k hv)
theorem Fr.grow {w w1 w2 : World} {O O1 : Nat → Prop} (h : Fr w w1 O O1) {v : Value} (hw : w1.grownBy w2 v.ownBlock) (hr : ∀ k, v.ownBlock = some k → w.heap.size ≤ k) : Fr w w2 O O1 := by
 cases hv : v.ownBlock with
 | none => rw [hv] at hw; exact h.trans (Fr.of_below (below_grownBy hw) _)
 | some k => rw [hv] at hw; exact h.write hw (hr k hv)
theorem Fr.not {w : World} {O O1 : Nat → Prop} (hlt : ∀ k, O k → k < w.heap.size) {r : Nat} (hr : w.heap.size ≤ r) (hO : O1 = O) : ¬ O1 r := fun e => by
 rw [hO] at e
 have := hlt r e
 omega
def withL (V : RV) (v : Value) : RV := { V with vL := v }
theorem rs_ (V : RV) (cs : List ChV) (c : ChV) (v : Value) : v ∈ V.reads (cs ++ [c]) ↔ v ∈ V.reads cs ∨ v = c.vs ∨ v = c.vn := by
 simp only [RV.reads, List.flatMap_append, List.flatMap_cons, List.flatMap_nil, List.mem_cons, List.mem_append, List.append_nil, List.not_mem_nil, or_false]
 constructor
 ·rintro (h | h | h | h | h | h | h | h) <;> simp [h]
 ·rintro ((h | h | h | h | h | h) | h | h) <;> simp [h]
theorem chcells_len (l : List ChV) : ((l.map ChV.cells).flatten).length = l.length * 6 := by
 induction l with
 | nil => rfl
 | cons c l ih => simp only [List.map_cons, List.flatten_cons, List.length_append, ih, ChV.cells, List.length_cons, List.length_nil]; omega
theorem RefAt.push {w w' : World} {rb : Nat} {st : RSt} {V : RV} {cs : List ChV} (h : RefAt w rb st V cs) {v' : Value} {n : Nat} {xs : List Value} (g : Grew 169 6 w w' V.vL v' n xs) (c : ChV) (hn : n = (cs ++ [c]).length) (hxs : xs = ((cs ++ [c]).map ChV.cells).flatten)
  (hs : Lies w' 1 c.vs (wordsV c.ch.servers)) (hm : Lies w' 1 c.vn (textsV c.ch.names)) (hrd : ∀ k, c.vs.ownBlock = some k ∨ c.vn.ownBlock = some k → ∃ v ∈ V.reads cs, v.ownBlock = some k) (hcap : capOk c.vn) :
  RefAt (w'.setCell ⟨rb, 21, none⟩ v') rb { st with l := st.l ++ [c.ch] } (withL V v') (cs ++ [c]) ∧ Fr w (w'.setCell ⟨rb, 21, none⟩ v') (V.owns cs rb) ((withL V v').owns (cs ++ [c]) rb) := by
 have hlt : ∀ k, c.vs.ownBlock = some k ∨ c.vn.ownBlock = some k → k < w.heap.size ∧ ¬ V.writes rb k := fun k hk => by
  obtain ⟨v, hv, e⟩ := hrd k hk
  exact ⟨h.lt k (.inr ⟨v, hv, e⟩), h.free v hv k e⟩
 have hrb : rb < w.heap.size := hl_ h.box
 have hg := g.grown
 have n1 : V.vL.ownBlock ≠ some rb := ot_ h.row h.box (by decide)
 have hbox := (g.keeps hrb n1).1.trans h.box
 have hw := gs_ w' rb 21 v'
 have hz : (w'.setCell ⟨rb, 21, none⟩ v').heap.size = w'.heap.size := by simp [World.setCell]
 have hwr : ∀ k, (withL V v').writes rb k → V.writes rb k ∨ w.heap.size ≤ k := by
  rintro k (e | e | e | e)
  ·exact .inl (.inl e)
  ·exact .inl (.inr (.inl e))
  ·exact .inl (.inr (.inr (.inl e)))
  ·rcases g.loc with e1 | ⟨j, e1, hj⟩
   ·exact .inl (.inr (.inr (.inr (e1 ▸ e))))
   ·have e : v'.ownBlock = some k := e
    rw [e1] at e
    have := Option.some.inj e
    exact .inr (by omega)
 have hkeep : ∀ k, k < w.heap.size → ¬ V.writes rb k → (w'.setCell ⟨rb, 21, none⟩ v').heap[k]? = w.heap[k]? := fun k hk hn => by
  rw [hw.block k (Nat.lt_of_lt_of_le hk hg.size) (fun e => hn (.inl (Option.some.inj e)))]
  exact hg.block k hk (fun e => hn (.inr (.inr (.inr e.symm))))
 have hsz : w.heap.size ≤ (w'.setCell ⟨rb, 21, none⟩ v').heap.size := by rw [hz]; exact hg.size
 obtain ⟨h1, h2, h3⟩ := h.reads_keep hsz hkeep
 have hrl : ∀ v ∈ V.reads cs, ∀ k, v.ownBlock = some k → k < w.heap.size := fun v hv k hk => h.lt k (.inr ⟨v, hv, hk⟩)
 have nK := ot_ h.kept h.box (by decide : 69 ≠ 163)
 have nS := ot_ h.seen h.box (by decide : 9 ≠ 163)
 have neq : ∀ {e : TypeId} {sz : Nat} {v : Value} {m : Nat} {x : List Value}, w.ownsRow 0 e sz v m x → e ≠ 169 → V.vL.ownBlock = none ∨ v.ownBlock ≠ V.vL.ownBlock := by
  intro e sz v m x hv hne
  cases hb : V.vL.ownBlock with
  | none => exact .inl rfl
  | some b =>
   right
   rcases h.row.2 with ⟨e0, _⟩ | ⟨g0, cap, cur, e0, _, hg0, _⟩
   ·rw [e0] at hb; cases hb
   ·rw [e0] at hb
    have : g0 = b := Option.some.inj hb
    subst this
    exact ot_ hv hg0 hne
 have kept' : ∀ {e : TypeId} {sz : Nat} {v : Value} {m : Nat} {x : List Value}, w.ownsRow 0 e sz v m x → e ≠ 169 → v.ownBlock ≠ some rb → (w'.setCell ⟨rb, 21, none⟩ v').ownsRow 0 e sz v m x := by
  intro e sz v m x hv hne hnb
  have : w'.ownsRow 0 e sz v m x := by
   cases hb : V.vL.ownBlock with
   | none => exact hv.kept (row := none) (hb ▸ hg) (by cases v.ownBlock <;> simp)
   | some b =>
    rcases neq hv hne with e0 | e0
    ·rw [hb] at e0; cases e0
    ·exact hv.kept hg (.inr e0)
  exact this.kept hw (.inr hnb)
 have own' := g.own
 rw [hn, hxs] at own'
 have nv : v'.ownBlock ≠ some rb := (g.keeps hrb n1).2.1
 have hsl : ∀ {v : Value} {es : List (List Value)}, Lies w' 1 v es → (∀ k, v.ownBlock = some k → k < w.heap.size ∧ ¬ V.writes rb k) → Lies (w'.setCell ⟨rb, 21, none⟩ v') 1 v es := fun hl hv => hl.keep hw.size (fun b hb hlt' => hw.block b hlt' (fun e => (hv b hb).2 (.inl (Option.some.inj e))))
 refine ⟨⟨?_, ?_, h1, h2, kept' h.kept (by decide) nK, kept' h.seen (by decide) nS, own'.kept hw (.inr nv), ?_, ?_, ?_, ?_⟩, ⟨?_, ?_, ?_, hsz, ?_, ?_⟩⟩
 ·rw [hs_ hbox]; rfl
 ·simp [h.chs]
 ·intro x hx
  rcases List.mem_append.1 hx with hx | hx
  ·exact h3 x hx
  ·simp only [List.mem_singleton] at hx
   subst hx
   exact ⟨hsl hs (fun k hk => hlt k (.inl hk)), hsl hm (fun k hk => hlt k (.inr hk))⟩
 ·intro v hv k hk hwk
  rcases (rs_ (withL V v') cs c v).1 hv with hv | rfl | rfl
  ·rcases hwr k hwk with h4 | h4
   ·exact h.free v hv k hk h4
   ·have := hrl v hv k hk; omega
  ·rcases hwr k hwk with h4 | h4
   ·exact (hlt k (.inl hk)).2 h4
   ·have := (hlt k (.inl hk)).1; omega
  ·rcases hwr k hwk with h4 | h4
   ·exact (hlt k (.inr hk)).2 h4
   ·have := (hlt k (.inr hk)).1; omega
 ·rintro k (hk | ⟨v, hv, hk⟩)
  ·rcases hk with e | e | e | e
   ·subst e; exact Nat.lt_of_lt_of_le hrb hsz
   ·exact Nat.lt_of_lt_of_le (h.lt k (.inl (.inr (.inl e)))) hsz
   ·exact Nat.lt_of_lt_of_le (h.lt k (.inl (.inr (.inr (.inl e))))) hsz
   ·rw [hz]
    rcases own'.2 with ⟨e0, _⟩ | ⟨g0, cap, cur, e0, _, hg0, _⟩
    ·have e : v'.ownBlock = some k := e
     rw [e0] at e; cases e
    ·have e : v'.ownBlock = some k := e
     rw [e0] at e
     have : g0 = k := Option.some.inj e
     subst this
     exact hl_ hg0
  ·rcases (rs_ (withL V v') cs c v).1 hv with hv | rfl | rfl
   ·exact Nat.lt_of_lt_of_le (hrl v hv k hk) hsz
   ·exact Nat.lt_of_lt_of_le (hlt k (.inl hk)).1 hsz
   ·exact Nat.lt_of_lt_of_le (hlt k (.inr hk)).1 hsz
 ·intro x hx
  rcases List.mem_append.1 hx with hx | hx
  ·exact h.caps x hx
  ·simp only [List.mem_singleton] at hx
   subst hx
   exact hcap
 ·exact hw.os.trans hg.os
 ·exact hw.tape.trans hg.tape
 ·exact hw.output.trans hg.output
 ·exact fun k hk ho => hkeep k hk (fun e => ho (.inl e))
 ·rintro k (hk | ⟨v, hv, hk⟩)
  ·rcases hwr k hk with h4 | h4
   ·exact .inl (.inl h4)
   ·exact .inr h4
  ·rcases (rs_ (withL V v') cs c v).1 hv with hv | rfl | rfl
   ·exact .inl (.inr ⟨v, hv, hk⟩)
   ·exact .inl (.inr (hrd k (.inl hk)))
   ·exact .inl (.inr (hrd k (.inr hk)))
theorem Fr.step {w0 w w' : World} {O0 O O' : Nat → Prop} (h : Fr w0 w O0 O) (ho : w'.os = w.os) (ht : w'.tape = w.tape) (hp : w'.output = w.output) (hs : w.heap.size ≤ w'.heap.size) (hb : ∀ k, k < w.heap.size → ¬ O k → w'.heap[k]? = w.heap[k]?) (hO : ∀ k, O' k → O k ∨ w0.heap.size ≤ k) : Fr w0 w' O0 O' := by
 refine ⟨ho.trans h.os, ht.trans h.tape, hp.trans h.output, Nat.le_trans h.size hs, fun k hk hn => ?_, fun k hk => ?_⟩
 ·rw [hb k (Nat.lt_of_lt_of_le hk h.size) (fun e => by
   rcases h.new k e with e | e
   ·exact hn e
   ·omega)]
  exact h.block k hk hn
 ·rcases hO k hk with e | e
  ·exact h.new k e
  ·exact .inr e
theorem row_at {w : World} {rb : Nat} {st : RSt} {V : RV} {cs : List ChV} {c : ChV} (h : RefAt w rb st V (cs ++ [c])) : ∃ g cap cur, V.vL = .slice (some ⟨g, 0, none⟩) (cs.length + 1) cap ∧ w.heap[g]? = some (.cells cur 169) ∧ cs.length + 1 ≤ cap ∧ cap ≤ maxLen ∧ cur.size = cap * 6 ∧ cur.toList.take ((cs.length + 1) * 6) = ((cs ++ [c]).map ChV.cells).flatten := by
 rcases h.row.2 with ⟨_, e⟩ | ⟨g, cap, cur, e, _, hg, h1, h2, h3, h4⟩
 ·simp at e
 ·simp only [List.length_append, List.length_cons, List.length_nil, Nat.zero_add] at e h1 h4
  exact ⟨g, cap, cur, e, hg, h1, h2, h3, h4⟩
theorem flat_snoc (cs : List ChV) (c : ChV) : ((cs ++ [c]).map ChV.cells).flatten = (cs.map ChV.cells).flatten ++ c.cells := by simp
theorem RefAt.pop {w : World} {rb : Nat} {st : RSt} {V : RV} {cs : List ChV} {c : ChV} (h : RefAt w rb st V (cs ++ [c])) {g cap : Nat} (hv : V.vL = .slice (some ⟨g, 0, none⟩) (cs.length + 1) cap) :
  RefAt (w.setCell ⟨rb, 21, none⟩ (.slice (some ⟨g, 0, none⟩) cs.length cap)) rb { st with l := cs.map ChV.ch } (withL V (.slice (some ⟨g, 0, none⟩) cs.length cap)) cs := by
 have hw := gs_ w rb 21 (.slice (some ⟨g, 0, none⟩) cs.length cap)
 obtain ⟨g', cap', cur, e, hg, k1, k2, k3, k4⟩ := row_at h
 rw [hv] at e
 cases e
 have hrb := hl_ h.box
 have hgr : g ≠ rb := fun e => by
  subst e
  rw [h.box] at hg
  cases hg
 have hwr : ∀ k, (withL V (.slice (some ⟨g, 0, none⟩) cs.length cap)).writes rb k → V.writes rb k := by
  rintro k (e | e | e | e)
  ·exact .inl e
  ·exact .inr (.inl e)
  ·exact .inr (.inr (.inl e))
  ·exact .inr (.inr (.inr (by rw [hv]; exact e)))
 obtain ⟨h1, h2, h3⟩ := h.reads_keep (w' := w.setCell ⟨rb, 21, none⟩ (.slice (some ⟨g, 0, none⟩) cs.length cap)) hw.size (fun k hk hn => hw.block k hk (fun e => hn (.inl (Option.some.inj e))))
 have n1 : V.vK.ownBlock ≠ some rb := ot_ h.kept h.box (by decide)
 have n2 : V.vS.ownBlock ≠ some rb := ot_ h.seen h.box (by decide)
 have hz : (w.setCell ⟨rb, 21, none⟩ (.slice (some ⟨g, 0, none⟩) cs.length cap)).heap.size = w.heap.size := by simp [World.setCell]
 refine ⟨?_, rfl, h1, h2, h.kept.kept hw (.inr n1), h.seen.kept hw (.inr n2), ⟨?_, .inr ⟨g, cap, cur, rfl, Nat.zero_le _, (hw.block g (hl_ hg) (fun e => hgr (Option.some.inj e))).trans hg, by omega, k2, k3, ?_⟩⟩, fun x hx => h3 x (List.mem_append_left _ hx), ?_, ?_, fun x hx => h.caps x (List.mem_append_left _ hx)⟩
 ·rw [hs_ h.box]
  rfl
 ·exact chcells_len cs
 ·rw [flat_snoc] at k4
  have := congrArg (List.take (cs.length * 6)) k4
  rw [List.take_take, Nat.min_eq_left (by omega), List.take_left' (chcells_len cs)] at this
  exact this
 ·intro v hv' k hk hwk
  exact h.free v ((rs_ V cs c v).2 (.inl hv')) k hk (hwr k hwk)
 ·rintro k (hk | ⟨v, hv', hk⟩)
  ·rw [hz]; exact h.lt k (.inl (hwr k hk))
  ·rw [hz]; exact h.lt k (.inr ⟨v, (rs_ V cs c v).2 (.inl hv'), hk⟩)
theorem Fr.pop {w0 w : World} {O0 : Nat → Prop} {rb : Nat} {V : RV} {cs : List ChV} {c : ChV} (h : Fr w0 w O0 (V.owns (cs ++ [c]) rb)) {g cap : Nat} (hv : V.vL = .slice (some ⟨g, 0, none⟩) (cs.length + 1) cap) :
  Fr w0 (w.setCell ⟨rb, 21, none⟩ (.slice (some ⟨g, 0, none⟩) cs.length cap)) O0 ((withL V (.slice (some ⟨g, 0, none⟩) cs.length cap)).owns cs rb) := by
 have hw := gs_ w rb 21 (.slice (some ⟨g, 0, none⟩) cs.length cap)
 refine h.step hw.os hw.tape hw.output hw.size (fun k hk hn => hw.block k hk (fun e => hn (.inl (.inl (Option.some.inj e))))) ?_
 rintro k (hk | ⟨v, hv', hk⟩)
 ·refine .inl (.inl ?_)
  rcases hk with e | e | e | e
  ·exact .inl e
  ·exact .inr (.inl e)
  ·exact .inr (.inr (.inl e))
  ·exact .inr (.inr (.inr (by rw [hv]; exact e)))
 ·exact .inl (.inr ⟨v, (rs_ V cs c v).2 (.inl hv'), hk⟩)
theorem RefAt.top {w : World} {rb : Nat} {st : RSt} {V : RV} {cs : List ChV} {c c' : ChV} (h : RefAt w rb st V (cs ++ [c])) {g cap : Nat} (hv : V.vL = .slice (some ⟨g, 0, none⟩) (cs.length + 1) cap) (j : Nat) (u : Value) (hj : j < 6) (he : c.cells.set j u = c'.cells)
  (hs : Lies w 1 c'.vs (wordsV c'.ch.servers)) (hm : Lies w 1 c'.vn (textsV c'.ch.names)) (hrd : ∀ k, c'.vs.ownBlock = some k ∨ c'.vn.ownBlock = some k → k < w.heap.size ∧ ¬ V.writes rb k) (hcap : capOk c'.vn) :
  RefAt (w.setCell ⟨g, cs.length * 6 + j, none⟩ u) rb { st with l := cs.map ChV.ch ++ [c'.ch] } V (cs ++ [c']) := by
 have hw := gs_ w g (cs.length * 6 + j) u
 obtain ⟨g', cap', cur, e, hg, k1, k2, k3, k4⟩ := row_at h
 rw [hv] at e
 cases e
 have hgr : g ≠ rb := fun e => by
  subst e
  rw [h.box] at hg
  cases hg
 have hgw : V.writes rb g := .inr (.inr (.inr (by rw [hv]; rfl)))
 obtain ⟨h1, h2, h3⟩ := h.reads_keep (w' := w.setCell ⟨g, cs.length * 6 + j, none⟩ u) hw.size (fun k hk hn => hw.block k hk (fun e => hn (by have := Option.some.inj e; subst this; exact hgw)))
 have hz : (w.setCell ⟨g, cs.length * 6 + j, none⟩ u).heap.size = w.heap.size := by simp [World.setCell]
 have n1 : V.vK.ownBlock ≠ some g := ot_ h.kept hg (by decide)
 have n2 : V.vS.ownBlock ≠ some g := ot_ h.seen hg (by decide)
 have hsl : ∀ {v : Value} {es : List (List Value)}, Lies w 1 v es → (∀ k, v.ownBlock = some k → k < w.heap.size ∧ ¬ V.writes rb k) → Lies (w.setCell ⟨g, cs.length * 6 + j, none⟩ u) 1 v es := fun hl hv => hl.keep hw.size (fun b hb hlt' => hw.block b hlt' (fun e => (hv b hb).2 (by have := Option.some.inj e; subst this; exact hgw)))
 refine ⟨?_, by simp, h1, h2, h.kept.kept hw (.inr n1), h.seen.kept hw (.inr n2), ⟨?_, .inr ⟨g, cap, cur.setIfInBounds (cs.length * 6 + j) u, by simpa using hv, Nat.zero_le _, hs_ hg u, by simp; omega, k2, by simp [k3], ?_⟩⟩, ?_, ?_, ?_, ?_⟩
 ·exact (hw.block rb (hl_ h.box) (fun e => hgr (Option.some.inj e).symm)).trans h.box
 ·exact chcells_len _
 ·have : (cs ++ [c']).length * 6 = (cs.length + 1) * 6 := by simp
  rw [this, Array.toList_setIfInBounds, List.take_set, k4, flat_snoc, flat_snoc, List.set_append_right _ _ (by rw [chcells_len]; omega), chcells_len]
  rw [show cs.length * 6 + j - cs.length * 6 = j by omega, he]
 ·intro x hx
  rcases List.mem_append.1 hx with hx | hx
  ·exact h3 x (List.mem_append_left _ hx)
  ·simp only [List.mem_singleton] at hx
   subst hx
   exact ⟨hsl hs (fun k hk => hrd k (.inl hk)), hsl hm (fun k hk => hrd k (.inr hk))⟩
 ·intro v hv' k hk hwk
  rcases (rs_ V cs c' v).1 hv' with hv' | rfl | rfl
  ·exact h.free v ((rs_ V cs c v).2 (.inl hv')) k hk hwk
  ·exact (hrd k (.inl hk)).2 hwk
  ·exact (hrd k (.inr hk)).2 hwk
 ·rintro k (hk | ⟨v, hv', hk⟩)
  ·rw [hz]; exact h.lt k (.inl hk)
  ·rw [hz]
   rcases (rs_ V cs c' v).1 hv' with hv' | rfl | rfl
   ·exact h.lt k (.inr ⟨v, (rs_ V cs c v).2 (.inl hv'), hk⟩)
   ·exact (hrd k (.inl hk)).1
   ·exact (hrd k (.inr hk)).1
 ·intro x hx
  rcases List.mem_append.1 hx with hx | hx
  ·exact h.caps x (List.mem_append_left _ hx)
  ·simp only [List.mem_singleton] at hx
   subst hx
   exact hcap
theorem Fr.top {w0 w : World} {O0 : Nat → Prop} {rb : Nat} {V : RV} {cs : List ChV} {c c' : ChV} (h : Fr w0 w O0 (V.owns (cs ++ [c]) rb)) {g cap : Nat} (hv : V.vL = .slice (some ⟨g, 0, none⟩) (cs.length + 1) cap) (j : Nat) (u : Value)
  (hO : ∀ k, c'.vs.ownBlock = some k ∨ c'.vn.ownBlock = some k → V.owns (cs ++ [c]) rb k ∨ w0.heap.size ≤ k) : Fr w0 (w.setCell ⟨g, cs.length * 6 + j, none⟩ u) O0 (V.owns (cs ++ [c']) rb) := by
 have hw := gs_ w g (cs.length * 6 + j) u
 refine h.step hw.os hw.tape hw.output hw.size (fun k hk hn => hw.block k hk (fun e => hn (.inl (.inr (.inr (.inr (by have := Option.some.inj e; subst this; rw [hv]; rfl))))))) ?_
 rintro k (hk | ⟨v, hv', hk⟩)
 ·exact .inl (.inl hk)
 ·rcases (rs_ V cs c' v).1 hv' with hv' | rfl | rfl
  ·exact .inl (.inr ⟨v, (rs_ V cs c v).2 (.inl hv'), hk⟩)
  ·exact hO k (.inl hk)
  ·exact hO k (.inr hk)
end Go.Proofs.YtafoepfhepdcoaaGreat
