import Derived.Test.YtafoepfhepdcoaaGreatM29
import Derived.Test.YtafoepfhepdcoaaGreatM18
import Derived.Test.YtafoepfhepdcoaaGreatM2
set_option maxRecDepth 100000
set_option maxHeartbeats 8000000
namespace Go.Proofs.YtafoepfhepdcoaaGreat
open Go.RowKit Go.Trawl
theorem or24 {a b : Nat} (ha : a < 256) (hb : b < 256) : bits BinOp.or IntKind.u32 ((a : Int) * 16777216) ((b : Int) * 65536) = (a : Int) * 16777216 + (b : Int) * 65536 := by
 have h := u32_or_nat (a * 16777216) (b * 65536) (by omega) (by omega)
 have e : a * 16777216 ||| b * 65536 = a * 16777216 + b * 65536 := by
  have := Nat.shiftLeft_add_eq_or_of_lt (b := b * 65536) (i := 24) (by omega) a
  rw [Nat.shiftLeft_eq] at this
  exact this.symm
 rw [e] at h
 exact h.trans (by omega)
theorem or16 {a b c : Nat} (ha : a < 256) (hb : b < 256) (hc : c < 256) : bits BinOp.or IntKind.u32 ((a : Int) * 16777216 + (b : Int) * 65536) ((c : Int) * 256) = (a : Int) * 16777216 + (b : Int) * 65536 + (c : Int) * 256 := by
 have h := u32_or_nat (a * 16777216 + b * 65536) (c * 256) (by omega) (by omega)
 have e : a * 16777216 + b * 65536 ||| c * 256 = a * 16777216 + b * 65536 + c * 256 := by
  have := Nat.shiftLeft_add_eq_or_of_lt (b := c * 256) (i := 16) (by omega) (a * 256 + b)
  rw [Nat.shiftLeft_eq, show (2 : Nat) ^ 16 = 65536 from rfl] at this
  have e2 : a * 16777216 + b * 65536 = (a * 256 + b) * 65536 := by clear this h; omega
  rw [e2]
  exact this.symm
 rw [e] at h
 exact h.trans (by omega)
theorem or8 {a b c d : Nat} (ha : a < 256) (hb : b < 256) (hc : c < 256) (hd : d < 256) : bits BinOp.or IntKind.u32 ((a : Int) * 16777216 + (b : Int) * 65536 + (c : Int) * 256) (d : Int) = (a : Int) * 16777216 + (b : Int) * 65536 + (c : Int) * 256 + (d : Int) := by
 have h := u32_or_nat (a * 16777216 + b * 65536 + c * 256) d (by omega) (by omega)
 have e : a * 16777216 + b * 65536 + c * 256 ||| d = a * 16777216 + b * 65536 + c * 256 + d := by
  have := Nat.shiftLeft_add_eq_or_of_lt (b := d) (i := 8) (by omega) (a * 65536 + b * 256 + c)
  rw [Nat.shiftLeft_eq, show (2 : Nat) ^ 8 = 256 from rfl] at this
  have e2 : a * 16777216 + b * 65536 + c * 256 = (a * 65536 + b * 256 + c) * 256 := by clear this h; omega
  rw [e2]
  exact this.symm
 rw [e] at h
 exact h.trans (by omega)
theorem q_addresses (w : World) (v : Value) (l : List Rc) (hl : l.length ≤ 65535) (hds : ∀ r ∈ l, r.data.size ≤ 2097152) (hv : Lies w 5 v (l.map Rc.cells)) :
  Calls Tryz.prog 158 #[v] w fun e w' => ∃ (a : Option Addr) (c : Nat), e = .returned (.slice a (addrs l).length c) ∧ Hid (AL w w' (addrs l) (.slice a (addrs l).length c)) := by
 obtain ⟨i0, hi, hz0, hz1, hz2⟩ := info_parts wI0
 obtain ⟨av, cv, rfl, -, hv⟩ := hv
 rw [List.length_map]
 have HV := hide hv
 have HDS := hide hds
 have H0 : Hid (AL w w [] (.slice none 0 0)) := ⟨Below.refl _ _, World.ownsRow_nil _ _ _ _, fun g hg => by cases hg⟩
 clear hv hds
 go_enter Tryz.func158, Tryz.ntmps158
 go_wp2_with fail
 go_loopw [3, 9] (fun u i wr => ∃ (k : Nat) (xs : List Int) (a : Option Addr) (c : Nat), u = .slice a xs.length c ∧ i = .int .i64 k ∧ k ≤ l.length ∧ xs.length ≤ k ∧ Hid (xs = addrs (l.take k)) ∧ Hid (AL w wr xs (.slice a xs.length c))) (fun _ i _ => l.length - (intOf i).toNat)
 case atStart => exact ⟨0, [], none, 0, rfl, rfl, Nat.zero_le _, by simp, rfl, H0.out⟩
 case round =>
  obtain ⟨k, xs, a, c, rfl, rfl, hk, hxl, HX, HO⟩ := hrel
  by_cases hin : k < l.length
  ·obtain ⟨r, hr⟩ : ∃ r, l[k]? = some r := ⟨_, List.getElem?_eq_getElem hin⟩
   rcases HV.out with he | ⟨b, off, rfl, hbl, hc⟩
   ·exfalso; have := congrArg List.length he; simp at this; subst this; simp at hin
   obtain ⟨c0, c1, c2, c3, c4⟩ := Lies.rat hc hr
   have hdz := HDS.out r (List.mem_of_getElem? hr)
   have HTK : Hid (addrs (l.take (k + 1)) = xs ++ addrs [r]) := by
    unfold Hid
    rw [take_snoc l k r hr, HX.out]
    simp [addrs]
   have t1 : ∀ o u, w.cell? ⟨b, o, none⟩ = some u → wr.cell? ⟨b, o, none⟩ = some u := fun o u => cell_of_heap (HO.out.below.block b hbl)
   replace c0 := t1 _ _ c0
   replace c1 := t1 _ _ c1
   replace c2 := t1 _ _ c2
   replace c3 := t1 _ _ c3
   replace c4 := t1 _ _ c4
   have hwz := HO.out.below.size
   obtain ⟨nm, kd, cl, tt, dt⟩ := r
   dsimp only at c0 c1 c2 c3 c4 hdz
   clear hc hr t1
   have HOa : Hid (AL w (wr.alloc (.cells #[.string nm, .int .u16 kd, .int .u16 cl, .int .u32 tt, .string dt] 69)) xs (.slice a xs.length c)) := ⟨HO.out.below.alloc hwz _, HO.out.own.alloc _, HO.out.new⟩
   by_cases h4 : dt.size = 4
   ·have l0 := at8_lt dt 0
    have l1 := at8_lt dt 1
    have l2 := at8_lt dt 2
    have l3 := at8_lt dt 3
    have i0' : ∀ W, (Instr.index 9 (.string dt) (.int .i64 0)).run Tryz.prog W = .ok (.int .u8 (at8 dt 0)) W := idx dt 0 (by omega)
    have i1' : ∀ W, (Instr.index 9 (.string dt) (.int .i64 1)).run Tryz.prog W = .ok (.int .u8 (at8 dt 1)) W := idx dt 1 (by omega)
    have i2' : ∀ W, (Instr.index 9 (.string dt) (.int .i64 2)).run Tryz.prog W = .ok (.int .u8 (at8 dt 2)) W := idx dt 2 (by omega)
    have i3' : ∀ W, (Instr.index 9 (.string dt) (.int .i64 3)).run Tryz.prog W = .ok (.int .u8 (at8 dt 3)) W := idx dt 3 (by omega)
    have wr32 : ∀ x : Int, 0 ≤ x → x ≤ 4294967295 → IntKind.u32.wrap x = x := fun x h0 h1 => by
     have : IntKind.u32.wrap x = x % 4294967296 := rfl
     rw [this]
     omega
    have a0 := wr32 (at8 dt 0 : Int) (by omega) (by omega)
    have a1 := wr32 (at8 dt 1 : Int) (by omega) (by omega)
    have a2 := wr32 (at8 dt 2 : Int) (by omega) (by omega)
    have a3 := wr32 (at8 dt 3 : Int) (by omega) (by omega)
    have b0 := wr32 ((at8 dt 0 : Int) * 16777216) (by omega) (by omega)
    have b1 := wr32 ((at8 dt 1 : Int) * 65536) (by omega) (by omega)
    have b2 := wr32 ((at8 dt 2 : Int) * 256) (by omega) (by omega)
    have s1 := or24 l0 l1
    have s2 := or16 l0 l1 l2
    have s3 := or8 l0 l1 l2 l3
    clear wr32
    obtain ⟨W0, hW0⟩ : ∃ x : World, x = (wr.alloc (.cells #[.string nm, .int .u16 kd, .int .u16 cl, .int .u32 tt, .string dt] 69)).drew := ⟨_, rfl⟩
    obtain ⟨W1, hW1⟩ : ∃ x : World, x = W0.alloc (.cells #[.int .u32 ((at8 dt 0 : Int) * 16777216 + (at8 dt 1 : Int) * 65536 + (at8 dt 2 : Int) * 256 + (at8 dt 3 : Int))] 54) := ⟨_, rfl⟩
    have hO1 : W1.ownsRow 0 54 1 (.slice a xs.length c) xs.length (wV xs) := by
     rw [hW1, hW0]
     exact ((HOa.out.own.kept (grownBy_drew _ none) (by cases (Value.slice a xs.length c).ownBlock <;> simp)).alloc _)
    obtain ⟨v5, W2, hrun, g5⟩ := append_grew (P := Tryz.prog) W1 55 55 54 i0 (.int .u32 0) 1 4 uWs hi hz0 hz1 hz2 rfl (by decide) (.slice a xs.length c) xs.length (wV xs) hO1 ⟨W0.heap.size, 0, none⟩ 1 1 [.int .u32 ((at8 dt 0 : Int) * 16777216 + (at8 dt 1 : Int) * 65536 + (at8 dt 2 : Int) * 256 + (at8 dt 3 : Int))] rfl (by rw [hW1]; exact cells_new W0 #[.int .u32 ((at8 dt 0 : Int) * 16777216 + (at8 dt 1 : Int) * 65536 + (at8 dt 2 : Int) * 256 + (at8 dt 3 : Int))] 54) one_u8 (by unfold maxLen; omega) (by omega)
    obtain ⟨a5, c5, rfl⟩ := os_ g5.own
    obtain ⟨f, hf0, hf1, hf2, hf3, hfp⟩ := Stg.coverE4 W0 W1 W2 W2
    have HU := hide (Stg.pick4_cover4 hf0 hf1 hf2 hf3)
    have HR := hide hrun
    have HW1 := hide hW1
    have HG5 : Hid (Grew 54 1 W1 W2 (.slice a xs.length c) (.slice a5 (xs.length + 1) c5) (xs.length + 1) (wV xs ++ [.int .u32 ((at8 dt 0 : Int) * 16777216 + (at8 dt 1 : Int) * 65536 + (at8 dt 2 : Int) * 256 + (at8 dt 3 : Int))])) := g5
    have HB1 : Hid (Below w.heap.size w W1) := by
     rw [hW1, hW0]
     exact (below_drewN HOa.out.below 1).alloc HOa.out.below.size _
    clear hf0 hf1 hf2 hf3 hfp hrun hW1 g5 hO1
    go_wp2_with fail
    refine Stg.wp_region_stage [19, 20] (fun j w' => w' = Stg.pick4 W0 W1 W2 W2 j) (by kernel_rfl) (by kernel_rfl) hW0.symm ?_
    clear hW0
    refine Stg.lex_upto 19 4 (by decide) (by kernel_rfl) HU.out ?_
    simp only [List.take_succ_cons, List.take_zero, List.drop_succ_cons, List.drop_zero]
    repeat (first | go_big_quiet_step (fail) | quiet_step (fail))
    refine wpQuiet_nil ?_
    refine Stg.lex_move 0 (by kernel_rfl) (.slice (some ⟨W0.heap.size, 0, none⟩) 1 1) ?_ ?_
    ·intro w' hw'
     rw [show w' = W0 from hw', show Stg.pick4 W0 W1 W2 W2 (0 + 1) = W1 from rfl]
     clear hw' w'
     go_simp
     exact ⟨rfl, HW1.out.symm⟩
    refine Stg.lex_move 1 (by kernel_rfl) (.slice a5 (xs.length + 1) c5) ?_ ?_
    ·intro w' hw'
     rw [show w' = W1 from hw', show Stg.pick4 W0 W1 W2 W2 (1 + 1) = W2 from rfl]
     clear hw' w'
     exact Stg.upon_append rfl rfl rfl HR.out rfl
    refine Stg.lex_upto 1 4 (by decide) (by kernel_rfl) HU.out ?_
    simp only [List.take_succ_cons, List.take_zero, List.drop_succ_cons, List.drop_zero]
    repeat (first | go_big_quiet_step (fail) | quiet_step (fail))
    refine wpQuiet_nil ?_
    refine Stg.lex_nil ?_
    intro w' hw'
    rw [show w' = W2 from hw']
    clear hw' w'
    clear HU HR HW1
    go_wp2_with fail
    have hlen : (xs ++ [adr dt]).length = xs.length + 1 := by simp
    have hbw := HG5.out.below (B := w.heap.size) HB1.out.size HO.out.new
    refine ⟨⟨k + 1, xs ++ [adr dt], a5, c5, by rw [hlen], by go_num, by omega, by rw [hlen]; omega, ?_, ?_⟩, by simp [intOf]; omega⟩
    ·unfold Hid
     rw [HTK.out]
     simp [addrs, h4]
    ·rw [hlen]
     refine ⟨HB1.out.trans hbw.1, ?_, hbw.2⟩
     have e2 : wV (xs ++ [adr dt]) = wV xs ++ [.int .u32 (adr dt)] := by simp [wV]
     rw [hlen, e2]
     exact HG5.out.own
   ·go_wp2_with fail
    refine ⟨⟨k + 1, xs, a, c, rfl, by go_num, by omega, by omega, ?_, HOa.out⟩, by simp [intOf]; omega⟩
    unfold Hid
    rw [HTK.out]
    simp [addrs, h4]
  ·go_wp2_with fail
   go_ret
   have e : xs = addrs l := by rw [HX.out, List.take_of_length_le (by omega)]
   subst e
   exact ⟨_, _, rfl, HO.out⟩
attribute [local go_sem] mf
theorem QAt.endUp {w : World} {sb : Nat} {s : QSt} {V : QV} {c a : QC} {r : List QC} (h : QAt w sb s V (c :: a :: r)) (v : Value) (xs : List Int) (hv : Lies w 1 v (wordsV xs)) (hvl : ∀ k, v.ownBlock = some k → k < w.heap.size) (hk : ∀ k, v.ownBlock = some k → ¬ V.owns (c :: a :: r) sb k) :
  QAt (((w.setCell ⟨a.blk, 6, none⟩ v).setCell ⟨sb, 7, none⟩ (.pointer (some ⟨a.blk, 0, none⟩))).setCell ⟨sb, 6, none⟩ (nextV sb .seek)) sb { s with ph := .seek, ch := { a.ch with servers := xs } :: r.map QC.ch } V (⟨{ a.ch with servers := xs }, a.blk, v, a.vn⟩ :: r) := by
 have hn := h.chain.nsb h.box a (by simp)
 have hax := h.chain.2.2.2.2
 have hal := hl_ hax.1
 obtain ⟨p1, p2, p3, p4⟩ := h.pop
 have h1 := h.link p1 p2 p3 (fun k e => h.lt k (p4 k e))
 have hsz1 : (w.setCell ⟨sb, 7, none⟩ (chPtr (a :: r))).heap.size = w.heap.size := by simp [World.setCell]
 have hg : (w.setCell ⟨sb, 7, none⟩ (chPtr (a :: r))).grownBy ((w.setCell ⟨a.blk, 6, none⟩ v).setCell ⟨sb, 7, none⟩ (.pointer (some ⟨a.blk, 0, none⟩))) (some a.blk) := by
  have g1 := gs_ w sb 7 (chPtr (a :: r))
  have g2 := gs_ w a.blk 6 v
  have g3 := gs_ (w.setCell ⟨a.blk, 6, none⟩ v) sb 7 (.pointer (some ⟨a.blk, 0, none⟩))
  refine ⟨(g3.os.trans g2.os).trans g1.os.symm, (g3.tape.trans g2.tape).trans g1.tape.symm, (g3.output.trans g2.output).trans g1.output.symm, by simp [World.setCell], fun k hk hne => ?_⟩
  rw [hsz1] at hk
  have hne' : k ≠ a.blk := fun e => hne (by rw [e])
  by_cases e : k = sb
  ·subst e
   have b2 := (Below.heap_setCell w ⟨a.blk, 6, none⟩ v k hne').trans h.box
   rw [hs_ b2, hs_ h.box]
   rfl
  ·rw [Below.heap_setCell _ ⟨sb, 7, none⟩ _ k e, Below.heap_setCell _ ⟨a.blk, 6, none⟩ _ k hne', Below.heap_setCell _ ⟨sb, 7, none⟩ _ k e]
 have hx : ((w.setCell ⟨a.blk, 6, none⟩ v).setCell ⟨sb, 7, none⟩ (.pointer (some ⟨a.blk, 0, none⟩))).heap[a.blk]? = some (.cells (qcCells ⟨{ a.ch with servers := xs }, a.blk, v, a.vn⟩ r) 192) := by
  rw [Below.heap_setCell _ ⟨sb, 7, none⟩ _ a.blk hn, hs_ hax.1]
  rfl
 have hv1 := hv.keep (w' := w.setCell ⟨sb, 7, none⟩ (chPtr (a :: r))) (by rw [hsz1]; exact Nat.le_refl _) (fun b hb _ => Below.heap_setCell _ _ _ _ (fun e => hk b hb (.inl (.inl e))))
 have h2 := h1.head (c' := ⟨{ a.ch with servers := xs }, a.blk, v, a.vn⟩) rfl hg hx hv1 h1.chain.2.2.1 h1.chain.2.2.2.1 (fun k e => by
  rcases e with e | e
  ·exact ⟨by rw [hsz1]; exact hvl k e, fun e2 => hk k e (p4 k (.inl e2))⟩
  ·have hm : a.vn ∈ V.reads (a :: r) := mr_.2 (.inr (.inr ⟨a, by simp, .inr rfl⟩))
   exact ⟨h1.lt k (.inr ⟨_, hm, e⟩), h1.free _ hm k e⟩)
 exact h2.set 6 (nextV sb .seek) rfl rfl rfl rfl rfl
theorem words_flatQ (l : List Int) : (wordsV l).flatten = wV l := by
 induction l with
 | nil => rfl
 | cons x l ih => simp [wordsV, wV] at ih ⊢; exact ih
theorem AL.lies {w wr : World} {xs : List Int} {v : Value} (h : AL w wr xs v) : Lies wr 1 v (wordsV xs) := own_lies (by
 have := h.own
 rw [← words_flatQ] at this
 exact this) (fun x hx => by
  obtain ⟨y, _, rfl⟩ := List.mem_map.1 hx
  rfl) (by simp [wordsV])
theorem q_end (w : World) (sb : Nat) (s : QSt) (V : QV) (c : QC) (r : List QC) (code : Int) (vl : Value) (l : List Rc) (h : QAt w sb s V (c :: r)) (hv : Lies w 5 vl (l.map Rc.cells)) (hvl : ∀ k, vl.ownBlock = some k → k ≠ sb) (hle : s.reply.an.length ≤ 1000000) (hl : l.length ≤ 65535) (hds : ∀ x ∈ l, WfR x) :
  Calls Tryz.prog 121 #[.pointer (some ⟨sb, 0, none⟩), .int .i64 code, vl] w (QSays w sb V (c :: r) (endQ s code l)) := by
 have hc := bc_ h.box
 have hf := fz_ h.box
 simp only [qCells, chPtr] at hc
 have hcc := bc_ h.chain.1
 simp only [qcCells] at hcc
 have H := hide h
 have HV := hide hv
 have HDS := hide hds
 have hch : s.ch = c.ch :: r.map QC.ch := h.chs.symm
 cases r with
 | nil =>
  have e : endQ s code l = settleQ s code l := by unfold endQ; rw [hch]; rfl
  rw [e]
  clear h hv hds hch e
  simp only [chPtr] at hcc
  unfold QSays
  go_enter Tryz.func121, Tryz.ntmps121
  go_wp2_with fail
  refine (q_settle w sb s V [c] code vl l H.out HV.out hvl (by omega)).mono ?_
  rintro e w1 ⟨rfl, H1⟩
  go_wp2_with fail
  refine bodyPost_ret (results_none rfl _ _ _) rfl ?_
  exact ⟨rfl, H1.out⟩
 | cons a r =>
  have e : endQ s code l = { s with ph := .seek, ch := { a.ch with servers := addrs l } :: r.map QC.ch } := by unfold endQ; rw [hch]; rfl
  rw [e]
  have hca := bc_ h.chain.2.2.2.2.1
  have HLT := hide h.lt
  clear h hv hds hch e
  simp only [chPtr] at hcc
  unfold QSays
  go_enter Tryz.func121, Tryz.ntmps121
  go_wp2_with fail
  refine (q_addresses w vl l hl (fun x hx => (HDS.out x hx).data) HV.out).mono ?_
  rintro e w1 ⟨a1, c1, rfl, H1⟩
  have H2 := hide (H.out.below H1.out.below)
  have HE := hide (H2.out.endUp _ _ H1.out.lies (fun k e => (H1.out.own.lt k e).2) (fun k e e2 => by have := H1.out.new k e; have := HLT.out k e2; omega))
  have hn := H2.out.chain.nsb H2.out.box a (by simp)
  have hn' : ¬ a.blk = sb := hn
  have hn2 : ¬ sb = a.blk := fun e => hn e.symm
  clear hc hf hcc hca
  have hc := bc_ H2.out.box
  have hf := fz_ H2.out.box
  simp only [qCells, chPtr] at hc
  have hca := bc_ H2.out.chain.2.2.2.2.1
  have hfa := fz_ H2.out.chain.2.2.2.2.1
  simp only [qcCells] at hca
  generalize hal : (addrs l).length = al at HE ⊢
  go_wp2_with fail
  clear hc hf hca hfa
  go_end0
  have f1 := Fr.of_below H1.out.below (V.owns (c :: a :: r) sb)
  have hm : V.owns (c :: a :: r) sb a.blk := .inl (.inr (.inr ⟨a, by simp, rfl⟩))
  have f2 := f1.turn (O' := V.owns (c :: a :: r) sb) (gs_ w1 a.blk 6 (.slice a1 al c1)) (.inl hm) (fun i hi => .inl hi)
  have f3 := (f2.trans (Fr.self _ 7 (.pointer (some ⟨a.blk, 0, none⟩)))).turn (O' := QV.owns V (⟨{ a.ch with servers := addrs l }, a.blk, .slice a1 al c1, a.vn⟩ :: r) sb) (gs_ _ sb 6 (nextV sb .seek)) (.inl (.inl (.inl rfl))) (fun i hi => by
   rcases hi with (e | e | ⟨x, hx, e⟩) | ⟨v, hv, e⟩
   ·exact .inl (.inl (.inl e))
   ·exact .inl (.inl (.inr (.inl e)))
   ·rcases List.mem_cons.1 hx with rfl | hx
    ·exact .inl (by rw [e]; exact hm)
    ·exact .inl (.inl (.inr (.inr ⟨x, by simp [hx], e⟩)))
   ·rcases mr_.1 hv with rfl | rfl | ⟨x, hx, e1⟩
    ·exact .inl (.inr ⟨_, mr_.2 (.inl rfl), e⟩)
    ·exact .inl (.inr ⟨_, mr_.2 (.inr (.inl rfl)), e⟩)
    ·rcases List.mem_cons.1 hx with rfl | hx
     ·rcases e1 with rfl | rfl
      ·exact .inr (H1.out.new i (by rw [hal]; exact e))
      ·exact .inl (.inr ⟨_, mr_.2 (.inr (.inr ⟨a, by simp, .inr rfl⟩)), e⟩)
     ·exact .inl (.inr ⟨v, mr_.2 (.inr (.inr ⟨x, by simp [hx], e1⟩)), e⟩))
  exact ⟨rfl, V, _, HE.out, f3⟩
end Go.Proofs.YtafoepfhepdcoaaGreat
namespace Go.Proofs.YtafoepfhepdcoaaGreat
open Go.RowKit Go.Trawl
attribute [local go_sem] mf buildX0
def QTells (w : World) (sb : Nat) (V : QV) (cs : List QC) (p : QSt × QOut) (e : Ending) (w' : World) : Prop :=
 ∃ (a : Option Addr) (c : Nat), e = .returned (stepX p.2.1 p.2.2.1 (.slice a p.2.2.2.length c)) ∧ Hid (∃ V' cs', QAt w' sb p.1 V' cs' ∧ Fr w w' (V.owns cs sb) (V'.owns cs' sb) ∧ w'.ownsRow 0 5 1 (.slice a p.2.2.2.length c) p.2.2.2.length (bytesV p.2.2.2) ∧ ∀ k, (Value.slice a p.2.2.2.length c).ownBlock = some k → w.heap.size ≤ k ∧ ¬ V'.owns cs' sb k)
theorem says_box {w w2 : World} {sb : Nat} {s s' : QSt} {V : QV} {cs : List QC} {o : Obj} (h : QAt w sb s V cs) (H : ∃ V' cs', QAt w2 sb s' V' cs' ∧ Fr (w.alloc o) w2 (V.owns cs sb) (V'.owns cs' sb)) :
  w2.heap[w.heap.size]? = some o ∧ ∀ v0 v1 v2, ∃ V' cs', QAt (put3 w2 w.heap.size v0 v1 v2) sb s' V' cs' ∧ Fr w (put3 w2 w.heap.size v0 v1 v2) (V.owns cs sb) (V'.owns cs' sb) := by
 obtain ⟨V', cs', h2, f2⟩ := H
 have hno : ¬ V.owns cs sb w.heap.size := fun e => by have := h.lt _ e; omega
 refine ⟨f2.stay (hn_ w o) hno, fun v0 v1 v2 => ?_⟩
 have hG := pg_ w2 w.heap.size v0 v1 v2
 have hb := (Below.refl w.heap.size w).alloc (Nat.le_refl _) o
 refine ⟨V', cs', h2.aside hG (fun e => ?_), ((Fr.of_below hb (V.owns cs sb)).trans f2).write hG (Nat.le_refl _)⟩
 rcases f2.new _ e with e | e
 ·exact hno e
 ·rw [as_] at e; omega
theorem q_fail (w : World) (sb : Nat) (s : QSt) (V : QV) (c : QC) (r : List QC) (h : QAt w sb s V (c :: r)) (hle : s.reply.an.length ≤ 1000000) :
  Calls Tryz.prog 163 #[.pointer (some ⟨sb, 0, none⟩)] w (QTells w sb V (c :: r) (endQ s 2 [], noOut)) := by
 have H := hide h
 have H1 := hide (h.below ((Below.refl w.heap.size w).alloc (Nat.le_refl _) (.cells #[.int .i64 0, .int .u32 0, .slice none 0 0] 59)))
 clear h
 unfold QTells noOut
 go_enter Tryz.func163, Tryz.ntmps163
 go_wp2_with fail
 refine (q_end _ sb s V c r 2 (.slice none 0 0) [] H1.out (liesNil _ _) (fun k e => by cases e) hle (by simp) (by simp)).mono ?_
 rintro e w2 ⟨rfl, H2⟩
 obtain ⟨hx, hp⟩ := says_box H.out H2.out
 have HX := hide hx
 have HP := hide hp
 have hcz := bc_ hx
 have hfz := fz_ hx
 clear hx hp H2
 go_wp2_with fail
 clear hcz hfz
 refine bodyPost_ret (results_cell_row rfl _ _ w.heap.size _ _ _ _ rfl (pb_ (.int .i64 0) (.int .u32 0) (.slice none 0 0) HX.out) undXs rfl (by kernel_rfl)) rfl ?_
 obtain ⟨V', cs', h3, f3⟩ := HP.out (.int .i64 0) (.int .u32 0) (.slice none 0 0)
 exact ⟨none, 0, rfl, V', cs', h3, f3, World.ownsRow_nil _ _ _ _, fun k e => by cases e⟩
theorem q_failAll (w : World) (sb : Nat) (s : QSt) (V : QV) (cs : List QC) (h : QAt w sb s V cs) (hle : s.reply.an.length ≤ 1000000) :
  Calls Tryz.prog 175 #[.pointer (some ⟨sb, 0, none⟩)] w (QTells w sb V cs (settleQ s 2 [], noOut)) := by
 have H := hide h
 have H1 := hide (h.below ((Below.refl w.heap.size w).alloc (Nat.le_refl _) (.cells #[.int .i64 0, .int .u32 0, .slice none 0 0] 59)))
 clear h
 unfold QTells noOut
 go_enter Tryz.func175, Tryz.ntmps175
 go_wp2_with fail
 refine (q_settle _ sb s V cs 2 (.slice none 0 0) [] H1.out (liesNil _ _) (fun k e => by cases e) (by simp; omega)).mono ?_
 rintro e w2 ⟨rfl, H2⟩
 obtain ⟨hx, hp⟩ := says_box H.out H2.out
 have HX := hide hx
 have HP := hide hp
 have hcz := bc_ hx
 have hfz := fz_ hx
 clear hx hp H2
 go_wp2_with fail
 clear hcz hfz
 refine bodyPost_ret (results_cell_row rfl _ _ w.heap.size _ _ _ _ rfl (pb_ (.int .i64 0) (.int .u32 0) (.slice none 0 0) HX.out) undXs rfl (by kernel_rfl)) rfl ?_
 obtain ⟨V', cs', h3, f3⟩ := HP.out (.int .i64 0) (.int .u32 0) (.slice none 0 0)
 exact ⟨none, 0, rfl, V', cs', h3, f3, World.ownsRow_nil _ _ _ _, fun k e => by cases e⟩
end Go.Proofs.YtafoepfhepdcoaaGreat
namespace Go.Trawl
theorem num4_range (s : ByteArray) : Always (num4 s) fun x => 0 ≤ x ∧ x ≤ 4294967295 := by
 intro a r hr
 unfold num4 at hr
 split at hr
 ·cases hr
  have := n4_lt s a
  exact ⟨by omega, by omega⟩
 ·cases hr
theorem pName_short (s : ByteArray) : Always (pName s) fun n => n.size ≤ 255 := fun _ _ h => (pName_ends h).2.2
theorem pText_short (s : ByteArray) (n : Nat) (hn : n ≤ 65535) : Always (pText s n) fun d => d.size ≤ 65535 := by
 intro a r hr
 unfold pText at hr
 split at hr
 ·rename_i h
  cases hr
  show (cut s a (a + n)).toArray.size ≤ 65535
  rw [List.size_toArray, cut_length h]
  omega
 ·cases hr
theorem pData_short (s : ByteArray) (k : Int) (n : Nat) (hn : n ≤ 65535) : Always (pData s k n) fun d => d.size ≤ 65535 := by
 intro a r hr
 unfold pData at hr
 split at hr
 ·cases hp : pName s a with
  | none => rw [hp] at hr; cases hr
  | some q =>
   rw [hp] at hr
   simp only [Option.bind_some] at hr
   split at hr
   ·cases hr
    have := pName_short s a _ hp
    dsimp only at this ⊢
    omega
   ·cases hr
 ·exact pText_short s n hn a r hr
theorem pQ_wf (s : ByteArray) : Always (pQ s) WfQ := (pName_short s).bind fun _ hn => (num2_range s).bind fun _ ht => (num2_range s).bind fun _ hc => Always.pure ⟨by dsimp only; omega, ht.1, ht.2, hc.1, hc.2⟩
theorem pR_wf (s : ByteArray) : Always (pR s) WfR :=
 (pName_short s).bind fun _ hn => (num2_range s).bind fun t ht => (num2_range s).bind fun _ hc => (num4_range s).bind fun _ hl => (num2_range s).bind fun k hk =>
  (pData_short s t k.toNat (by omega)).bind fun _ hd => Always.pure ⟨by dsimp only; omega, by dsimp only; omega, ht.1, ht.2, hc.1, hc.2, hl.1, hl.2⟩
theorem pM_wf (s : ByteArray) : Always (pM s) WfM :=
 (num2_range s).bind fun _ hi => (num2_range s).bind fun f hf => (num2_range s).bind fun _ hq => (num2_range s).bind fun _ ha => (num2_range s).bind fun _ hu => (num2_range s).bind fun _ hx =>
  ((pQ_wf s).many _).bind fun qs hqs => ((pR_wf s).many _).bind fun an han => ((pR_wf s).many _).bind fun au hau => ((pR_wf s).many _).bind fun ex hex =>
   Always.pure ⟨hi.1, hi.2, by simp only [flagged]; omega, by simp only [flagged]; omega, by simp only [flagged]; omega, by simp only [flagged]; omega, by simp only [flagged]; rw [hqs.2]; omega, by simp only [flagged]; rw [han.2]; omega, by simp only [flagged]; rw [hau.2]; omega, by simp only [flagged]; rw [hex.2]; omega, hqs.1, fun r hr => by
    simp only [recs, flagged, List.mem_append] at hr
    rcases hr with (hr | hr) | hr
    ·exact han.1 r hr
    ·exact hau.1 r hr
    ·exact hex.1 r hr⟩
theorem unpack_wf {s : ByteArray} {m : Msg} (h : unpack s = some m) : WfM m := by
 unfold unpack at h
 split at h
 ·cases hp : pM s 0 with
  | none => simp [hp] at h
  | some r =>
   simp only [hp, Option.bind_some] at h
   split at h
   ·cases h; exact pM_wf s 0 r hp
   ·cases h
 ·cases h
end Go.Trawl
