import Derived.Test.YtafoepfhepdcoaaGreatM14
import Derived.Test.YtafoepfhepdcoaaGreatM10
import Derived.Test.YtafoepfhepdcoaaGreatM1
import Derived.Test.YtafoepfhepdcoaaGreatM13
import Derived.Test.YtafoepfhepdcoaaGreatM12
set_option maxRecDepth 100000
set_option maxHeartbeats 8000000
namespace Go.Proofs.YtafoepfhepdcoaaGreat
open Go.RowKit Go.Trawl
attribute [local go_sem] mf
theorem QAt.endUp {w : World} {sb : Nat} {s : QSt} {V : QV} {c a : QC} {r : List QC} (h : QAt w sb s V (c :: a :: r)) (v : Value) (xs : List Int) (hv : Lies w 1 v (wordsV xs)) (hvl : ∀ k, v.ownBlock = some k → k < w.heap.size) (hk : ∀ k, v.ownBlock = some k → ¬ V.owns (c :: a :: r) sb k) :
  QAt (((w.setCell ⟨a.blk, 6, none⟩ v).setCell ⟨sb, 7, none⟩ (.pointer (some ⟨a.blk, 0, none⟩))).setCell ⟨sb, 6, none⟩ (nextV sb .seek)) sb { s with ph := .seek, ch := { a.ch with servers := xs } :: r.map QC.ch } V (⟨{ a.ch with servers := xs }, a.blk, v, a.vn⟩ :: r) := by
 have hn := h.chain.nsb h.box a (by simp)
 have hax := h.chain.2.2.2.2
 have hal := heap_lt hax.1
 obtain ⟨p1, p2, p3, p4⟩ := h.pop
 have h1 := h.link p1 p2 p3 (fun k e => h.lt k (p4 k e))
 have hsz1 : (w.setCell ⟨sb, 7, none⟩ (chPtr (a :: r))).heap.size = w.heap.size := by simp [World.setCell]
 have hg : (w.setCell ⟨sb, 7, none⟩ (chPtr (a :: r))).grownBy ((w.setCell ⟨a.blk, 6, none⟩ v).setCell ⟨sb, 7, none⟩ (.pointer (some ⟨a.blk, 0, none⟩))) (some a.blk) := by
  have g1 := grownBy_setCell w sb 7 (chPtr (a :: r))
  have g2 := grownBy_setCell w a.blk 6 v
  have g3 := grownBy_setCell (w.setCell ⟨a.blk, 6, none⟩ v) sb 7 (.pointer (some ⟨a.blk, 0, none⟩))
  refine ⟨(g3.os.trans g2.os).trans g1.os.symm, (g3.tape.trans g2.tape).trans g1.tape.symm, (g3.output.trans g2.output).trans g1.output.symm, by simp [World.setCell], fun k hk hne => ?_⟩
  rw [hsz1] at hk
  have hne' : k ≠ a.blk := fun e => hne (by rw [e])
  by_cases e : k = sb
  ·subst e
   have b2 := (Below.heap_setCell w ⟨a.blk, 6, none⟩ v k hne').trans h.box
   rw [heap_setCell_eq b2, heap_setCell_eq h.box]
   rfl
  ·rw [Below.heap_setCell _ ⟨sb, 7, none⟩ _ k e, Below.heap_setCell _ ⟨a.blk, 6, none⟩ _ k hne', Below.heap_setCell _ ⟨sb, 7, none⟩ _ k e]
 have hx : ((w.setCell ⟨a.blk, 6, none⟩ v).setCell ⟨sb, 7, none⟩ (.pointer (some ⟨a.blk, 0, none⟩))).heap[a.blk]? = some (.cells (qcCells ⟨{ a.ch with servers := xs }, a.blk, v, a.vn⟩ r) 192) := by
  rw [Below.heap_setCell _ ⟨sb, 7, none⟩ _ a.blk hn, heap_setCell_eq hax.1]
  rfl
 have hv1 := hv.keep (w' := w.setCell ⟨sb, 7, none⟩ (chPtr (a :: r))) (by rw [hsz1]; exact Nat.le_refl _) (fun b hb _ => Below.heap_setCell _ _ _ _ (fun e => hk b hb (.inl (.inl e))))
 have h2 := h1.head (c' := ⟨{ a.ch with servers := xs }, a.blk, v, a.vn⟩) rfl hg hx hv1 h1.chain.2.2.1 h1.chain.2.2.2.1 (fun k e => by
  rcases e with e | e
  ·exact ⟨by rw [hsz1]; exact hvl k e, fun e2 => hk k e (p4 k (.inl e2))⟩
  ·have hm : a.vn ∈ V.reads (a :: r) := mem_reads.2 (.inr (.inr ⟨a, by simp, .inr rfl⟩))
   exact ⟨h1.lt k (.inr ⟨_, hm, e⟩), h1.free _ hm k e⟩)
 exact h2.set 6 (nextV sb .seek) rfl rfl rfl rfl rfl
theorem words_flatQ (l : List Int) : (wordsV l).flatten = wV l := by
 induction l with
 | nil => rfl
 | cons x l ih => simp [wordsV, wV] at ih ⊢; exact ih
theorem AL.lies {w wr : World} {xs : List Int} {v : Value} (h : AL w wr xs v) : Lies wr 1 v (wordsV xs) := own_lies (by
 have := h.own
 rw [← words_flatQ] at this
 exact this) (fun x hx => by
  obtain ⟨y, _, rfl⟩ := List.mem_map.1 hx
  rfl) (by simp [wordsV])
theorem q_end (w : World) (sb : Nat) (s : QSt) (V : QV) (c : QC) (r : List QC) (code : Int) (vl : Value) (l : List Rc) (h : QAt w sb s V (c :: r)) (hv : Lies w 5 vl (l.map Rc.cells)) (hvl : ∀ k, vl.ownBlock = some k → k ≠ sb) (hle : s.reply.an.length ≤ 1000000) (hl : l.length ≤ 65535) (hds : ∀ x ∈ l, WfR x) :
  Calls Tryz.prog 121 #[.pointer (some ⟨sb, 0, none⟩), .int .i64 code, vl] w (QSays w sb V (c :: r) (endQ s code l)) := by
 have hc := box_cells h.box
 have hf := frozen_of_block h.box
 simp only [qCells, chPtr] at hc
 have hcc := box_cells h.chain.1
 simp only [qcCells] at hcc
 have H := hide h
 have HV := hide hv
 have HDS := hide hds
 have hch : s.ch = c.ch :: r.map QC.ch := h.chs.symm
 cases r with
 | nil =>
  have e : endQ s code l = settleQ s code l := by unfold endQ; rw [hch]; rfl
  rw [e]
  clear h hv hds hch e
  simp only [chPtr] at hcc
  unfold QSays
  go_enter Tryz.func121, Tryz.ntmps121
  go_wp2_with fail
  refine (q_settle w sb s V [c] code vl l H.out HV.out hvl (by omega)).mono ?_
  rintro e w1 ⟨rfl, H1⟩
  go_wp2_with fail
  refine bodyPost_ret (results_none rfl _ _ _) rfl ?_
  exact ⟨rfl, H1.out⟩
 | cons a r =>
  have e : endQ s code l = { s with ph := .seek, ch := { a.ch with servers := addrs l } :: r.map QC.ch } := by unfold endQ; rw [hch]; rfl
  rw [e]
  have hca := box_cells h.chain.2.2.2.2.1
  have HLT := hide h.lt
  clear h hv hds hch e
  simp only [chPtr] at hcc
  unfold QSays
  go_enter Tryz.func121, Tryz.ntmps121
  go_wp2_with fail
  refine (q_addresses w vl l hl (fun x hx => (HDS.out x hx).data) HV.out).mono ?_
  rintro e w1 ⟨a1, c1, rfl, H1⟩
  have H2 := hide (H.out.below H1.out.below)
  have HE := hide (H2.out.endUp _ _ H1.out.lies (fun k e => (H1.out.own.lt k e).2) (fun k e e2 => by have := H1.out.new k e; have := HLT.out k e2; omega))
  have hn := H2.out.chain.nsb H2.out.box a (by simp)
  have hn' : ¬ a.blk = sb := hn
  have hn2 : ¬ sb = a.blk := fun e => hn e.symm
  clear hc hf hcc hca
  have hc := box_cells H2.out.box
  have hf := frozen_of_block H2.out.box
  simp only [qCells, chPtr] at hc
  have hca := box_cells H2.out.chain.2.2.2.2.1
  have hfa := frozen_of_block H2.out.chain.2.2.2.2.1
  simp only [qcCells] at hca
  generalize hal : (addrs l).length = al at HE ⊢
  go_wp2_with fail
  clear hc hf hca hfa
  go_end0
  have f1 := Fr.of_below H1.out.below (V.owns (c :: a :: r) sb)
  have hm : V.owns (c :: a :: r) sb a.blk := .inl (.inr (.inr ⟨a, by simp, rfl⟩))
  have f2 := f1.turn (O' := V.owns (c :: a :: r) sb) (grownBy_setCell w1 a.blk 6 (.slice a1 al c1)) (.inl hm) (fun i hi => .inl hi)
  have f3 := (f2.trans (Fr.self _ 7 (.pointer (some ⟨a.blk, 0, none⟩)))).turn (O' := QV.owns V (⟨{ a.ch with servers := addrs l }, a.blk, .slice a1 al c1, a.vn⟩ :: r) sb) (grownBy_setCell _ sb 6 (nextV sb .seek)) (.inl (.inl (.inl rfl))) (fun i hi => by
   rcases hi with (e | e | ⟨x, hx, e⟩) | ⟨v, hv, e⟩
   ·exact .inl (.inl (.inl e))
   ·exact .inl (.inl (.inr (.inl e)))
   ·rcases List.mem_cons.1 hx with rfl | hx
    ·exact .inl (by rw [e]; exact hm)
    ·exact .inl (.inl (.inr (.inr ⟨x, by simp [hx], e⟩)))
   ·rcases mem_reads.1 hv with rfl | rfl | ⟨x, hx, e1⟩
    ·exact .inl (.inr ⟨_, mem_reads.2 (.inl rfl), e⟩)
    ·exact .inl (.inr ⟨_, mem_reads.2 (.inr (.inl rfl)), e⟩)
    ·rcases List.mem_cons.1 hx with rfl | hx
     ·rcases e1 with rfl | rfl
      ·exact .inr (H1.out.new i (by rw [hal]; exact e))
      ·exact .inl (.inr ⟨_, mem_reads.2 (.inr (.inr ⟨a, by simp, .inr rfl⟩)), e⟩)
     ·exact .inl (.inr ⟨v, mem_reads.2 (.inr (.inr ⟨x, by simp [hx], e1⟩)), e⟩))
  exact ⟨rfl, V, _, HE.out, f3⟩
end Go.Proofs.YtafoepfhepdcoaaGreat
namespace Go.Proofs.YtafoepfhepdcoaaGreat
open Go.RowKit Go.Trawl
attribute [local go_sem] mf buildX0
def QTells (w : World) (sb : Nat) (V : QV) (cs : List QC) (p : QSt × QOut) (e : Ending) (w' : World) : Prop :=
 ∃ (a : Option Addr) (c : Nat), e = .returned (stepX p.2.1 p.2.2.1 (.slice a p.2.2.2.length c)) ∧ Hid (∃ V' cs', QAt w' sb p.1 V' cs' ∧ Fr w w' (V.owns cs sb) (V'.owns cs' sb) ∧ w'.ownsRow 0 5 1 (.slice a p.2.2.2.length c) p.2.2.2.length (bytesV p.2.2.2) ∧ ∀ k, (Value.slice a p.2.2.2.length c).ownBlock = some k → w.heap.size ≤ k ∧ ¬ V'.owns cs' sb k)
theorem says_box {w w2 : World} {sb : Nat} {s s' : QSt} {V : QV} {cs : List QC} {o : Obj} (h : QAt w sb s V cs) (H : ∃ V' cs', QAt w2 sb s' V' cs' ∧ Fr (w.alloc o) w2 (V.owns cs sb) (V'.owns cs' sb)) :
  w2.heap[w.heap.size]? = some o ∧ ∀ v0 v1 v2, ∃ V' cs', QAt (put3 w2 w.heap.size v0 v1 v2) sb s' V' cs' ∧ Fr w (put3 w2 w.heap.size v0 v1 v2) (V.owns cs sb) (V'.owns cs' sb) := by
 obtain ⟨V', cs', h2, f2⟩ := H
 have hno : ¬ V.owns cs sb w.heap.size := fun e => by have := h.lt _ e; omega
 refine ⟨f2.stay (heap_new w o) hno, fun v0 v1 v2 => ?_⟩
 have hG := put3_grown w2 w.heap.size v0 v1 v2
 have hb := (Below.refl w.heap.size w).alloc (Nat.le_refl _) o
 refine ⟨V', cs', h2.aside hG (fun e => ?_), ((Fr.of_below hb (V.owns cs sb)).trans f2).write hG (Nat.le_refl _)⟩
 rcases f2.new _ e with e | e
 ·exact hno e
 ·rw [alloc_size] at e; omega
theorem q_fail (w : World) (sb : Nat) (s : QSt) (V : QV) (c : QC) (r : List QC) (h : QAt w sb s V (c :: r)) (hle : s.reply.an.length ≤ 1000000) :
  Calls Tryz.prog 163 #[.pointer (some ⟨sb, 0, none⟩)] w (QTells w sb V (c :: r) (endQ s 2 [], noOut)) := by
 have H := hide h
 have H1 := hide (h.below ((Below.refl w.heap.size w).alloc (Nat.le_refl _) (.cells #[.int .i64 0, .int .u32 0, .slice none 0 0] 59)))
 clear h
 unfold QTells noOut
 go_enter Tryz.func163, Tryz.ntmps163
 go_wp2_with fail
 refine (q_end _ sb s V c r 2 (.slice none 0 0) [] H1.out (liesNil _ _) (fun k e => by cases e) hle (by simp) (by simp)).mono ?_
 rintro e w2 ⟨rfl, H2⟩
 obtain ⟨hx, hp⟩ := says_box H.out H2.out
 have HX := hide hx
 have HP := hide hp
 have hcz := box_cells hx
 have hfz := frozen_of_block hx
 clear hx hp H2
 go_wp2_with fail
 clear hcz hfz
 refine bodyPost_ret (results_cell_row rfl _ _ w.heap.size _ _ _ _ rfl (put3_box (.int .i64 0) (.int .u32 0) (.slice none 0 0) HX.out) undXs rfl (by kernel_rfl)) rfl ?_
 obtain ⟨V', cs', h3, f3⟩ := HP.out (.int .i64 0) (.int .u32 0) (.slice none 0 0)
 exact ⟨none, 0, rfl, V', cs', h3, f3, World.ownsRow_nil _ _ _ _, fun k e => by cases e⟩
theorem q_failAll (w : World) (sb : Nat) (s : QSt) (V : QV) (cs : List QC) (h : QAt w sb s V cs) (hle : s.reply.an.length ≤ 1000000) :
  Calls Tryz.prog 175 #[.pointer (some ⟨sb, 0, none⟩)] w (QTells w sb V cs (settleQ s 2 [], noOut)) := by
 have H := hide h
 have H1 := hide (h.below ((Below.refl w.heap.size w).alloc (Nat.le_refl _) (.cells #[.int .i64 0, .int .u32 0, .slice none 0 0] 59)))
 clear h
 unfold QTells noOut
 go_enter Tryz.func175, Tryz.ntmps175
 go_wp2_with fail
 refine (q_settle _ sb s V cs 2 (.slice none 0 0) [] H1.out (liesNil _ _) (fun k e => by cases e) (by simp; omega)).mono ?_
 rintro e w2 ⟨rfl, H2⟩
 obtain ⟨hx, hp⟩ := says_box H.out H2.out
 have HX := hide hx
 have HP := hide hp
 have hcz := box_cells hx
 have hfz := frozen_of_block hx
 clear hx hp H2
 go_wp2_with fail
 clear hcz hfz
 refine bodyPost_ret (results_cell_row rfl _ _ w.heap.size _ _ _ _ rfl (put3_box (.int .i64 0) (.int .u32 0) (.slice none 0 0) HX.out) undXs rfl (by kernel_rfl)) rfl ?_
 obtain ⟨V', cs', h3, f3⟩ := HP.out (.int .i64 0) (.int .u32 0) (.slice none 0 0)
 exact ⟨none, 0, rfl, V', cs', h3, f3, World.ownsRow_nil _ _ _ _, fun k e => by cases e⟩
end Go.Proofs.YtafoepfhepdcoaaGreat
namespace Go.Trawl
theorem num4_range (s : ByteArray) : Always (num4 s) fun x => 0 ≤ x ∧ x ≤ 4294967295 := by
 intro a r hr
 unfold num4 at hr
 split at hr
 ·cases hr
  have := n4_lt s a
  exact ⟨by omega, by omega⟩
 ·cases hr
theorem pName_short (s : ByteArray) : Always (pName s) fun n => n.size ≤ 255 := fun _ _ h => (pName_ends h).2.2
theorem pText_short (s : ByteArray) (n : Nat) (hn : n ≤ 65535) : Always (pText s n) fun d => d.size ≤ 65535 := by
 intro a r hr
 unfold pText at hr
 split at hr
 ·rename_i h
  cases hr
  show (cut s a (a + n)).toArray.size ≤ 65535
  rw [List.size_toArray, cut_length h]
  omega
 ·cases hr
theorem pData_short (s : ByteArray) (k : Int) (n : Nat) (hn : n ≤ 65535) : Always (pData s k n) fun d => d.size ≤ 65535 := by
 intro a r hr
 unfold pData at hr
 split at hr
 ·cases hp : pName s a with
  | none => rw [hp] at hr; cases hr
  | some q =>
   rw [hp] at hr
   simp only [Option.bind_some] at hr
   split at hr
   ·cases hr
    have := pName_short s a _ hp
    dsimp only at this ⊢
    omega
   ·cases hr
 ·exact pText_short s n hn a r hr
theorem pQ_wf (s : ByteArray) : Always (pQ s) WfQ := (pName_short s).bind fun _ hn => (num2_range s).bind fun _ ht => (num2_range s).bind fun _ hc => Always.pure ⟨by dsimp only; omega, ht.1, ht.2, hc.1, hc.2⟩
theorem pR_wf (s : ByteArray) : Always (pR s) WfR :=
 (pName_short s).bind fun _ hn => (num2_range s).bind fun t ht => (num2_range s).bind fun _ hc => (num4_range s).bind fun _ hl => (num2_range s).bind fun k hk =>
  (pData_short s t k.toNat (by omega)).bind fun _ hd => Always.pure ⟨by dsimp only; omega, by dsimp only; omega, ht.1, ht.2, hc.1, hc.2, hl.1, hl.2⟩
theorem pM_wf (s : ByteArray) : Always (pM s) WfM :=
 (num2_range s).bind fun _ hi => (num2_range s).bind fun f hf => (num2_range s).bind fun _ hq => (num2_range s).bind fun _ ha => (num2_range s).bind fun _ hu => (num2_range s).bind fun _ hx =>
  ((pQ_wf s).many _).bind fun qs hqs => ((pR_wf s).many _).bind fun an han => ((pR_wf s).many _).bind fun au hau => ((pR_wf s).many _).bind fun ex hex =>
   Always.pure ⟨hi.1, hi.2, by simp only [flagged]; omega, by simp only [flagged]; omega, by simp only [flagged]; omega, by simp only [flagged]; omega, by simp only [flagged]; rw [hqs.2]; omega, by simp only [flagged]; rw [han.2]; omega, by simp only [flagged]; rw [hau.2]; omega, by simp only [flagged]; rw [hex.2]; omega, hqs.1, fun r hr => by
    simp only [recs, flagged, List.mem_append] at hr
    rcases hr with (hr | hr) | hr
    ·exact han.1 r hr
    ·exact hau.1 r hr
    ·exact hex.1 r hr⟩
theorem unpack_wf {s : ByteArray} {m : Msg} (h : unpack s = some m) : WfM m := by
 unfold unpack at h
 split at h
 ·cases hp : pM s 0 with
  | none => simp [hp] at h
  | some r =>
   simp only [hp, Option.bind_some] at h
   split at h
   ·cases h; exact pM_wf s 0 r hp
   ·cases h
 ·cases h
end Go.Trawl
namespace Go.Proofs.YtafoepfhepdcoaaGreat
open Go.RowKit Go.Trawl
def Stopped (p : Prop) : Prop := p
theorem stop_store {P : Program} {w : World} {ops : Array Oper} {rest : List Oper} {o : Oper} {a : Act} {Q : Exit → Act → World → Prop} (t : TypeId) (x y : Operand) (_ : o.op = .store t x y) (h : Stopped (wpList P ops Q (o :: rest) a w)) : wpList P ops Q (o :: rest) a w := h
theorem buildT0 (W : World) : (Instr.build 148 #[]).run Tryz.prog W = .ok (.agg #[.nilFunc, .pointer none, .int .i64 0, .int .u16 0, .bool false, .int .i64 0, .bool false, .bool false, .bool false, .bool false, .int .i64 0, .slice none 0 0, .slice none 0 0, .slice none 0 0, .slice none 0 0]) W := run_build W _ _ _ (by kernel_rfl)
attribute [local go_sem] mf buildT0
def putN (b : Nat) : World → Nat → List Value → World
 | w, _, [] => w
 | w, o, x :: l => putN b (w.setCell ⟨b, o, none⟩ x) (o + 1) l
def setN : Array Value → Nat → List Value → Array Value
 | xs, _, [] => xs
 | xs, o, x :: l => setN (xs.setIfInBounds o x) (o + 1) l
theorem putN_grown (b : Nat) : ∀ (l : List Value) (w : World) (o : Nat), w.grownBy (putN b w o l) (some b)
 | [], _, _ => grownBy_refl _ _
 | x :: l, w, o => grownBy_trans (grownBy_setCell w b o x) (putN_grown b l _ _)
theorem putN_box (b : Nat) {t : TypeId} : ∀ (l : List Value) (w : World) (o : Nat) (xs : Array Value), w.heap[b]? = some (.cells xs t) → (putN b w o l).heap[b]? = some (.cells (setN xs o l) t)
 | [], _, _, _, h => h
 | x :: l, _, _, _, h => putN_box b l _ _ _ (heap_setCell_eq h x)
def zTask : List Value := [.nilFunc, .pointer none, .int .i64 0, .int .u16 0, .bool false, .int .i64 0, .bool false, .bool false, .bool false, .bool false, .int .i64 0, .slice none 0 0, .slice none 0 0, .slice none 0 0, .slice none 0 0]
theorem stop_load {P : Program} {w : World} {ops : Array Oper} {rest : List Oper} {o : Oper} {a : Act} {Q : Exit → Act → World → Prop} (t : TypeId) (x : Operand) (_ : o.op = .load t x) (h : Stopped (wpList P ops Q (o :: rest) a w)) : wpList P ops Q (o :: rest) a w := h
theorem QAt.clear {w : World} {sb : Nat} {s : QSt} {V : QV} {cs : List QC} (h : QAt w sb s V cs) : QAt (putN sb w 6 zTask) sb (idleQ s) ⟨V.vR, .slice none 0 0, .slice none 0 0⟩ [] ∧ Fr w (putN sb w 6 zTask) (V.owns cs sb) (QV.owns ⟨V.vR, .slice none 0 0, .slice none 0 0⟩ [] sb) := by
 have how : ∀ k, QV.owns ⟨V.vR, .slice none 0 0, .slice none 0 0⟩ [] sb k → V.owns cs sb k := by
  rintro k ((e | e | ⟨x, hx, _⟩) | ⟨v, hv, e⟩)
  ·exact .inl (.inl e)
  ·cases e
  ·cases hx
  ·rcases mem_reads.1 hv with rfl | rfl | ⟨x, hx, _⟩
   ·exact .inr ⟨_, mem_reads.2 (.inl rfl), e⟩
   ·cases e
   ·cases hx
 have hg := putN_grown sb zTask w 6
 have hbx := putN_box sb zTask w 6 _ h.box
 have he : setN (qCells s V sb cs) 6 zTask = qCells (idleQ s) ⟨V.vR, .slice none 0 0, .slice none 0 0⟩ sb [] := by simp [setN, zTask, qCells, idleQ, zMsg, nextV, chPtr]
 rw [he] at hbx
 refine ⟨h.turn hg hbx rfl rfl (liesNil _ _) (World.ownsRow_nil _ _ _ _) rfl trivial (by simp) (fun v hv k e hw => ?_) (fun k e => h.lt k (how k e)), (Fr.of_below (Below.refl _ w) _).turn hg (.inl (.inl (.inl rfl))) (fun i hi => .inl (how i hi))⟩
 rcases mem_reads.1 hv with rfl | rfl | ⟨x, hx, _⟩
 ·rcases hw with e2 | e2 | ⟨x, hx, _⟩
  ·exact h.free _ (mem_reads.2 (.inl rfl)) k e (.inl e2)
  ·cases e2
  ·cases hx
 ·cases e
 ·cases hx
theorem q_finish (w : World) (sb : Nat) (s : QSt) (V : QV) (cs : List QC) (h : QAt w sb s V cs) (hok : QOk s) (hrp : s.reply.resp = true) :
  Calls Tryz.prog 171 #[.pointer (some ⟨sb, 0, none⟩)] w (QTells w sb V cs (idleQ s, (2, 0, replyL s.reply))) := by
 have hb1 := (Below.refl w.heap.size w).alloc (Nat.le_refl _) (.cells #[.int .i64 0, .int .u32 0, .slice none 0 0] 59)
 have HB1 := hide hb1
 have HLT := hide h.lt
 have hsl := h.slt
 have h1 := h.below hb1
 have hx1 := heap_new w (.cells #[.int .i64 0, .int .u32 0, .slice none 0 0] 59)
 have hz1 := alloc_size w (.cells #[.int .i64 0, .int .u32 0, .slice none 0 0] 59)
 have HMA : Hid (MsgAt (w.alloc (.cells #[.int .i64 0, .int .u32 0, .slice none 0 0] 59)) s.reply V.vq V.vK (.slice none 0 0) (.slice none 0 0)) := ⟨h1.qs, own_lies h1.kept (rcells_len' _) (by simp), by rw [hok.au]; exact liesNil _ _, by rw [hok.ex]; exact liesNil _ _⟩
 have H1 := hide h1
 have HX1 := hide hx1
 have HWF := hide hok.reply
 have HRP := hide hrp
 have hc := box_cells h1.box
 simp only [qCells] at hc
 obtain ⟨aK, cK, hvK⟩ := own_slice (show w.ownsRow 0 69 5 V.vK s.reply.an.length ((s.reply.an.map Rc.cells).flatten) from h.kept)
 obtain ⟨aq, cq, hvq, _⟩ := (show Lies w 3 V.vq (s.reply.qs.map Qn.cells) from h.qs)
 obtain ⟨vR, vq, vK⟩ := V
 dsimp only at hvK hvq
 subst hvK hvq
 clear h hok hb1 h1 hrp
 obtain ⟨L, hL⟩ : ∃ L, L = replyL s.reply := ⟨_, rfl⟩
 rw [← hL]
 have HL := hide hL
 clear hL
 unfold QTells
 go_enter Tryz.func171, Tryz.ntmps171
 go_wp2_with fail
 generalize w.alloc (.cells #[.int .i64 0, .int .u32 0, .slice none 0 0] 59) = W1 at HB1 H1 HX1 HMA hx1 hz1 hc ⊢
 refine (answer_new s.reply (.slice aq s.reply.qs.length cq) (.slice aK s.reply.an.length cK) (.slice none 0 0) (.slice none 0 0) W1 HWF.out HRP.out (by simpa only [List.length_map] using HMA.out)).mono ?_
 rintro e w2 ⟨a2, c2, rfl, H2⟩
 rw [← HL.out] at H2 ⊢
 have hb3 := (Below.refl w2.heap.size w2).alloc (Nat.le_refl _) (.cells #[.int .i64 2, .int .u32 0, .slice a2 L.length c2] 59)
 have HB3 := hide (HB1.out.trans ((H2.out.below.mono (by omega)).trans (hb3.mono (by have := H2.out.below.size; omega))))
 have hb13 := H2.out.below.trans (hb3.mono H2.out.below.size)
 have H3 := hide (H1.out.below hb13)
 have HX3 := hide ((hb13.block _ (heap_lt HX1.out)).trans HX1.out)
 have HY3 := hide (heap_new w2 (.cells #[.int .i64 2, .int .u32 0, .slice a2 L.length c2] 59))
 have HO3 := hide (own_below H2.out.own hb3)
 have hn2 := H2.out.new
 have hs2 := H2.out.below.size
 have hyl := heap_lt HX1.out
 clear hc hx1 hb13
 have hc := box_cells H3.out.box
 have hf := frozen_of_block H3.out.box
 simp only [qCells] at hc
 have n1 : ¬ w2.heap.size = sb := by omega
 have n2 : ¬ sb = w2.heap.size := by omega
 unfold stepX
 go_wp2_with (with_reducible refine stop_load _ (.tmp 3) rfl ?_)
 unfold Stopped
 clear hc hf
 have HC4 := hide H3.out.clear
 have HX4 := hide (((putN_grown sb zTask _ 6).block _ (heap_lt HX3.out) (by simp; omega)).trans HX3.out)
 have HY4 := hide (((putN_grown sb zTask _ 6).block _ (heap_lt HY3.out) (by simpa using n1)).trans HY3.out)
 have HO4 := hide (own_grown HO3.out (putN_grown sb zTask _ 6) (fun e => by have := hn2 _ e; omega))
 simp only [putN, zTask, Nat.reduceAdd] at HC4 HX4 HY4 HO4
 generalize (World.setCell _ ⟨sb, 20, none⟩ (Value.slice none 0 0)) = W4 at HC4 HX4 HY4 HO4 ⊢
 have hcx := box_cells HX4.out
 have hfx := frozen_of_block HX4.out
 have hcy := box_cells HY4.out
 go_wp2_with fail
 clear hcx hfx hcy
 refine bodyPost_ret (results_cell_row rfl _ _ w.heap.size _ _ _ _ rfl (put3_box (.int .i64 2) (.int .u32 0) (.slice a2 L.length c2) HX4.out) undXs rfl (by kernel_rfl)) rfl ?_
 have hG := put3_grown W4 w.heap.size (.int .i64 2) (.int .u32 0) (.slice a2 L.length c2)
 have hlow : ∀ k, QV.owns ⟨vR, .slice none 0 0, .slice none 0 0⟩ [] sb k → k < w.heap.size := fun k e => by
  rcases e with (e | e | ⟨x, hx, _⟩) | ⟨v, hv, e⟩
  ·omega
  ·cases e
  ·cases hx
  ·rcases mem_reads.1 hv with rfl | rfl | ⟨x, hx, _⟩
   ·exact HLT.out k (.inr ⟨_, mem_reads.2 (.inl rfl), e⟩)
   ·cases e
   ·cases hx
 exact ⟨a2, c2, rfl, _, _, HC4.out.1.aside hG (fun e => by have := hlow _ e; omega), ((Fr.of_below HB3.out _).trans HC4.out.2).write hG (Nat.le_refl _), own_grown HO4.out hG (fun e => by have := hn2 _ e; omega), fun k e => ⟨by have := hn2 k e; omega, fun e2 => by have := hlow _ e2; have := hn2 k e; omega⟩⟩
end Go.Proofs.YtafoepfhepdcoaaGreat
