import Derived.Test.YtafoepfhepdcoaaGreatM43
import Derived.Test.YtafoepfhepdcoaaGreatM44
/- The program: what was asked is answered. -/
namespace Go.Proofs.YtafoepfhepdcoaaGreat
open Go.RowKit Go.Trawl

theorem buildT0 (W : World) : (Instr.build 148 #[]).run Tryz.prog W = .ok (.agg #[.nilFunc, .pointer none, .int .i64 0, .int .u16 0, .bool false, .int .i64 0, .bool false, .bool false, .bool false, .bool false, .int .i64 0, .slice none 0 0, .slice none 0 0, .slice none 0 0, .slice none 0 0]) W := run_build W _ _ _ (by kernel_rfl)
attribute [local go_sem] mf buildT0
def putN (b : Nat) : World → Nat → List Value → World
  | w, _, [] => w
  | w, o, x :: l => putN b (w.setCell ⟨b, o, none⟩ x) (o + 1) l
def setN : Array Value → Nat → List Value → Array Value
  | xs, _, [] => xs
  | xs, o, x :: l => setN (xs.setIfInBounds o x) (o + 1) l
theorem putN_grown (b : Nat) : ∀ (l : List Value) (w : World) (o : Nat), w.grownBy (putN b w o l) (some b)
  | [], _, _ => grownBy_refl _ _
  | x :: l, w, o => grownBy_trans (grownBy_setCell w b o x) (putN_grown b l _ _)
theorem putN_box (b : Nat) {t : TypeId} : ∀ (l : List Value) (w : World) (o : Nat) (xs : Array Value), w.heap[b]? = some (.cells xs t) → (putN b w o l).heap[b]? = some (.cells (setN xs o l) t)
  | [], _, _, _, h => h
  | x :: l, _, _, _, h => putN_box b l _ _ _ (heap_setCell_eq h x)
def zTask : List Value := [.nilFunc, .pointer none, .int .i64 0, .int .u16 0, .bool false, .int .i64 0, .bool false, .bool false, .bool false, .bool false, .int .i64 0, .slice none 0 0, .slice none 0 0, .slice none 0 0, .slice none 0 0]
theorem stop_load {P : Program} {w : World} {ops : Array Oper} {rest : List Oper} {o : Oper} {a : Act} {Q : Exit → Act → World → Prop} (t : TypeId) (x : Operand) (_ : o.op = .load t x) (h : Stopped (wpList P ops Q (o :: rest) a w)) : wpList P ops Q (o :: rest) a w := h
theorem QAt.clear {w : World} {sb : Nat} {s : QSt} {V : QV} {cs : List QC} (h : QAt w sb s V cs) : QAt (putN sb w 6 zTask) sb (idleQ s) ⟨V.vR, .slice none 0 0, .slice none 0 0⟩ [] ∧ Fr w (putN sb w 6 zTask) (V.owns cs sb) (QV.owns ⟨V.vR, .slice none 0 0, .slice none 0 0⟩ [] sb) := by
  have how : ∀ k, QV.owns ⟨V.vR, .slice none 0 0, .slice none 0 0⟩ [] sb k → V.owns cs sb k := by
    rintro k ((e | e | ⟨x, hx, _⟩) | ⟨v, hv, e⟩)
    · exact .inl (.inl e)
    · cases e
    · cases hx
    · rcases mem_reads.1 hv with rfl | rfl | ⟨x, hx, _⟩
      · exact .inr ⟨_, mem_reads.2 (.inl rfl), e⟩
      · cases e
      · cases hx
  have hg := putN_grown sb zTask w 6
  have hbx := putN_box sb zTask w 6 _ h.box
  have he : setN (qCells s V sb cs) 6 zTask = qCells (idleQ s) ⟨V.vR, .slice none 0 0, .slice none 0 0⟩ sb [] := by simp [setN, zTask, qCells, idleQ, zMsg, nextV, chPtr]
  rw [he] at hbx
  refine ⟨h.turn hg hbx rfl rfl (liesNil _ _) (World.ownsRow_nil _ _ _ _) rfl trivial (by simp) (fun v hv k e hw => ?_) (fun k e => h.lt k (how k e)), (Fr.of_below (Below.refl _ w) _).turn hg (.inl (.inl (.inl rfl))) (fun i hi => .inl (how i hi))⟩
  rcases mem_reads.1 hv with rfl | rfl | ⟨x, hx, _⟩
  · rcases hw with e2 | e2 | ⟨x, hx, _⟩
    · exact h.free _ (mem_reads.2 (.inl rfl)) k e (.inl e2)
    · cases e2
    · cases hx
  · cases e
  · cases hx

set_option maxRecDepth 10000 in
set_option maxHeartbeats 2000000 in
theorem q_finish (w : World) (sb : Nat) (s : QSt) (V : QV) (cs : List QC) (h : QAt w sb s V cs) (hok : QOk s) (hrp : s.reply.resp = true) :
    Calls Tryz.prog 171 #[.pointer (some ⟨sb, 0, none⟩)] w (QTells w sb V cs (idleQ s, (2, 0, replyL s.reply))) := by
  have hb1 := (Below.refl w.heap.size w).alloc (Nat.le_refl _) (.cells #[Value.int IntKind.i64 0, Value.int IntKind.u32 0, Value.slice none 0 0] 59)
  have HB1 := hide hb1
  have HLT := hide h.lt
  have hsl := h.slt
  have h1 := h.below hb1
  have hx1 := heap_new w (.cells #[Value.int IntKind.i64 0, Value.int IntKind.u32 0, Value.slice none 0 0] 59)
  have hz1 := alloc_size w (.cells #[Value.int IntKind.i64 0, Value.int IntKind.u32 0, Value.slice none 0 0] 59)
  have HMA : Hid (MsgAt (w.alloc (.cells #[Value.int IntKind.i64 0, Value.int IntKind.u32 0, Value.slice none 0 0] 59)) s.reply V.vq V.vK (.slice none 0 0) (.slice none 0 0)) := ⟨h1.qs, own_lies h1.kept (rcells_len' _) (by simp), by rw [hok.au]; exact liesNil _ _, by rw [hok.ex]; exact liesNil _ _⟩
  have H1 := hide h1
  have HX1 := hide hx1
  have HWF := hide hok.reply
  have HRP := hide hrp
  have hc := box_cells h1.box
  simp only [qCells] at hc
  obtain ⟨aK, cK, hvK⟩ := own_slice (show w.ownsRow 0 69 5 V.vK s.reply.an.length ((s.reply.an.map Rc.cells).flatten) from h.kept)
  obtain ⟨aq, cq, hvq, _⟩ := (show Lies w 3 V.vq (s.reply.qs.map Qn.cells) from h.qs)
  obtain ⟨vR, vq, vK⟩ := V
  dsimp only at hvK hvq
  subst hvK hvq
  clear h hok hb1 h1 hrp
  obtain ⟨L, hL⟩ : ∃ L, L = replyL s.reply := ⟨_, rfl⟩
  rw [← hL]
  have HL := hide hL
  clear hL
  unfold QTells
  go_enter Tryz.func171, Tryz.ntmps171
  go_wp2_with fail
  generalize w.alloc (.cells #[Value.int IntKind.i64 0, Value.int IntKind.u32 0, Value.slice none 0 0] 59) = W1 at HB1 H1 HX1 HMA hx1 hz1 hc ⊢
  refine (answer_new s.reply (.slice aq s.reply.qs.length cq) (.slice aK s.reply.an.length cK) (.slice none 0 0) (.slice none 0 0) W1 HWF.out HRP.out (by simpa only [List.length_map] using HMA.out)).mono ?_
  rintro e w2 ⟨a2, c2, rfl, H2⟩
  rw [← HL.out] at H2 ⊢
  have hb3 := (Below.refl w2.heap.size w2).alloc (Nat.le_refl _) (.cells #[.int .i64 2, .int .u32 0, .slice a2 L.length c2] 59)
  have HB3 := hide (HB1.out.trans ((H2.out.below.mono (by omega)).trans (hb3.mono (by have := H2.out.below.size; omega))))
  have hb13 := H2.out.below.trans (hb3.mono H2.out.below.size)
  have H3 := hide (H1.out.below hb13)
  have HX3 := hide ((hb13.block _ (heap_lt HX1.out)).trans HX1.out)
  have HY3 := hide (heap_new w2 (.cells #[.int .i64 2, .int .u32 0, .slice a2 L.length c2] 59))
  have HO3 := hide (own_below H2.out.own hb3)
  have hn2 := H2.out.new
  have hs2 := H2.out.below.size
  have hyl := heap_lt HX1.out
  clear hc hx1 hb13
  have hc := box_cells H3.out.box
  have hf := frozen_of_block H3.out.box
  simp only [qCells] at hc
  have n1 : ¬ w2.heap.size = sb := by omega
  have n2 : ¬ sb = w2.heap.size := by omega
  unfold stepX
  go_wp2_with (with_reducible refine stop_load _ (.tmp 3) rfl ?_)
  unfold Stopped
  clear hc hf
  have HC4 := hide H3.out.clear
  have HX4 := hide (((putN_grown sb zTask _ 6).block _ (heap_lt HX3.out) (by simp; omega)).trans HX3.out)
  have HY4 := hide (((putN_grown sb zTask _ 6).block _ (heap_lt HY3.out) (by simpa using n1)).trans HY3.out)
  have HO4 := hide (own_grown HO3.out (putN_grown sb zTask _ 6) (fun e => by have := hn2 _ e; omega))
  simp only [putN, zTask, Nat.reduceAdd] at HC4 HX4 HY4 HO4
  generalize (World.setCell _ ⟨sb, 20, none⟩ (Value.slice none 0 0)) = W4 at HC4 HX4 HY4 HO4 ⊢
  have hcx := box_cells HX4.out
  have hfx := frozen_of_block HX4.out
  have hcy := box_cells HY4.out
  go_wp2_with fail
  clear hcx hfx hcy
  refine bodyPost_ret (results_cell_row rfl _ _ w.heap.size _ _ _ _ rfl (put3_box (.int .i64 2) (.int .u32 0) (.slice a2 L.length c2) HX4.out) undXs rfl (by kernel_rfl)) rfl ?_
  have hG := put3_grown W4 w.heap.size (.int .i64 2) (.int .u32 0) (.slice a2 L.length c2)
  have hlow : ∀ k, QV.owns ⟨vR, .slice none 0 0, .slice none 0 0⟩ [] sb k → k < w.heap.size := fun k e => by
    rcases e with (e | e | ⟨x, hx, _⟩) | ⟨v, hv, e⟩
    · omega
    · cases e
    · cases hx
    · rcases mem_reads.1 hv with rfl | rfl | ⟨x, hx, _⟩
      · exact HLT.out k (.inr ⟨_, mem_reads.2 (.inl rfl), e⟩)
      · cases e
      · cases hx
  exact ⟨a2, c2, rfl, _, _, HC4.out.1.aside hG (fun e => by have := hlow _ e; omega), ((Fr.of_below HB3.out _).trans HC4.out.2).write hG (Nat.le_refl _), own_grown HO4.out hG (fun e => by have := hn2 _ e; omega), fun k e => ⟨by have := hn2 k e; omega, fun e2 => by have := hlow _ e2; have := hn2 k e; omega⟩⟩
end Go.Proofs.YtafoepfhepdcoaaGreat
