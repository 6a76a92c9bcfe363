import Derived.Test.YtafoepfhepdcoaaGreatM29
import Derived.Test.YtafoepfhepdcoaaGreatM30
import Derived.Test.YtafoepfhepdcoaaGreatM26
set_option maxRecDepth 100000
set_option maxHeartbeats 8000000
namespace Go.Proofs.YtafoepfhepdcoaaGreat
open Go.RowKit Go.Trawl
def freshSt (st : RSt) (m : Msg) (q : Qn) : RSt := { st with busy := true, asked := m, kept := [], seen := [q.name], l := [], spent := 0 }
def freshV (V : RV) (vq va vu vx : Value) (g : Nat) : RV := ⟨V.vR, vq, va, vu, vx, .slice none 0 0, .slice (some ⟨g, 0, none⟩) 1 1, .slice none 0 0⟩
theorem RefAt.begin {w W W' : World} {rb g : Nat} {st : RSt} {V : RV} {cs : List ChV} {m : Msg} {q : Qn} {vq va vu vx : Value} (h : RefAt W rb st V cs) (hf : Fr w W (V.owns cs rb) (V.owns cs rb)) (hm : MsgAt W m vq va vu vx)
  (hn : ∀ k, (vq.ownBlock = some k ∨ va.ownBlock = some k ∨ vu.ownBlock = some k ∨ vx.ownBlock = some k) → w.heap.size ≤ k ∧ k < W.heap.size) (hrb : rb < w.heap.size)
  (hbox : W'.heap[rb]? = some (.cells (refCells (freshSt st m q) (freshV V vq va vu vx g)) 163)) (hw : W.grownBy W' (some rb)) (hg : W'.heap[g]? = some (.cells #[.string q.name] 9)) (hgn : W.heap.size ≤ g) :
  RefAt W' rb (freshSt st m q) (freshV V vq va vu vx g) [] ∧ Fr w W' (V.owns cs rb) ((freshV V vq va vu vx g).owns [] rb) := by
 have hs := hw.size
 have nR : ∀ k, V.vR.ownBlock = some k → k ≠ rb ∧ k < W.heap.size := fun k hk => ⟨fun e => h.free V.vR (by simp [RV.reads]) k hk (.inl e), h.lt k (.inr ⟨V.vR, by simp [RV.reads], hk⟩)⟩
 have key : ∀ v : Value, (∀ k, v.ownBlock = some k → k ≠ rb) → ∀ b, v.ownBlock = some b → b < W.heap.size → W'.heap[b]? = W.heap[b]? := fun v hv b hb hlt => hw.block b hlt (fun e => hv b hb (Option.some.inj e))
 have nm : ∀ k, (vq.ownBlock = some k ∨ va.ownBlock = some k ∨ vu.ownBlock = some k ∨ vx.ownBlock = some k) → k ≠ rb := fun k hk => by have := hn k hk; omega
 have hrd : ∀ v ∈ (freshV V vq va vu vx g).reads [], ∀ k, v.ownBlock = some k → k ≠ rb ∧ k < W.heap.size ∧ (V.owns cs rb k ∨ w.heap.size ≤ k) := by
  intro v hv k hk
  simp only [RV.reads, freshV, List.flatMap_nil, List.mem_cons, List.not_mem_nil, or_false] at hv
  rcases hv with e | e | e | e | e <;> rw [e] at hk
  ·exact ⟨(nR k hk).1, (nR k hk).2, .inl (.inr ⟨V.vR, by simp [RV.reads], hk⟩)⟩
  ·exact ⟨nm k (.inl hk), (hn k (.inl hk)).2, .inr (hn k (.inl hk)).1⟩
  ·exact ⟨nm k (.inr (.inl hk)), (hn k (.inr (.inl hk))).2, .inr (hn k (.inr (.inl hk))).1⟩
  ·exact ⟨nm k (.inr (.inr (.inl hk))), (hn k (.inr (.inr (.inl hk)))).2, .inr (hn k (.inr (.inr (.inl hk)))).1⟩
  ·exact ⟨nm k (.inr (.inr (.inr hk))), (hn k (.inr (.inr (.inr hk)))).2, .inr (hn k (.inr (.inr (.inr hk)))).1⟩
 have hwr : ∀ k, (freshV V vq va vu vx g).writes rb k → k = rb ∨ k = g := by
  intro k hk
  rcases hk with e | e | e | e
  ·exact .inl e
  ·cases e
  ·exact .inr (Option.some.inj e).symm
  ·cases e
 have hgl := hl_ hg
 refine ⟨⟨hbox, rfl, h.roots.keep hs (key _ fun k hk => (nR k hk).1), ⟨hm.q.keep hs (key _ fun k hk => nm k (.inl hk)), hm.a.keep hs (key _ fun k hk => nm k (.inr (.inl hk))), hm.u.keep hs (key _ fun k hk => nm k (.inr (.inr (.inl hk)))), hm.x.keep hs (key _ fun k hk => nm k (.inr (.inr (.inr hk))))⟩, World.ownsRow_nil _ _ _ _,
  ⟨rfl, .inr ⟨g, 1, _, rfl, Nat.zero_le _, hg, Nat.le_refl _, by unfold maxLen; omega, rfl, rfl⟩⟩, World.ownsRow_nil _ _ _ _, (fun c hc => by cases hc), ?_, ?_, (fun c hc => by cases hc)⟩, ?_⟩
 ·intro v hv k hk hwk
  have h1 := hrd v hv k hk
  rcases hwr k hwk with e | e
  ·exact h1.1 e
  ·omega
 ·intro k hk
  rcases hk with hk | ⟨v, hv, hk⟩
  ·rcases hwr k hk with e | e
   ·have := hf.size; omega
   ·omega
  ·have := hrd v hv k hk; omega
 ·refine ⟨hw.os.trans hf.os, hw.tape.trans hf.tape, hw.output.trans hf.output, Nat.le_trans hf.size hs, fun k hk hno => ?_, fun k hk => ?_⟩
  ·rw [hw.block k (Nat.lt_of_lt_of_le hk hf.size) (fun e => hno (.inl (.inl (Option.some.inj e))))]
   exact hf.block k hk hno
  ·rcases hk with hk | ⟨v, hv, hk⟩
   ·rcases hwr k hk with e | e
    ·exact .inl (.inl (.inl e))
    ·exact .inr (by have := hf.size; omega)
   ·exact (hrd v hv k hk).2.2
def putMsg (w : World) (rb : Nat) (v0 v1 v2 v3 v4 v5 v6 v7 v8 v9 v10 v11 : Value) : World :=
 (((((((((((w.setCell ⟨rb, 7, none⟩ v0).setCell ⟨rb, 8, none⟩ v1).setCell ⟨rb, 9, none⟩ v2).setCell ⟨rb, 10, none⟩ v3).setCell ⟨rb, 11, none⟩ v4).setCell ⟨rb, 12, none⟩ v5).setCell ⟨rb, 13, none⟩ v6).setCell ⟨rb, 14, none⟩ v7).setCell ⟨rb, 15, none⟩ v8).setCell ⟨rb, 16, none⟩ v9).setCell ⟨rb, 17, none⟩ v10).setCell ⟨rb, 18, none⟩ v11
theorem putMsg_box {w : World} {rb : Nat} {st : RSt} {V : RV} (v0 v1 v2 v3 v4 v5 v6 v7 v8 v9 v10 v11 : Value) (hz : w.heap[rb]? = some (.cells (refCells st V) 163)) : (putMsg w rb v0 v1 v2 v3 v4 v5 v6 v7 v8 v9 v10 v11).heap[rb]? =
  some (.cells #[.int .i64 st.b, .int .i64 st.d, .int .i64 st.c, .int .i64 st.t, V.vR, .int .u16 st.id, .bool st.busy, v0, v1, v2, v3, v4, v5, v6, v7, v8, v9, v10, v11, V.vK, V.vS, V.vL, .int .i64 st.spent, .int .u32 st.to, .string st.ans] 163) := by
 unfold putMsg
 rw [hs_ (hs_ (hs_ (hs_ (hs_ (hs_ (hs_ (hs_ (hs_ (hs_ (hs_ (hs_ hz _) _) _) _) _) _) _) _) _) _) _) _]
 kernel_rfl
theorem putMsg_grown (w : World) (rb : Nat) (v0 v1 v2 v3 v4 v5 v6 v7 v8 v9 v10 v11 : Value) : w.grownBy (putMsg w rb v0 v1 v2 v3 v4 v5 v6 v7 v8 v9 v10 v11) (some rb) := by
 unfold putMsg
 iterate 11 refine gt_ ?_ (gs_ _ _ _ _)
 exact gs_ _ _ _ _
theorem grown_alloc' (w : World) (o : Obj) (r : Option Nat) : w.grownBy (w.alloc o) r := ⟨rfl, rfl, rfl, by rw [as_]; omega, fun k hk _ => Below.heap_alloc w o k hk⟩
def Stopped (p : Prop) : Prop := p
theorem stop_store {P : Program} {w : World} {ops : Array Oper} {rest : List Oper} {o : Oper} {a : Act} {Q : Exit → Act → World → Prop} (t : TypeId) (x y : Operand) (_ : o.op = .store t x y) (h : Stopped (wpList P ops Q (o :: rest) a w)) : wpList P ops Q (o :: rest) a w := h
theorem rAsk_go (w : World) (rb : Nat) (st : RSt) (V : RV) (cs : List ChV) (s : ByteArray) (m : Msg) (q : Qn) (h : RefAt w rb st V cs) (hok : StOk st) (hbz : st.busy = false) (hs : ¬ s.size < 12) (hsm : s.size ≤ 2097152) (hu : unpack s = some m) (hr : m.resp = false) (hq : m.qs = [q]) (hop : m.op = 0) (hcl : q.cls = 1) :
  Calls Tryz.prog 53 #[.pointer (some ⟨rb, 0, none⟩), .string s] w (Answers w rb V cs ((askP (beginSt st m q) [] (freshCh st q.name q.kind)).1, (askP (beginSt st m q) [] (freshCh st q.name q.kind)).2, 0)) := by
 have H1 := hide (Begun.start h)
 have hrb : rb < w.heap.size := hl_ h.box
 clear h
 unfold Answers
 obtain ⟨p, hp⟩ : ∃ p, p = askP (beginSt st m q) [] (freshCh st q.name q.kind) := ⟨_, rfl⟩
 rw [← hp]
 have HP := hide hp
 clear hp
 dsimp only
 have hc := bc_ H1.out.ref.box
 simp only [refCells, hbz] at hc
 have HOK := hide hok
 have HU := hide hu
 have HN := hide ((unpack_named hu).q q (by rw [hq]; simp))
 clear hu hok
 go_enter Tryz.func53, Tryz.ntmps53
 go_wp2_with fail
 generalize w.alloc _ = W1 at H1 hc ⊢
 clear hc
 refine (rUnpack2 W1 s hsm).mono ?_
 rw [(unM_some HU.out).1, (unM_some HU.out).2]
 rintro e w2 ⟨aq, cq, aa, ca, au, cu, ax, cx, rfl, H2⟩
 have HB2 := hide H2.out.1
 have HAT2 := hide H2.out.2.1
 have HNW2 := hide H2.out.2.2
 clear H2
 obtain ⟨id, rp, op, ow, ct, wa, ab, cd, qs, an, au', ex⟩ := m
 dsimp only at hr hq hop HAT2 HNW2
 subst hr hq hop
 have HBG2 := hide (H1.out.below HB2.out)
 have hwW1 : w.heap.size < W1.heap.size := hl_ H1.out.res
 clear HB2 H1
 obtain ⟨b, off, rfl, c0, c1, c2⟩ := q_one HAT2.out.q
 have hbn := HNW2.out b (.inl rfl)
 have hB := (Below.refl w2.heap.size w2).alloc (Nat.le_refl _) (.cells #[.int .u16 id, .bool false, .int .i64 0, .bool ow, .bool ct, .bool wa, .bool ab, .int .i64 cd, .slice (some ⟨b, off, none⟩) 1 cq, .slice aa an.length ca, .slice au au'.length cu, .slice ax ex.length cx] 30)
 have HBG3 := hide (HBG2.out.below hB)
 have HAT3 := hide (HAT2.out.below hB)
 have hcm := bc_ (hn_ w2 (.cells #[.int .u16 id, .bool false, .int .i64 0, .bool ow, .bool ct, .bool wa, .bool ab, .int .i64 cd, .slice (some ⟨b, off, none⟩) 1 cq, .slice aa an.length ca, .slice au au'.length cu, .slice ax ex.length cx] 30))
 obtain ⟨b2, off2, he, d0, d1, d2⟩ := q_one HAT3.out.q
 cases he
 rw [hcl] at d2
 have HD0 := hide d0
 have HD1 := hide d1
 have HBN := hide hbn
 have HW1 := hide hwW1
 have HM3 := hide (hn_ w2 (.cells #[.int .u16 id, .bool false, .int .i64 0, .bool ow, .bool ct, .bool wa, .bool ab, .int .i64 cd, .slice (some ⟨b, off, none⟩) 1 cq, .slice aa an.length ca, .slice au au'.length cu, .slice ax ex.length cx] 30))
 have HZ3 := hide (as_ w2 (.cells #[.int .u16 id, .bool false, .int .i64 0, .bool ow, .bool ct, .bool wa, .bool ab, .int .i64 cd, .slice (some ⟨b, off, none⟩) 1 cq, .slice aa an.length ca, .slice au au'.length cu, .slice ax ex.length cx] 30))
 clear d0 d1 hbn hwW1
 clear hB c0 c1 c2 HAT2 HBG2
 simp only [mc_, List.length_singleton]
 go_wp2_with (with_reducible refine stop_store _ (.tmp 70) _ rfl ?_)
 unfold Stopped
 have hcM := bc_ HM3.out
 generalize w2.alloc _ = W3 at HBG3 HAT3 HD0 HD1 HM3 HZ3 hcm d2 hcM ⊢
 clear hcm d2
 have hc3 := bc_ HBG3.out.ref.box
 simp only [refCells] at hc3
 have hf3 := fz_ HBG3.out.ref.box
 have hMr : ¬ rb = w2.heap.size := by have := HBN.out; have := HW1.out; omega
 go_wp2_with (with_reducible refine stop_store _ (.tmp 74) _ rfl ?_)
 unfold Stopped
 have HX4 : Hid ((W3.setCell ⟨rb, 6, none⟩ (.bool true)).heap[rb]? = some (.cells (refCells { st with busy := true } V) 163)) := by
  show _ = _
  rw [hs_ HBG3.out.ref.box]
  rfl
 have HG4 := hide (gs_ W3 rb 6 (.bool true))
 generalize W3.setCell ⟨rb, 6, none⟩ (.bool true) = W4 at HX4 HG4 ⊢
 clear hc3 hf3 hcM
 have hc3 := bc_ HX4.out
 simp only [refCells] at hc3
 have hf3 := fz_ HX4.out
 go_wp2_with (with_reducible refine stop_store _ (.tmp 77) _ rfl ?_)
 unfold Stopped
 have HX5 := hide (putMsg_box (.int .u16 id) (.bool false) (.int .i64 0) (.bool ow) (.bool ct) (.bool wa) (.bool ab) (.int .i64 cd) (.slice (some ⟨b, off, none⟩) 1 cq) (.slice aa an.length ca) (.slice au au'.length cu) (.slice ax ex.length cx) HX4.out)
 have HG5 := hide (gt_ HG4.out (putMsg_grown W4 rb (.int .u16 id) (.bool false) (.int .i64 0) (.bool ow) (.bool ct) (.bool wa) (.bool ab) (.int .i64 cd) (.slice (some ⟨b, off, none⟩) 1 cq) (.slice aa an.length ca) (.slice au au'.length cu) (.slice ax ex.length cx)))
 unfold putMsg at HX5 HG5
 generalize (World.setCell _ ⟨rb, 18, none⟩ (Value.slice ax ex.length cx)) = W5 at HX5 HG5 ⊢
 clear hc3 hf3 HX4 HG4
 have hc5 := bc_ HX5.out
 have hf5 := fz_ HX5.out
 have hM5 := (HG5.out.block w2.heap.size (hl_ HM3.out) (by have := hMr; simpa using fun e => hMr e.symm)).trans HM3.out
 have hcM := bc_ hM5
 have hbr : ¬ rb = b := by have := HBN.out; have := HW1.out; omega
 have HB5 := hide (HG5.out.block b (by have := HBN.out; have := HZ3.out; omega) (by simpa using fun e => hbr e.symm))
 have d0 : W5.cell? ⟨b, off, none⟩ = some (.string q.name) := cell_of_heap HB5.out HD0.out
 have d1 : W5.cell? ⟨b, off + 1, none⟩ = some (.int .u16 q.kind) := cell_of_heap HB5.out HD1.out
 clear hM5
 go_wp2_with (with_reducible refine stop_store _ (.tmp 86) _ rfl ?_)
 unfold Stopped
 clear hc5 hf5 hcM d0 d1
 have hg0 : (W5.setCell ⟨rb, 19, none⟩ (.slice none 0 0)).heap.size = W5.heap.size := by simp [World.setCell]
 have hx6 := hs_ (j := 19) HX5.out (.slice none 0 0)
 have HX6 := hide (heap_old hx6 (.cells #[.string q.name] 9))
 have HY6 := hide (hn_ (W5.setCell ⟨rb, 19, none⟩ (.slice none 0 0)) (.cells #[.string q.name] 9))
 have hG6 : W3.grownBy ((W5.setCell ⟨rb, 19, none⟩ (.slice none 0 0)).alloc (.cells #[.string q.name] 9)) (some rb) := gt_ HG5.out (gt_ (gs_ W5 rb 19 _) (grown_alloc' _ _ _))
 have HG6 := hide hG6
 rw [hg0] at HY6
 have HZ5 := hide HG5.out.size
 clear hG6 hx6
 generalize (W5.setCell ⟨rb, 19, none⟩ (.slice none 0 0)).alloc (.cells #[.string q.name] 9) = W6 at HX6 HY6 HG6 ⊢
 clear hg0 HG5 HX5 HB5
 generalize W5.heap.size = g at HY6 HZ5 ⊢
 have hc6 := bc_ HX6.out
 have hf6 := fz_ HX6.out
 have hM6 := (HG6.out.block w2.heap.size (hl_ HM3.out) (by simpa using fun e => hMr e.symm)).trans HM3.out
 have HB6 := hide (HG6.out.block b (by have := HBN.out; have := HZ3.out; omega) (by simpa using fun e => hbr e.symm))
 have hcM := bc_ hM6
 have d0 : W6.cell? ⟨b, off, none⟩ = some (.string q.name) := cell_of_heap HB6.out HD0.out
 have d1 : W6.cell? ⟨b, off + 1, none⟩ = some (.int .u16 q.kind) := cell_of_heap HB6.out HD1.out
 clear hM6
 go_wp2_with fail
 clear hc6 hf6 hcM d0 d1
 have hx7 := hs_ (j := 22) (hs_ (j := 21) (hs_ (j := 20) HX6.out (.slice (some ⟨g, 0, none⟩) 1 1)) (.slice none 0 0)) (.int .i64 0)
 have hG7 := gt_ (gt_ (gt_ HG6.out (gs_ W6 rb 20 (.slice (some ⟨g, 0, none⟩) 1 1))) (gs_ _ rb 21 (.slice none 0 0))) (gs_ _ rb 22 (.int .i64 0))
 have hgr : g ≠ rb := by have := HZ5.out; have := HZ3.out; have := HW1.out; have := HBN.out; omega
 have hy7 : (((W6.setCell ⟨rb, 20, none⟩ (.slice (some ⟨g, 0, none⟩) 1 1)).setCell ⟨rb, 21, none⟩ (.slice none 0 0)).setCell ⟨rb, 22, none⟩ (.int .i64 0)).heap[g]? = some (.cells #[.string q.name] 9) := by
  rw [Below.heap_setCell _ _ _ _ (show g ≠ (⟨rb, 22, none⟩ : Addr).block from hgr), Below.heap_setCell _ _ _ _ (show g ≠ (⟨rb, 21, none⟩ : Addr).block from hgr), Below.heap_setCell _ _ _ _ (show g ≠ (⟨rb, 20, none⟩ : Addr).block from hgr)]
  exact HY6.out
 have HX7 := hide hx7
 have HG7 := hide hG7
 have HY7 := hide hy7
 clear hx7 hG7 hy7
 generalize (((W6.setCell ⟨rb, 20, none⟩ (.slice (some ⟨g, 0, none⟩) 1 1)).setCell ⟨rb, 21, none⟩ (.slice none 0 0)).setCell ⟨rb, 22, none⟩ (.int .i64 0)) = W7 at HX7 HG7 HY7 ⊢
 obtain ⟨m, hm⟩ : ∃ m : Msg, m = ⟨id, false, 0, ow, ct, wa, ab, cd, [q], an, au', ex⟩ := ⟨_, rfl⟩
 have HWF : Hid (WfM m) := by rw [hm]; exact unpack_wf HU.out
 have HRF : Hid (RefAt W7 rb (freshSt st m q) (freshV V (.slice (some ⟨b, off, none⟩) 1 cq) (.slice aa an.length ca) (.slice au au'.length cu) (.slice ax ex.length cx) g) [] ∧ Fr w W7 (V.owns cs rb) ((freshV V (.slice (some ⟨b, off, none⟩) 1 cq) (.slice aa an.length ca) (.slice au au'.length cu) (.slice ax ex.length cx) g).owns [] rb)) := by
  refine HBG3.out.ref.begin HBG3.out.fr (by rw [hm]; exact HAT3.out) (fun k hk => ?_) hrb ?_ HG7.out HY7.out HZ5.out
  ·have h1 := HNW2.out k hk
   have h2 := HZ3.out
   have h3 := HW1.out
   exact ⟨by omega, by omega⟩
  ·rw [HX7.out, hm]
   kernel_rfl
 have HP' : Hid (p = askP (beginSt st m q) [] (freshCh st q.name q.kind)) := by rw [hm]; exact HP.out
 have hM7 := (HG7.out.block w2.heap.size (hl_ HM3.out) (by simpa using fun e => hMr e.symm)).trans HM3.out
 have HB7 := hide (HG7.out.block b (by have := HBN.out; have := HZ3.out; omega) (by simpa using fun e => hbr e.symm))
 have hcM := bc_ hM7
 have HLM : Hid (w2.heap.size < W7.drew.heap.size) := hl_ hM7
 have d0 : W7.cell? ⟨b, off, none⟩ = some (.string q.name) := cell_of_heap HB7.out HD0.out
 have d1 : W7.cell? ⟨b, off + 1, none⟩ = some (.int .u16 q.kind) := cell_of_heap HB7.out HD1.out
 have HRES : Hid (W7.heap[w.heap.size]? = some (.cells #[.int .i64 0, .int .u32 0, .string ⟨#[]⟩] 111)) := (HG7.out.block w.heap.size (hl_ HBG3.out.res) (by simp; omega)).trans HBG3.out.res
 have HLT := hide HBG3.out.lt
 have HNO : Hid (¬ (freshV V (.slice (some ⟨b, off, none⟩) 1 cq) (.slice aa an.length ca) (.slice au au'.length cu) (.slice ax ex.length cx) g).owns [] rb w.heap.size) := by
  have h2 := HZ3.out
  have h3 := HW1.out
  have h5 := HZ5.out
  have h6 := HBN.out
  rintro ((e | e | e | e) | ⟨v, hv, hk⟩)
  ·omega
  ·cases e
  ·have : g = w.heap.size := Option.some.inj e
   omega
  ·cases e
  ·simp only [RV.reads, freshV, List.flatMap_nil, List.mem_cons, List.not_mem_nil, or_false] at hv
   rcases hv with e | e | e | e | e <;> rw [e] at hk
   ·have := HLT.out w.heap.size (.inr ⟨V.vR, by simp [RV.reads], hk⟩); omega
   ·have := HNW2.out _ (.inl hk); omega
   ·have := HNW2.out _ (.inr (.inl hk)); omega
   ·have := HNW2.out _ (.inr (.inr (.inl hk))); omega
   ·have := HNW2.out _ (.inr (.inr (.inr hk))); omega
 have HNM : Hid (¬ (freshV V (.slice (some ⟨b, off, none⟩) 1 cq) (.slice aa an.length ca) (.slice au au'.length cu) (.slice ax ex.length cx) g).owns [] rb w2.heap.size) := by
  have h2 := HZ3.out
  have h3 := HW1.out
  have h5 := HZ5.out
  have h6 := HBN.out
  rintro ((e | e | e | e) | ⟨v, hv, hk⟩)
  ·omega
  ·cases e
  ·have : g = w2.heap.size := Option.some.inj e
   omega
  ·cases e
  ·simp only [RV.reads, freshV, List.flatMap_nil, List.mem_cons, List.not_mem_nil, or_false] at hv
   rcases hv with e | e | e | e | e <;> rw [e] at hk
   ·have := HLT.out w2.heap.size (.inr ⟨V.vR, by simp [RV.reads], hk⟩); omega
   ·have := HNW2.out _ (.inl hk); omega
   ·have := HNW2.out _ (.inr (.inl hk)); omega
   ·have := HNW2.out _ (.inr (.inr (.inl hk))); omega
   ·have := HNW2.out _ (.inr (.inr (.inr hk))); omega
 have HMQ : Hid (m.qs = [q]) := by show _ = _; rw [hm]
 clear hm hM7 HB7 HB6 HX6 HY6 HG6 HX7 HG7 HY7 HP HU HAT3 HNW2 HM3 HZ3 HBG3 HD0 HD1 HZ5 HW1 HBN
 generalize hVF : freshV V (.slice (some ⟨b, off, none⟩) 1 cq) (.slice aa an.length ca) (.slice au au'.length cu) (.slice ax ex.length cx) g = VF at HRF HNO HNM
 have HVQ : Hid (VF.vq = .slice (some ⟨b, off, none⟩) 1 cq) := by show _ = _; rw [← hVF]; rfl
 clear hVF
 have hbd : Below W7.heap.size W7 W7.drew := below_drewN (Below.refl W7.heap.size W7) 1
 have HR8 := hide (HRF.out.1.keep hbd)
 have HF8 := hide (HRF.out.2.trans (Fr.of_below hbd _))
 have HRES8 := hide ((hbd.block _ (hl_ HRES.out)).trans HRES.out)
 have HS8 : Hid (∀ (w8 : World) (v' : Value) (cs' : List ChV) (st' : RSt), st'.asked = m → RefAt w8 rb st' (withL VF v') cs' → Fr W7.drew w8 (VF.owns [] rb) ((withL VF v').owns cs' rb) → w8.cell? ⟨w2.heap.size, 8, none⟩ = some (.slice (some ⟨b, off, none⟩) 1 cq) ∧ w8.cell? ⟨b, off, none⟩ = some (.string q.name) ∧ w8.cell? ⟨b, off + 1, none⟩ = some (.int .u16 q.kind)) := by
  intro w8 v' cs' st' ha h8 f8
  have hq := h8.asked.q
  rw [ha, HMQ.out, show (withL VF v').vq = VF.vq from rfl, HVQ.out] at hq
  obtain ⟨b2, off2, he, e0, e1, _⟩ := q_one hq
  cases he
  refine ⟨?_, e0, e1⟩
  have hbk := f8.block w2.heap.size HLM.out HNM.out
  exact cell_of_heap hbk (by show W7.cell? _ = _; rw [hcM]; rfl)
 clear hbd
 go_region_held3 (fun w' => w'.cell? ⟨w2.heap.size, 8, none⟩ = some (.slice (some ⟨b, off, none⟩) 1 cq) ∧ w'.cell? ⟨b, off, none⟩ = some (.string q.name) ∧ w'.cell? ⟨b, off + 1, none⟩ = some (.int .u16 q.kind)) (first | (go_keep; done) | (exact hs8)) (first | (go_at_call 88; refine (chase_any W7.drew rb (freshSt st m q) VF [] q.name q.kind HR8.out (by simp)).mono ?_; rintro e w8 ⟨rfl, H8⟩; obtain ⟨v', h8, f8⟩ := H8.out; have hs8 := HS8.out w8 v' _ _ rfl h8 f8))
 clear hcM d0 d1 hs8
 have H9 : Hid (RefAt w8 rb (beginSt st m q) (withL VF v') ([] ++ [⟨freshCh st q.name q.kind, VF.vR, .slice none 0 0⟩])) := h8
 have HF9 := hide (HF8.out.trans f8)
 have HRES9 := hide ((f8.block w.heap.size (hl_ HRES8.out) HNO.out).trans HRES8.out)
 have HNO9 : Hid (¬ (withL VF v').owns ([] ++ [⟨freshCh (freshSt st m q) q.name q.kind, VF.vR, .slice none 0 0⟩]) rb w.heap.size) := fun e => by
  rcases f8.new _ e with e | e
  ·exact HNO.out e
  ·have := hl_ HRES8.out; omega
 clear h8 f8 H8 HR8 HF8 HRES8 HRF HRES
 have hok : StOk (beginSt st m q) := by
  have h := HOK.out
  have hn := named_wf HN.out
  exact ⟨h.b0, h.b1, h.d0, h.d1, h.c0, h.c1, h.t0, h.t1, h.r0, h.r1, h.id0, h.id1, HWF.out, Nat.zero_le _, (fun r hr => by cases hr), by simp [beginSt], (fun x hx => by simp [beginSt] at hx; subst hx; exact hn.name), by simp [beginSt], (fun c hc => by
   simp [beginSt] at hc
   subst hc
   exact fresh_ok h q.name hn.name q.kind hn.k0 hn.k1), Nat.zero_le _⟩
 have HOK9 := hide hok
 have HNE : Hid (st.roots ≠ []) := fun e => by have := HOK.out.r0; rw [e] at this; simp at this
 clear hok
 go_wp2_with fail
 refine (send_low w8 rb (beginSt st m q) (withL VF v') [] ⟨freshCh st q.name q.kind, VF.vR, .slice none 0 0⟩ H9.out HOK9.out HNE.out (by have := HOK.out.t0; show ((0 : Nat) : Int) < st.t; omega)).mono ?_
 rintro e w10 ⟨he, H10⟩
 have he2 : e = .returned p.2 := by rw [he, HP'.out]; rfl
 subst he2
 clear he
 obtain ⟨k, t, s', hst⟩ : ∃ k t s, p.2 = stepV k t s := by rw [HP'.out]; exact askP_step _ _ _
 rw [hst]
 obtain ⟨V', cs', h10, f10⟩ := H10.out
 have H11 : Hid (RefAt w10 rb p.1 V' cs') := by show RefAt _ _ _ _ _; rw [HP'.out]; exact h10
 have HF11 := hide (HF9.out.trans f10)
 have HRES11 := hide ((f10.block w.heap.size (hl_ HRES9.out) HNO9.out).trans HRES9.out)
 have HNO11 : Hid (¬ V'.owns cs' rb w.heap.size) := fun e => by
  rcases f10.new _ e with e | e
  ·exact HNO9.out e
  ·have := hl_ HRES9.out; omega
 clear h10 f10 H10
 unfold stepV
 have hcz := bc_ HRES11.out
 have hfz := fz_ HRES11.out
 go_wp2_with fail
 clear hcz hfz
 refine bodyPost_ret (rr_ rfl _ _ w.heap.size _ _ _ _ rfl (pb_ (.int .i64 k) (.int .u32 t) (.string s') HRES11.out) undSt rfl (by kernel_rfl)) rfl ?_
 have hG := pg_ w10 w.heap.size (.int .i64 k) (.int .u32 t) (.string s')
 exact ⟨by rw [hst]; rfl, V', cs', H11.out.aside hG HNO11.out, HF11.out.write hG (Nat.le_refl _)⟩
theorem buildT0 (W : World) : (Instr.build 148 #[]).run Tryz.prog W = .ok (.agg #[.nilFunc, .pointer none, .int .i64 0, .int .u16 0, .bool false, .int .i64 0, .bool false, .bool false, .bool false, .bool false, .int .i64 0, .slice none 0 0, .slice none 0 0, .slice none 0 0, .slice none 0 0]) W := run_build W _ _ _ (by kernel_rfl)
attribute [local go_sem] mf buildT0
def putN (b : Nat) : World → Nat → List Value → World
 | w, _, [] => w
 | w, o, x :: l => putN b (w.setCell ⟨b, o, none⟩ x) (o + 1) l
def setN : Array Value → Nat → List Value → Array Value
 | xs, _, [] => xs
 | xs, o, x :: l => setN (xs.setIfInBounds o x) (o + 1) l
theorem putN_grown (b : Nat) : ∀ (l : List Value) (w : World) (o : Nat), w.grownBy (putN b w o l) (some b)
 | [], _, _ => grownBy_refl _ _
 | x :: l, w, o => gt_ (gs_ w b o x) (putN_grown b l _ _)
theorem putN_box (b : Nat) {t : TypeId} : ∀ (l : List Value) (w : World) (o : Nat) (xs : Array Value), w.heap[b]? = some (.cells xs t) → (putN b w o l).heap[b]? = some (.cells (setN xs o l) t)
 | [], _, _, _, h => h
 | x :: l, _, _, _, h => putN_box b l _ _ _ (hs_ h x)
def zTask : List Value := [.nilFunc, .pointer none, .int .i64 0, .int .u16 0, .bool false, .int .i64 0, .bool false, .bool false, .bool false, .bool false, .int .i64 0, .slice none 0 0, .slice none 0 0, .slice none 0 0, .slice none 0 0]
theorem stop_load {P : Program} {w : World} {ops : Array Oper} {rest : List Oper} {o : Oper} {a : Act} {Q : Exit → Act → World → Prop} (t : TypeId) (x : Operand) (_ : o.op = .load t x) (h : Stopped (wpList P ops Q (o :: rest) a w)) : wpList P ops Q (o :: rest) a w := h
theorem QAt.clear {w : World} {sb : Nat} {s : QSt} {V : QV} {cs : List QC} (h : QAt w sb s V cs) : QAt (putN sb w 6 zTask) sb (idleQ s) ⟨V.vR, .slice none 0 0, .slice none 0 0⟩ [] ∧ Fr w (putN sb w 6 zTask) (V.owns cs sb) (QV.owns ⟨V.vR, .slice none 0 0, .slice none 0 0⟩ [] sb) := by
 have how : ∀ k, QV.owns ⟨V.vR, .slice none 0 0, .slice none 0 0⟩ [] sb k → V.owns cs sb k := by
  rintro k ((e | e | ⟨x, hx, _⟩) | ⟨v, hv, e⟩)
  ·exact .inl (.inl e)
  ·cases e
  ·cases hx
  ·rcases mr_.1 hv with rfl | rfl | ⟨x, hx, _⟩
   ·exact .inr ⟨_, mr_.2 (.inl rfl), e⟩
   ·cases e
   ·cases hx
 have hg := putN_grown sb zTask w 6
 have hbx := putN_box sb zTask w 6 _ h.box
 have he : setN (qCells s V sb cs) 6 zTask = qCells (idleQ s) ⟨V.vR, .slice none 0 0, .slice none 0 0⟩ sb [] := by simp [setN, zTask, qCells, idleQ, zMsg, nextV, chPtr]
 rw [he] at hbx
 refine ⟨h.turn hg hbx rfl rfl (liesNil _ _) (World.ownsRow_nil _ _ _ _) rfl trivial (by simp) (fun v hv k e hw => ?_) (fun k e => h.lt k (how k e)), (Fr.of_below (Below.refl _ w) _).turn hg (.inl (.inl (.inl rfl))) (fun i hi => .inl (how i hi))⟩
 rcases mr_.1 hv with rfl | rfl | ⟨x, hx, _⟩
 ·rcases hw with e2 | e2 | ⟨x, hx, _⟩
  ·exact h.free _ (mr_.2 (.inl rfl)) k e (.inl e2)
  ·cases e2
  ·cases hx
 ·cases e
 ·cases hx
theorem q_finish (w : World) (sb : Nat) (s : QSt) (V : QV) (cs : List QC) (h : QAt w sb s V cs) (hok : QOk s) (hrp : s.reply.resp = true) :
  Calls Tryz.prog 171 #[.pointer (some ⟨sb, 0, none⟩)] w (QTells w sb V cs (idleQ s, (2, 0, replyL s.reply))) := by
 have hb1 := (Below.refl w.heap.size w).alloc (Nat.le_refl _) (.cells #[.int .i64 0, .int .u32 0, .slice none 0 0] 59)
 have HB1 := hide hb1
 have HLT := hide h.lt
 have hsl := h.slt
 have h1 := h.below hb1
 have hx1 := hn_ w (.cells #[.int .i64 0, .int .u32 0, .slice none 0 0] 59)
 have hz1 := as_ w (.cells #[.int .i64 0, .int .u32 0, .slice none 0 0] 59)
 have HMA : Hid (MsgAt (w.alloc (.cells #[.int .i64 0, .int .u32 0, .slice none 0 0] 59)) s.reply V.vq V.vK (.slice none 0 0) (.slice none 0 0)) := ⟨h1.qs, own_lies h1.kept (rcells_len' _) (by simp), by rw [hok.au]; exact liesNil _ _, by rw [hok.ex]; exact liesNil _ _⟩
 have H1 := hide h1
 have HX1 := hide hx1
 have HWF := hide hok.reply
 have HRP := hide hrp
 have hc := bc_ h1.box
 simp only [qCells] at hc
 obtain ⟨aK, cK, hvK⟩ := os_ (show w.ownsRow 0 69 5 V.vK s.reply.an.length ((s.reply.an.map Rc.cells).flatten) from h.kept)
 obtain ⟨aq, cq, hvq, _⟩ := (show Lies w 3 V.vq (s.reply.qs.map Qn.cells) from h.qs)
 obtain ⟨vR, vq, vK⟩ := V
 dsimp only at hvK hvq
 subst hvK hvq
 clear h hok hb1 h1 hrp
 obtain ⟨L, hL⟩ : ∃ L, L = replyL s.reply := ⟨_, rfl⟩
 rw [← hL]
 have HL := hide hL
 clear hL
 unfold QTells
 go_enter Tryz.func171, Tryz.ntmps171
 go_wp2_with fail
 generalize w.alloc (.cells #[.int .i64 0, .int .u32 0, .slice none 0 0] 59) = W1 at HB1 H1 HX1 HMA hx1 hz1 hc ⊢
 refine (answer_new s.reply (.slice aq s.reply.qs.length cq) (.slice aK s.reply.an.length cK) (.slice none 0 0) (.slice none 0 0) W1 HWF.out HRP.out (by simpa only [List.length_map] using HMA.out)).mono ?_
 rintro e w2 ⟨a2, c2, rfl, H2⟩
 rw [← HL.out] at H2 ⊢
 have hb3 := (Below.refl w2.heap.size w2).alloc (Nat.le_refl _) (.cells #[.int .i64 2, .int .u32 0, .slice a2 L.length c2] 59)
 have HB3 := hide (HB1.out.trans ((H2.out.below.mono (by omega)).trans (hb3.mono (by have := H2.out.below.size; omega))))
 have hb13 := H2.out.below.trans (hb3.mono H2.out.below.size)
 have H3 := hide (H1.out.below hb13)
 have HX3 := hide ((hb13.block _ (hl_ HX1.out)).trans HX1.out)
 have HY3 := hide (hn_ w2 (.cells #[.int .i64 2, .int .u32 0, .slice a2 L.length c2] 59))
 have HO3 := hide (own_below H2.out.own hb3)
 have hn2 := H2.out.new
 have hs2 := H2.out.below.size
 have hyl := hl_ HX1.out
 clear hc hx1 hb13
 have hc := bc_ H3.out.box
 have hf := fz_ H3.out.box
 simp only [qCells] at hc
 have n1 : ¬ w2.heap.size = sb := by omega
 have n2 : ¬ sb = w2.heap.size := by omega
 unfold stepX
 go_wp2_with (with_reducible refine stop_load _ (.tmp 3) rfl ?_)
 unfold Stopped
 clear hc hf
 have HC4 := hide H3.out.clear
 have HX4 := hide (((putN_grown sb zTask _ 6).block _ (hl_ HX3.out) (by simp; omega)).trans HX3.out)
 have HY4 := hide (((putN_grown sb zTask _ 6).block _ (hl_ HY3.out) (by simpa using n1)).trans HY3.out)
 have HO4 := hide (own_grown HO3.out (putN_grown sb zTask _ 6) (fun e => by have := hn2 _ e; omega))
 simp only [putN, zTask, Nat.reduceAdd] at HC4 HX4 HY4 HO4
 generalize (World.setCell _ ⟨sb, 20, none⟩ (Value.slice none 0 0)) = W4 at HC4 HX4 HY4 HO4 ⊢
 have hcx := bc_ HX4.out
 have hfx := fz_ HX4.out
 have hcy := bc_ HY4.out
 go_wp2_with fail
 clear hcx hfx hcy
 refine bodyPost_ret (results_cell_row rfl _ _ w.heap.size _ _ _ _ rfl (pb_ (.int .i64 2) (.int .u32 0) (.slice a2 L.length c2) HX4.out) undXs rfl (by kernel_rfl)) rfl ?_
 have hG := pg_ W4 w.heap.size (.int .i64 2) (.int .u32 0) (.slice a2 L.length c2)
 have hlow : ∀ k, QV.owns ⟨vR, .slice none 0 0, .slice none 0 0⟩ [] sb k → k < w.heap.size := fun k e => by
  rcases e with (e | e | ⟨x, hx, _⟩) | ⟨v, hv, e⟩
  ·omega
  ·cases e
  ·cases hx
  ·rcases mr_.1 hv with rfl | rfl | ⟨x, hx, _⟩
   ·exact HLT.out k (.inr ⟨_, mr_.2 (.inl rfl), e⟩)
   ·cases e
   ·cases hx
 exact ⟨a2, c2, rfl, _, _, HC4.out.1.aside hG (fun e => by have := hlow _ e; omega), ((Fr.of_below HB3.out _).trans HC4.out.2).write hG (Nat.le_refl _), own_grown HO4.out hG (fun e => by have := hn2 _ e; omega), fun k e => ⟨by have := hn2 k e; omega, fun e2 => by have := hlow _ e2; have := hn2 k e; omega⟩⟩
end Go.Proofs.YtafoepfhepdcoaaGreat
