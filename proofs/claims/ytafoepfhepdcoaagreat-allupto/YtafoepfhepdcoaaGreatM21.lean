import Derived.Test.YtafoepfhepdcoaaGreatM19
import Derived.Test.YtafoepfhepdcoaaGreatM20
import Derived.Test.YtafoepfhepdcoaaGreatM17
set_option maxRecDepth 100000
set_option maxHeartbeats 8000000
namespace Go.Proofs.YtafoepfhepdcoaaGreat
open Go.RowKit Go.Trawl
structure ChOk (c : Ch) : Prop where
 name : c.name.size ≤ 2097152
 kind0 : 0 ≤ c.kind
 kind1 : c.kind ≤ 65535
 zone : c.zone.size ≤ 2097152
 servers : c.servers.length ≤ 4294967295
 sent : c.sent ≤ 1000
 names : c.names.length ≤ 1000000
 texts : ∀ x ∈ c.names, x.size ≤ 2097152
structure StOk (st : RSt) : Prop where
 b0 : 1 ≤ st.b
 b1 : st.b ≤ 200
 d0 : 0 ≤ st.d
 d1 : st.d ≤ 6
 c0 : 0 ≤ st.c
 c1 : st.c ≤ 10
 t0 : 1 ≤ st.t
 t1 : st.t ≤ 8
 r0 : 1 ≤ st.roots.length
 r1 : st.roots.length ≤ 8
 id0 : 0 ≤ st.id
 id1 : st.id ≤ 65535
 asked : WfM st.asked
 kept : st.kept.length ≤ 1000
 recs : ∀ r ∈ st.kept, WfR r
 seen : st.seen.length ≤ 1000
 texts : ∀ x ∈ st.seen, x.size ≤ 2097152
 len : st.l.length ≤ 1000
 chs : ∀ c ∈ st.l, ChOk c
 spent : st.spent ≤ 1000
attribute [local go_sem] Stg.upon
def askM (id : Int) (c : Ch) : Msg := ⟨id, false, 0, false, false, false, false, 0, [⟨c.name, c.kind, 1⟩], [], [], []⟩
def toOf (c : Ch) : Int := c.servers.getD (c.sent % c.servers.length) 0
def nextId (i : Int) : Int := (i + 1) % 65536
def askSt (st : RSt) (r : List Ch) (c : Ch) : RSt := { st with to := toOf c, id := nextId st.id, spent := st.spent + 1, l := r ++ [{ c with sent := c.sent + 1 }] }
def askStep (st : RSt) (c : Ch) : Value := stepV 1 (toOf c) (str (packL (askM (nextId st.id) c)))
theorem ch_cells {w : World} {g : Nat} {cur : Array Value} {t : TypeId} {cs : List ChV} {c : ChV} (hg : w.heap[g]? = some (.cells cur t)) (k4 : cur.toList.take ((cs.length + 1) * 6) = ((cs ++ [c]).map ChV.cells).flatten) (j : Nat) (hj : j < 6) : w.cell? ⟨g, cs.length * 6 + j, none⟩ = c.cells[j]? := by
 rw [bc_ hg]
 have h1 : cur[cs.length * 6 + j]? = (cur.toList.take ((cs.length + 1) * 6))[cs.length * 6 + j]? := by
  rw [List.getElem?_take, if_pos (by omega)]
  simp
 rw [h1, k4, flat_snoc, List.getElem?_append_right (by rw [chcells_len]; omega), chcells_len]
 rw [show cs.length * 6 + j - cs.length * 6 = j by omega]
theorem lex_at {P : Program} {ops : Array Oper} {C : Nat → World → Prop} {S : List Nat} {Q : Act → Prop} {i : Nat} {o : Oper} {l : List Oper} {a : Act} (hS : (!S.contains i && o.guard.isNone) = true) (v : Value)
  (h : ∀ j w, C j w → (execOp a.eval o).run P w = .ok (.value v) w) (hn : Stg.lex P ops C S Q l (i + 1) (a.put o.dst v)) : Stg.lex P ops C S Q (o :: l) i a := by
 simp only [Bool.and_eq_true, Option.isNone_iff_eq_none, Bool.not_eq_true'] at hS
 obtain ⟨h1, h4⟩ := hS
 refine ⟨v, .inl ⟨by simp [Region.wanted, h4], fun j w hj hj' hC => ?_⟩, hn⟩
 have hi : Stg.inc S i = 0 := by unfold Stg.inc; rw [if_neg (by rw [h1]; exact Bool.false_ne_true)]
 rw [hi, h j w hC]
 exact ⟨rfl, hC⟩
def clsCall (A B : World) (j : Nat) (w : World) : Prop := if j = 0 then w = A else if j < 3 then w = B else Below B.heap.size B w
theorem buildQ1 (n : ByteArray) (k : Int) (W : World) : (Instr.build 41 #[(0, .string n), (1, .int .u16 k), (2, .int .u16 1)]).run Tryz.prog W = .ok (.agg #[.string n, .int .u16 k, .int .u16 1]) W := run_build W _ _ _ (by kernel_rfl)
theorem buildMq (i : Int) (a : Option Addr) (n c : Nat) (W : World) : (Instr.build 30 #[(0, .int .u16 i), (8, .slice a n c)]).run Tryz.prog W = .ok (.agg #[.int .u16 i, .bool false, .int .i64 0, .bool false, .bool false, .bool false, .bool false, .int .i64 0, .slice a n c, .slice none 0 0, .slice none 0 0, .slice none 0 0]) W := run_build W _ _ _ (by kernel_rfl)
theorem buildS3 (k t : Int) (s : ByteArray) (W : World) : (Instr.build 111 #[(0, .int .i64 k), (1, .int .u32 t), (2, .string s)]).run Tryz.prog W = .ok (.agg #[.int .i64 k, .int .u32 t, .string s]) W := run_build W _ _ _ (by kernel_rfl)
attribute [local go_sem] buildQ1 buildMq buildS3
theorem send_asks (w : World) (rb : Nat) (st : RSt) (V : RV) (cs : List ChV) (c : ChV) (h : RefAt w rb st V (cs ++ [c])) (hok : StOk st) (hne : c.ch.servers ≠ []) (ht : (c.ch.sent : Int) < st.t) (hb : (st.spent : Int) < st.b) :
  Calls Tryz.prog 89 #[.pointer (some ⟨rb, 0, none⟩)] w fun e w' => e = .returned (askStep st c.ch) ∧ Hid (∃ V' c', RefAt w' rb (askSt st (cs.map ChV.ch) c.ch) V' (cs ++ [c']) ∧ c'.ch = { c.ch with sent := c.ch.sent + 1 } ∧ Fr w w' (V.owns (cs ++ [c]) rb) (V'.owns (cs ++ [c']) rb)) := by
 have HLT := hide h.lt
 have hB1 := (Below.refl w.heap.size w).alloc (Nat.le_refl _) (.cells #[.int .i64 0, .int .u32 0, .string ⟨#[]⟩] 111)
 have H1 := hide (h.keep hB1)
 have HF1 := hide (Fr.of_below hB1 (V.owns (cs ++ [c]) rb))
 have HZ1 := hide (hn_ w (.cells #[.int .i64 0, .int .u32 0, .string ⟨#[]⟩] 111))
 clear h hB1
 go_enter Tryz.func89, Tryz.ntmps89
 go_wp2_with fail
 generalize w.alloc (.cells #[.int .i64 0, .int .u32 0, .string ⟨#[]⟩] 111) = W1 at H1 HF1 HZ1 ⊢
 obtain ⟨g, cap, cur, hvL, hg, k1, k2, k3, k4⟩ := row_at H1.out
 obtain ⟨vR, vq, va, vu, vx, vK, vS, vL⟩ := V
 obtain ⟨ch, vs, vn⟩ := c
 obtain ⟨nm, kd, zn, sv, sn, ns⟩ := ch
 dsimp only at hvL hne ht
 subst hvL
 have hsv : Lies W1 1 vs (wordsV sv) := (H1.out.srv _ (List.mem_append_right _ (List.mem_singleton.2 rfl))).1
 obtain ⟨aS, cS, rfl, _, hsv⟩ := hsv
 have hlw : (wordsV sv).length = sv.length := by simp [wordsV]
 rw [hlw] at H1 HF1 HLT k4
 rcases hsv with e0 | ⟨bS, oS, rfl, hbS, hS⟩
 ·exact absurd (by simpa [wordsV] using e0) hne
 have hpos : 0 < sv.length := List.length_pos_iff.2 hne
 have hmod : sn % sv.length < sv.length := Nat.mod_lt _ hpos
 obtain ⟨x, hx⟩ : ∃ x, sv[sn % sv.length]? = some x := ⟨_, List.getElem?_eq_getElem hmod⟩
 have hxS : W1.cell? ⟨bS, oS + sn % sv.length, none⟩ = some (.int .u32 x) := by
  have := hS (sn % sv.length) [.int .u32 x] (by simp [wordsV, hx]) 0 (.int .u32 x) rfl
  simpa using this
 have hto : toOf ⟨nm, kd, zn, sv, sn, ns⟩ = x := by simp [toOf, List.getD, hx]
 clear hS hne
 have hc0 := bc_ H1.out.box
 simp only [refCells] at hc0
 have hg0 := ch_cells hg k4 0 (by decide)
 have hg1 := ch_cells hg k4 1 (by decide)
 have hg3 := ch_cells hg k4 3 (by decide)
 have hg4 := ch_cells hg k4 4 (by decide)
 simp only [ChV.cells, List.getElem?_cons_zero, List.getElem?_cons_succ, Nat.add_zero] at hg0 hg1 hg3 hg4
 have HOK := hide hok
 have hb1 := hok.b1
 have ht1 := hok.t1
 have hsp := hok.spent
 have hcl : cs.length ≤ 1000 := by
  have := hok.len
  rw [← H1.out.chs] at this
  simp at this
  omega
 have hsn := (hok.chs ⟨nm, kd, zn, sv, sn, ns⟩ (by rw [← H1.out.chs]; simp)).sent
 have hsl := (hok.chs ⟨nm, kd, zn, sv, sn, ns⟩ (by rw [← H1.out.chs]; simp)).servers
 dsimp only at hsn hsl
 have HCK := hide (hok.chs ⟨nm, kd, zn, sv, sn, ns⟩ (by rw [← H1.out.chs]; simp))
 clear hok
 have hti : ¬ (st.t ≤ (sn : Int)) := by omega
 have hbi : ¬ (st.b ≤ (st.spent : Int)) := by omega
 go_quiet (fail)
 go_wp2_with fail
 go_quiet (fail)
 go_wp2_with fail
 go_quiet (fail)
 go_wp2_with fail
 generalize hW2 : ((W1.drewN _).drewN _).drewN _ = W2
 have hb2 : Below W1.heap.size W1 W2 := by rw [← hW2]; exact below_drewN (below_drewN (below_drewN (Below.refl _ _) _) _) _
 have H2 := hide (H1.out.keep hb2)
 have HF2 := hide (HF1.out.trans (Fr.of_below hb2 _))
 have HZ2 := hide ((hb2.block _ (hl_ HZ1.out)).trans HZ1.out)
 obtain ⟨W3, hW3⟩ : ∃ W : World, W = W2.drew := ⟨_, rfl⟩
 have hcw : ∀ a, W3.cell? a = W1.cell? a := fun a => by rw [hW3, ← hW2]; rfl
 clear hW2 hb2
 obtain ⟨W4, hW4⟩ : ∃ W : World, W = W3.setCell ⟨rb, 23, none⟩ (.int .u32 x) := ⟨_, rfl⟩
 have hb3 : Below W2.heap.size W2 W3 := by rw [hW3]; exact below_drewN (Below.refl _ _) 1
 have H3 := hide (H2.out.keep hb3)
 have HF3 := hide (HF2.out.trans (Fr.of_below hb3 _))
 have HZ3 := hide ((hb3.block _ (hl_ HZ2.out)).trans HZ2.out)
 clear hb3 H2 HF2 HZ2 H1 HF1 HZ1
 obtain ⟨f, hf0, hf1, hf2, hfp⟩ := Stg.coverE W3 W3 W3
 clear hf1 hf2
 have hfw := hfp (fun W => ∀ a, W.cell? a = W1.cell? a) hcw hcw hcw
 have hcr := fun (k o : Nat) => (hfw k ⟨rb, o, none⟩).trans (hc0 o)
 have hcg3 := fun k : Nat => (hfw k _).trans hg3
 have hcg4 := fun k : Nat => (hfw k _).trans hg4
 have hcS := fun k : Nat => (hfw k _).trans hxS
 clear hfw
 have HU : Hid (∀ (j : Nat) (w' : World), j < 1 → w' = Stg.pick4 W3 W4 W4 W4 j → ∃ n, w' = f n) := fun j w' hj e => ⟨0, by rw [e, show j = 0 by omega, ← hf0]; rfl⟩
 obtain ⟨f4, hq0, hq1, hq2, hq3, _⟩ := Stg.coverE4 W3 W4 W4 W4
 have HU4 := hide (Stg.pick4_cover4 hq0 hq1 hq2 hq3)
 clear hq0 hq1 hq2 hq3 hf0 hfp
 have hc3 := fun o : Nat => (hcw ⟨rb, o, none⟩).trans (hc0 o)
 have hf3 := fz_ H3.out.box
 refine Stg.wp_region_stage [19] (fun j w' => w' = Stg.pick4 W3 W4 W4 W4 j) (by kernel_rfl) (by kernel_rfl) hW3.symm ?_
 clear hW3
 refine Stg.lex_upto 17 1 (by decide) (by kernel_rfl) HU.out ?_
 simp only [List.take_succ_cons, List.take_zero, List.drop_succ_cons, List.drop_zero]
 repeat (first | go_big_quiet_step (fail) | quiet_step (fail))
 refine wpQuiet_nil ?_
 refine Stg.lex_upto 2 4 (by decide) (by kernel_rfl) HU4.out ?_
 simp only [List.take_succ_cons, List.take_zero, List.drop_succ_cons, List.drop_zero]
 repeat (first | go_big_quiet_step (fail) | quiet_step (fail))
 refine wpQuiet_nil ?_
 refine Stg.lex_move 0 (by kernel_rfl) undef ?_ ?_
 ·intro w' hw'
  rw [show w' = W3 from hw', show Stg.pick4 W3 W4 W4 W4 (0 + 1) = W4 from rfl]
  clear hw' w'
  have hw4 := hW4.symm
  clear hW4
  go_simp
 refine Stg.lex_nil ?_
 intro w' hw'
 rw [show w' = W4 from hw']
 clear hw' w' HU HU4 hcr hcg3 hcg4 hcS hc3 hf3
 dsimp only [Act.put]
 have hgx := (hcw ⟨g, cs.length * 6 + 4, none⟩).trans hg4
 have hgb : ∃ cur, W3.heap[g]? = some (.cells cur 169) := by
  obtain ⟨g', cap', cur', e, hg', _⟩ := row_at H3.out
  cases e
  exact ⟨cur', hg'⟩
 obtain ⟨cur3, hgb⟩ := hgb
 have hgr : g ≠ rb := fun e => by
  subst e
  rw [H3.out.box] at hgb
  cases hgb
 have H4 := hide (H3.out.set (st' := { st with to := x }) 23 (.int .u32 x) (congrArg id (by kernel_rfl)) rfl rfl rfl rfl rfl)
 rw [← hW4] at H4
 have HF4 := hide (HF3.out.trans (Fr.set (w := W3) (rb := rb) (V := ⟨vR, vq, va, vu, vx, vK, vS, .slice (some ⟨g, 0, none⟩) (cs.length + 1) cap⟩) (cs := cs ++ [⟨⟨nm, kd, zn, sv, sn, ns⟩, .slice (some ⟨bS, oS, none⟩) sv.length cS, vn⟩]) 23 (.int .u32 x)))
 rw [← hW4] at HF4
 have hgb4 : W4.heap[g]? = some (.cells cur3 169) := by rw [hW4, Below.heap_setCell _ _ _ _ hgr]; exact hgb
 have hg44 : W4.cell? ⟨g, cs.length * 6 + 4, none⟩ = some (.int .i64 sn) := by rw [World.cell?_of_block (a := ⟨g, cs.length * 6 + 4, none⟩) (hgb4.trans hgb.symm)]; exact hgx
 have hfg4 := fz_ hgb4
 have hc4 := bc_ H4.out.box
 simp only [refCells] at hc4
 have hfr4 := fz_ H4.out.box
 have HZ4 := hide ((Below.heap_setCell W3 ⟨rb, 23, none⟩ (.int .u32 x) w.heap.size (fun e => by have := HLT.out rb (.inl (.inl rfl)); have e : w.heap.size = rb := e; omega)).trans HZ3.out)
 rw [← hW4] at HZ4
 clear hW4 HF3 H3 HZ3 hgx hgb hcw hc0 hg hg0 hg1 hg3 hg4 hxS k4
 have hv4 : (Value.slice (some ⟨g, 0, none⟩) (cs.length + 1) cap) = .slice (some ⟨g, 0, none⟩) (cs.length + 1) cap := rfl
 have hold : ∀ k, (Value.slice (some ⟨bS, oS, none⟩) sv.length cS).ownBlock = some k ∨ vn.ownBlock = some k → ∃ v ∈ RV.reads ⟨vR, vq, va, vu, vx, vK, vS, .slice (some ⟨g, 0, none⟩) (cs.length + 1) cap⟩ (cs ++ [⟨⟨nm, kd, zn, sv, sn, ns⟩, .slice (some ⟨bS, oS, none⟩) sv.length cS, vn⟩]), v.ownBlock = some k := fun k hk => by
  rcases hk with hk | hk
  ·exact ⟨_, (rs_ _ _ _ _).2 (.inr (.inl rfl)), hk⟩
  ·exact ⟨_, (rs_ _ _ _ _).2 (.inr (.inr rfl)), hk⟩
 have hsr := H4.out.srv _ (List.mem_append_right _ (List.mem_singleton.2 rfl))
 have H5 := H4.out.top (c' := ⟨⟨nm, kd, zn, sv, sn + 1, ns⟩, .slice (some ⟨bS, oS, none⟩) sv.length cS, vn⟩) hv4 4 (.int .i64 ((sn : Int) + 1)) (by decide) (by simp [ChV.cells]) hsr.1 hsr.2 (fun k hk => by
  obtain ⟨v, hv, e⟩ := hold k hk
  exact ⟨H4.out.lt k (.inr ⟨v, hv, e⟩), H4.out.free v hv k e⟩) (H4.out.caps ⟨⟨nm, kd, zn, sv, sn, ns⟩, .slice (some ⟨bS, oS, none⟩) sv.length cS, vn⟩ (List.mem_append_right _ (List.mem_singleton.2 rfl)))
 have F5 := HF4.out.top (c' := ⟨⟨nm, kd, zn, sv, sn + 1, ns⟩, .slice (some ⟨bS, oS, none⟩) sv.length cS, vn⟩) hv4 4 (.int .i64 ((sn : Int) + 1)) (fun k hk => .inl (.inr (hold k hk)))
 have H6 := H5.set (st' := { st with to := x, l := cs.map ChV.ch ++ [⟨nm, kd, zn, sv, sn + 1, ns⟩], spent := st.spent + 1 }) 22 (.int .i64 ((st.spent : Int) + 1)) (by simp [refCells]) rfl rfl rfl rfl rfl
 have F6 := F5.trans (Fr.set (rb := rb) 22 (.int .i64 ((st.spent : Int) + 1)))
 have H7 := hide (H6.set (st' := { st with to := x, l := cs.map ChV.ch ++ [⟨nm, kd, zn, sv, sn + 1, ns⟩], spent := st.spent + 1, id := IntKind.u16.wrap (st.id + 1) }) 5 (.int .u16 (IntKind.u16.wrap (st.id + 1))) (by simp [refCells]) rfl rfl rfl rfl rfl)
 have HF7 := hide (F6.trans (Fr.set (rb := rb) 5 (.int .u16 (IntKind.u16.wrap (st.id + 1)))))
 have hzg : g < w.heap.size := HLT.out g (.inl (.inr (.inr (.inr rfl))))
 have hzr : rb < w.heap.size := HLT.out rb (.inl (.inl rfl))
 have HZ7 := hide (((Below.heap_setCell _ ⟨rb, 5, none⟩ (.int .u16 (IntKind.u16.wrap (st.id + 1))) w.heap.size (Nat.ne_of_gt hzr)).trans ((Below.heap_setCell _ ⟨rb, 22, none⟩ (.int .i64 ((st.spent : Int) + 1)) w.heap.size (Nat.ne_of_gt hzr)).trans (Below.heap_setCell W4 ⟨g, cs.length * 6 + 4, none⟩ (.int .i64 ((sn : Int) + 1)) w.heap.size (Nat.ne_of_gt hzg)))).trans HZ4.out)
 clear H5 F5 H6 F6 hold hsr
 go_wp2_with fail
 clear H4 HF4 HZ4 hc4 hg44 hfg4 hfr4 hgb4
 generalize ((W4.setCell ⟨g, cs.length * 6 + 4, none⟩ (.int .i64 ((sn : Int) + 1))).setCell ⟨rb, 22, none⟩ (.int .i64 ((st.spent : Int) + 1))).setCell ⟨rb, 5, none⟩ (.int .u16 (IntKind.u16.wrap (st.id + 1))) = W7 at H7 HF7 HZ7 ⊢
 obtain ⟨W8, hW8⟩ : ∃ W : World, W = W7.drew := ⟨_, rfl⟩
 have hb8 : Below W7.heap.size W7 W8 := by rw [hW8]; exact below_drewN (Below.refl _ _) 1
 have H8 := hide (H7.out.keep hb8)
 have HF8 := hide (HF7.out.trans (Fr.of_below hb8 _))
 have HZ8 := hide ((hb8.block _ (hl_ HZ7.out)).trans HZ7.out)
 clear H7 HF7 HZ7 hb8
 obtain ⟨W9, hW9⟩ : ∃ W : World, W = W8.alloc (.cells #[.string nm, .int .u16 kd, .int .u16 1] 41) := ⟨_, rfl⟩
 have hb9 : Below W8.heap.size W8 W9 := by rw [hW9]; exact (Below.refl _ _).alloc (Nat.le_refl _) _
 have H9 := hide (H8.out.keep hb9)
 have HF9 := hide (HF8.out.trans (Fr.of_below hb9 _))
 have HZ9 := hide ((hb9.block _ (hl_ HZ8.out)).trans HZ8.out)
 have hL9 : Lies W9 3 (.slice (some ⟨W8.heap.size, 0, none⟩) 1 1) ([(⟨nm, kd, 1⟩ : Qn)].map Qn.cells) := by
  rw [hW9]
  exact own_lies (e := 41) (n := 1) ⟨rfl, .inr ⟨W8.heap.size, 1, _, rfl, Nat.zero_le _, hn_ _ _, Nat.le_refl _, by unfold maxLen; omega, rfl, rfl⟩⟩ (fun x hx => by simp at hx; subst hx; rfl) rfl
 have HL9 := hide hL9
 clear hL9
 obtain ⟨g', cap', cur8, e8, hg8, _, _, _, k48⟩ := row_at H8.out
 cases e8
 have hq0 := ch_cells hg8 k48 0 (by decide)
 have hq1 := ch_cells hg8 k48 1 (by decide)
 simp only [ChV.cells, List.getElem?_cons_zero, List.getElem?_cons_succ, Nat.add_zero] at hq0 hq1
 have hc8 := bc_ H8.out.box
 simp only [refCells] at hc8
 have h58 := hc8 5
 have hcls : ∀ (j : Nat) (w' : World), clsCall W8 W9 j w' → Below W8.heap.size W8 w' := fun j w' hc => by
  unfold clsCall at hc
  split at hc
  ·subst hc; exact Below.refl _ _
  ·split at hc
   ·subst hc; exact hb9
   ·exact hb9.trans (hc.mono hb9.size)
 have HC5 : Hid (∀ (j : Nat) (w' : World), clsCall W8 W9 j w' → w'.cell? ⟨rb, 5, none⟩ = some (.int .u16 (IntKind.u16.wrap (st.id + 1)))) := fun j w' hc => (World.cell?_of_block (a := ⟨rb, 5, none⟩) ((hcls j w' hc).block rb (hl_ H8.out.box))).trans h58
 have HC0 : Hid (∀ (j : Nat) (w' : World), clsCall W8 W9 j w' → w'.cell? ⟨g, cs.length * 6, none⟩ = some (.string nm)) := fun j w' hc => (World.cell?_of_block (a := ⟨g, cs.length * 6, none⟩) ((hcls j w' hc).block g (hl_ hg8))).trans hq0
 have HC1 : Hid (∀ (j : Nat) (w' : World), clsCall W8 W9 j w' → w'.cell? ⟨g, cs.length * 6 + 1, none⟩ = some (.int .u16 kd)) := fun j w' hc => (World.cell?_of_block (a := ⟨g, cs.length * 6 + 1, none⟩) ((hcls j w' hc).block g (hl_ hg8))).trans hq1
 have HW9 := hide hW9
 clear hq0 hq1 hc8 k48 hg8 hW9 hb9 hcls h58
 refine Stg.wp_region_stage [13, 14, 15] (clsCall W8 W9) (by kernel_rfl) (by kernel_rfl) (show clsCall W8 W9 0 _ from hW8.symm) ?_
 clear hW8
 refine lex_at (by kernel_rfl) (.pointer (some ⟨rb, 0, none⟩)) (fun _ w' _ => by go_simp) ?_
 refine lex_at (by kernel_rfl) (.pointer (some ⟨rb, 0, none⟩)) (fun _ w' _ => by go_simp) ?_
 refine lex_at (by kernel_rfl) (.pointer (some ⟨rb, 5, none⟩)) (fun _ w' _ => by go_simp) ?_
 refine lex_at (by kernel_rfl) (.int .u16 (IntKind.u16.wrap (st.id + 1))) (fun j w' hw' => by have hc := HC5.out j w' hw'; go_simp) ?_
 refine lex_at (by kernel_rfl) (.pointer (some ⟨g, cs.length * 6, none⟩)) (fun _ w' _ => by go_simp) ?_
 refine lex_at (by kernel_rfl) (.pointer (some ⟨g, cs.length * 6, none⟩)) (fun _ w' _ => by go_simp) ?_
 refine lex_at (by kernel_rfl) (.pointer (some ⟨g, cs.length * 6, none⟩)) (fun _ w' _ => by go_simp) ?_
 refine lex_at (by kernel_rfl) (.string nm) (fun j w' hw' => by have hc := HC0.out j w' hw'; go_simp) ?_
 refine lex_at (by kernel_rfl) (.pointer (some ⟨g, cs.length * 6, none⟩)) (fun _ w' _ => by go_simp) ?_
 refine lex_at (by kernel_rfl) (.pointer (some ⟨g, cs.length * 6, none⟩)) (fun _ w' _ => by go_simp) ?_
 refine lex_at (by kernel_rfl) (.pointer (some ⟨g, cs.length * 6 + 1, none⟩)) (fun _ w' _ => by go_simp) ?_
 refine lex_at (by kernel_rfl) (.int .u16 kd) (fun j w' hw' => by have hc := HC1.out j w' hw'; go_simp) ?_
 refine lex_at (by kernel_rfl) (.agg #[.string nm, .int .u16 kd, .int .u16 1]) (fun _ w' _ => by go_simp) ?_
 refine Stg.lex_move 0 (by kernel_rfl) (.slice (some ⟨W8.heap.size, 0, none⟩) 1 1) ?_ ?_
 ·intro w' hw'
  rw [show w' = W8 from hw', show clsCall W8 W9 (0 + 1) = fun w => w = W9 from rfl]
  clear hw' w'
  have hw9 := HW9.out.symm
  go_simp
 refine Stg.lex_move 1 (by kernel_rfl) (.agg (mc_ (askM (IntKind.u16.wrap (st.id + 1)) ⟨nm, kd, zn, sv, sn, ns⟩) (.slice (some ⟨W8.heap.size, 0, none⟩) 1 1) (.slice none 0 0) (.slice none 0 0) (.slice none 0 0))) ?_ ?_
 ·intro w' hw'
  rw [show w' = W9 from hw', show clsCall W8 W9 (1 + 1) = fun w => w = W9 from rfl]
  clear hw' w'
  go_simp
  exact rfl
 have hWM : Hid (WfM (askM (IntKind.u16.wrap (st.id + 1)) ⟨nm, kd, zn, sv, sn, ns⟩)) := by
  have hw : IntKind.u16.wrap (st.id + 1) = (st.id + 1) % 65536 := rfl
  refine ⟨?_, ?_, by simp [askM], by simp [askM], by simp [askM], by simp [askM], by simp [askM], by simp [askM], by simp [askM], by simp [askM], ?_, by simp [askM, recs]⟩
  ·show 0 ≤ IntKind.u16.wrap (st.id + 1)
   omega
  ·show IntKind.u16.wrap (st.id + 1) ≤ 65535
   omega
  ·intro q hq
   simp only [askM, List.mem_singleton] at hq
   subst hq
   exact ⟨HCK.out.name, HCK.out.kind0, HCK.out.kind1, by show (0 : Int) ≤ 1; decide, by show (1 : Int) ≤ 65535; decide⟩
 refine Stg.lex_move 2 (by kernel_rfl) (.tuple #[.string (str (packL (askM (IntKind.u16.wrap (st.id + 1)) ⟨nm, kd, zn, sv, sn, ns⟩))), .int .i64 (packE (askM (IntKind.u16.wrap (st.id + 1)) ⟨nm, kd, zn, sv, sn, ns⟩))]) ?_ ?_
 ·intro w' hw'
  rw [show w' = W9 from hw', show clsCall W8 W9 (2 + 1) = fun w => Below W9.heap.size W9 w from rfl]
  clear hw' w'
  go_simp
  refine (rpack2 (askM (IntKind.u16.wrap (st.id + 1)) ⟨nm, kd, zn, sv, sn, ns⟩) (.slice (some ⟨W8.heap.size, 0, none⟩) 1 1) (.slice none 0 0) (.slice none 0 0) (.slice none 0 0) W9 hWM.out ⟨HL9.out, ⟨none, 0, rfl, fun _ => rfl, .inl rfl⟩, ⟨none, 0, rfl, fun _ => rfl, .inl rfl⟩, ⟨none, 0, rfl, fun _ => rfl, .inl rfl⟩⟩).mono ?_
  rintro e w' ⟨h1, h2⟩
  exact ⟨h2, h1⟩
 clear hWM HL9 HC0 HC1 HC5
 rw [← show nextId st.id = IntKind.u16.wrap (st.id + 1) from rfl] at H9 ⊢
 generalize hbs : str (packL (askM (nextId st.id) ⟨nm, kd, zn, sv, sn, ns⟩)) = bs
 generalize packE (askM (nextId st.id) ⟨nm, kd, zn, sv, sn, ns⟩) = er
 refine lex_at (by kernel_rfl) (.tuple #[.string bs, .int .i64 er]) (fun _ w' _ => by go_simp) ?_
 refine lex_at (by kernel_rfl) (.string bs) (fun _ w' _ => by go_simp) ?_
 refine lex_at (by kernel_rfl) (.int .i64 er) (fun _ w' _ => by go_simp) ?_
 refine lex_at (by kernel_rfl) (.string bs) (fun _ w' _ => by go_simp) ?_
 refine lex_at (by kernel_rfl) (.int .i64 er) (fun _ w' _ => by go_simp) ?_
 refine Stg.lex_nil ?_
 intro w10 hw10
 replace hw10 : Below W9.heap.size W9 w10 := hw10
 dsimp only [Act.put]
 have H10 := hide (H9.out.keep hw10)
 have HF10 := hide (HF9.out.trans (Fr.of_below hw10 _))
 have HZ10 := hide ((hw10.block _ (hl_ HZ9.out)).trans HZ9.out)
 clear H8 HF8 HZ8 H9 HF9 HZ9 HW9 hw10
 have hcb := bc_ H10.out.box
 simp only [refCells] at hcb
 have hcz := bc_ HZ10.out
 have hfz := fz_ HZ10.out
 go_wp2_with fail
 clear hcz hfz hcb
 refine bodyPost_ret (results_cell_row rfl _ _ w.heap.size _ _ _ _ rfl (pb_ (.int .i64 1) (.int .u32 x) (.string bs) HZ10.out) undSt rfl (by kernel_rfl)) rfl ?_
 have hG := pg_ w10 w.heap.size (.int .i64 1) (.int .u32 x) (.string bs)
 have hst : askSt st (cs.map ChV.ch) ⟨nm, kd, zn, sv, sn, ns⟩ = { st with to := x, l := cs.map ChV.ch ++ [⟨nm, kd, zn, sv, sn + 1, ns⟩], spent := st.spent + 1, id := nextId st.id } := by
  unfold askSt
  rw [hto]
 have hN := H10.out.aside hG (fun e => by
  rcases e with e | ⟨v, hv, hk⟩
  ·have := HLT.out _ (.inl e)
   omega
  ·have := HLT.out w.heap.size (.inr (by
    rcases (rs_ _ _ _ _).1 hv with hv | hv | hv
    ·exact ⟨v, (rs_ _ _ _ _).2 (.inl hv), hk⟩
    ·exact ⟨v, (rs_ _ _ _ _).2 (.inr (.inl hv)), hk⟩
    ·exact ⟨v, (rs_ _ _ _ _).2 (.inr (.inr hv)), hk⟩))
   omega)
 refine ⟨by unfold askStep; rw [hbs, hto]; rfl, ?_⟩
 rw [hst]
 exact ⟨_, _, hN, rfl, HF10.out.write hG (Nat.le_refl _)⟩
end Go.Proofs.YtafoepfhepdcoaaGreat
namespace Go.Proofs.YtafoepfhepdcoaaGreat
open Go.RowKit Go.Trawl
def failP (st : RSt) : RSt × Value := ({ st with busy := false }, stepV 2 0 (str (replyL (doneM st 2 []))))
def askP (st : RSt) (r : List Ch) (c : Ch) : RSt × Value := if st.b ≤ (st.spent : Int) then failP { st with l := r ++ [c] } else (askSt st r c, askStep st c)
theorem wf_fail {st : RSt} (h : StOk st) : WfM (doneM st 2 []) := by
 have ha := h.asked
 exact ⟨ha.id0, ha.id1, by simp [doneM], by simp [doneM], by simp [doneM], by simp [doneM], ha.nq, by simp [doneM], by simp [doneM], by simp [doneM], ha.qs, by simp [doneM, recs]⟩
def Says (w : World) (rb : Nat) (V : RV) (cs : List ChV) (p : RSt × Value) (e : Ending) (w' : World) : Prop := e = .returned p.2 ∧ Hid (∃ V' cs', RefAt w' rb p.1 V' cs' ∧ Fr w w' (V.owns cs rb) (V'.owns cs' rb))
theorem send_low (w : World) (rb : Nat) (st : RSt) (V : RV) (cs : List ChV) (c : ChV) (h : RefAt w rb st V (cs ++ [c])) (hok : StOk st) (hne : c.ch.servers ≠ []) (ht : (c.ch.sent : Int) < st.t) :
  Calls Tryz.prog 89 #[.pointer (some ⟨rb, 0, none⟩)] w (Says w rb V (cs ++ [c]) (askP st (cs.map ChV.ch) c.ch)) := by
 by_cases hb : (st.spent : Int) < st.b
 ·have e : askP st (cs.map ChV.ch) c.ch = (askSt st (cs.map ChV.ch) c.ch, askStep st c.ch) := by unfold askP; rw [if_neg (by omega)]
  rw [e]
  refine (send_asks w rb st V cs c h hok hne ht hb).mono ?_
  rintro e w' ⟨h1, h2⟩
  obtain ⟨V', c', h3, _, h4⟩ := h2.out
  exact ⟨h1, V', _, h3, h4⟩
 have e : askP st (cs.map ChV.ch) c.ch = failP st := by
  unfold askP
  rw [if_pos (by omega)]
  have : st.l = cs.map ChV.ch ++ [c.ch] := by rw [← h.chs]; simp
  rw [← this]
 rw [e]
 clear e
 have HLT := hide h.lt
 have hB1 := (Below.refl w.heap.size w).alloc (Nat.le_refl _) (.cells #[.int .i64 0, .int .u32 0, .string ⟨#[]⟩] 111)
 have H1 := hide (h.keep hB1)
 have HF1 := hide (Fr.of_below hB1 (V.owns (cs ++ [c]) rb))
 have HZ1 := hide (hn_ w (.cells #[.int .i64 0, .int .u32 0, .string ⟨#[]⟩] 111))
 clear h hB1
 unfold Says
 go_enter Tryz.func89, Tryz.ntmps89
 go_wp2_with fail
 generalize w.alloc (.cells #[.int .i64 0, .int .u32 0, .string ⟨#[]⟩] 111) = W1 at H1 HF1 HZ1 ⊢
 obtain ⟨g, cap, cur, hvL, hg, k1, k2, k3, k4⟩ := row_at H1.out
 obtain ⟨vR, vq, va, vu, vx, vK, vS, vL⟩ := V
 obtain ⟨ch, vs, vn⟩ := c
 obtain ⟨nm, kd, zn, sv, sn, ns⟩ := ch
 dsimp only at hvL hne ht
 subst hvL
 have hc0 := bc_ H1.out.box
 simp only [refCells] at hc0
 have hg4 := ch_cells hg k4 4 (by decide)
 simp only [ChV.cells, List.getElem?_cons_zero, List.getElem?_cons_succ] at hg4
 have HOK := hide hok
 have hb1 := hok.b1
 have hb0 := hok.b0
 have ht1 := hok.t1
 have hsp := hok.spent
 have hcl : cs.length ≤ 1000 := by
  have := hok.len
  rw [← H1.out.chs] at this
  simp at this
  omega
 have hsn := (hok.chs ⟨nm, kd, zn, sv, sn, ns⟩ (by rw [← H1.out.chs]; simp)).sent
 dsimp only at hsn
 clear hok
 have hti : ¬ (st.t ≤ (sn : Int)) := by omega
 have hbi : st.b ≤ (st.spent : Int) := by omega
 go_quiet (fail)
 go_wp2_with fail
 go_quiet (fail)
 go_wp2_with fail
 go_quiet (fail)
 go_wp2_with fail
 generalize hW2 : W1.drewN _ = W2
 have hb2 : Below W1.heap.size W1 W2 := by rw [← hW2]; exact below_drewN (Below.refl _ _) _
 have H2 := hide (H1.out.keep hb2)
 have HF2 := hide (HF1.out.trans (Fr.of_below hb2 _))
 have HZ2 := hide ((hb2.block _ (hl_ HZ1.out)).trans HZ1.out)
 clear hW2 hb2 H1 HF1 HZ1 hg hc0 hg4 k4
 refine (done_any W2 rb st _ _ 2 (.slice none 0 0) [] H2.out ⟨none, 0, rfl, fun _ => rfl, .inl rfl⟩ (fun k hk => by cases hk) (wf_fail HOK.out) (by have := HOK.out.kept; simp; omega)).mono ?_
 rintro e w3 ⟨rfl, h3⟩
 have H3 := hide h3.out.1
 have HF3 := hide (HF2.out.trans h3.out.2)
 have HZ3 := hide ((h3.out.2.block _ (hl_ HZ2.out) (fun e => by have := HLT.out _ e; omega)).trans HZ2.out)
 clear h3 H2 HF2 HZ2
 unfold stepV
 generalize hbs : str (replyL (doneM st 2 [])) = bs
 have hcz := bc_ HZ3.out
 have hfz := fz_ HZ3.out
 go_wp2_with fail
 clear hcz hfz
 refine bodyPost_ret (results_cell_row rfl _ _ w.heap.size _ _ _ _ rfl (pb_ (.int .i64 2) (.int .u32 0) (.string bs) HZ3.out) undSt rfl (by kernel_rfl)) rfl ?_
 have hG := pg_ w3 w.heap.size (.int .i64 2) (.int .u32 0) (.string bs)
 refine ⟨by unfold failP; rw [hbs]; rfl, _, _, H3.out.aside hG (fun e => by have := HLT.out _ e; omega), HF3.out.write hG (Nat.le_refl _)⟩
theorem Rows4.grow {B r : Nat} {w w' : World} {m : Msg} {vq va vu vx : Value} (h : Rows4 B w m vq va vu vx) (hw : w.grownBy w' (some r)) (hr : r < B) : Rows4 B w' m vq va vu vx := by
 have ap : ∀ v : Value, (∀ g, v.ownBlock = some g → B ≤ g) → v.ownBlock = none ∨ v.ownBlock ≠ some r := by
  intro v hv
  cases h1 : v.ownBlock with
  | none => exact .inl rfl
  | some g =>
   have := hv g h1
   exact .inr (fun e => by have := Option.some.inj e; omega)
 exact { h with q := h.q.kept hw (ap _ h.nq), a := h.a.kept hw (ap _ h.na), u := h.u.kept hw (ap _ h.nu), x := h.x.kept hw (ap _ h.nx) }
theorem tUnpack_no (w : World) (b c : Nat) (s : ByteArray) (hsm : s.size ≤ 2097152) (hsc : s.size ≤ c) (hbl : b < w.heap.size) (hc : Bytes w b s) (hn : unpack s = none) :
  Calls Tryz.prog 16 #[.slice (some ⟨b, 0, none⟩) s.size c] w fun e w' => e = .returned (.tuple #[.agg zM0, .int .i64 1]) ∧ Hid (Below w.heap.size w w') := by
 have hB : Below w.heap.size w (w.alloc (Obj.cells #[.int .u16 0, .bool false, .int .i64 0, .bool false, .bool false, .bool false, .bool false, .int .i64 0, .slice none 0 0, .slice none 0 0, .slice none 0 0, .slice none 0 0] 30)) := (Below.refl _ _).alloc (Nat.le_refl _) _
 have HB := hide hB
 have HC := hide (hc.below hbl hB)
 have HN := hide hn
 clear hc hn hB
 go_enter Tryz.func16, Tryz.ntmps16
 go_wp2_with fail
 refine (wUnpack_any _ b c s hsm hsc (Nat.lt_of_lt_of_le hbl HB.out.size) HC.out).mono ?_
 intro e w1 H1
 obtain ⟨hb1, hno, _⟩ := H1.out
 obtain rfl := hno HN.out
 have HB1 := hide (HB.out.trans (hb1.mono HB.out.size))
 have HZ1 : Hid (w1.heap[w.heap.size]? = some (.cells zM0 30)) := (hb1.block _ (by rw [as_]; omega)).trans (hn_ _ _)
 clear H1 hb1 hno
 have hcz := bc_ HZ1.out
 have hfz := fz_ HZ1.out
 simp only [zM0] at hcz ⊢
 go_wp2_with fail
 clear hcz hfz
 refine bodyPost_ret (rr_ rfl _ _ w.heap.size _ _ _ _ rfl (put12_box (.int .u16 0) (.bool false) (.int .i64 0) (.bool false) (.bool false) (.bool false) (.bool false) (.int .i64 0) (.slice none 0 0) (.slice none 0 0) (.slice none 0 0) (.slice none 0 0) HZ1.out) undMsg rfl (by kernel_rfl)) rfl ?_
 exact ⟨rfl, bg_ HB1.out (Nat.le_refl _) (put12_grown w1 w.heap.size (.int .u16 0) (.bool false) (.int .i64 0) (.bool false) (.bool false) (.bool false) (.bool false) (.int .i64 0) (.slice none 0 0) (.slice none 0 0) (.slice none 0 0) (.slice none 0 0))⟩
theorem tUnpack_yes (w : World) (b c : Nat) (s : ByteArray) (hsm : s.size ≤ 2097152) (hsc : s.size ≤ c) (hbl : b < w.heap.size) (hc : Bytes w b s) (m : Msg) (hn : unpack s = some m) :
  Calls Tryz.prog 16 #[.slice (some ⟨b, 0, none⟩) s.size c] w fun e w' => ∃ vq va vu vx, e = .returned (.tuple #[.agg (mc_ m vq va vu vx), .int .i64 0]) ∧ Hid (Below w.heap.size w w' ∧ WfM m ∧ Rows4 (w.heap.size + 1) w' m vq va vu vx) := by
 have hB : Below w.heap.size w (w.alloc (Obj.cells #[.int .u16 0, .bool false, .int .i64 0, .bool false, .bool false, .bool false, .bool false, .int .i64 0, .slice none 0 0, .slice none 0 0, .slice none 0 0, .slice none 0 0] 30)) := (Below.refl _ _).alloc (Nat.le_refl _) _
 have HB := hide hB
 have HC := hide (hc.below hbl hB)
 have HN := hide hn
 clear hc hn hB
 go_enter Tryz.func16, Tryz.ntmps16
 go_wp2_with fail
 refine (wUnpack_any _ b c s hsm hsc (Nat.lt_of_lt_of_le hbl HB.out.size) HC.out).mono ?_
 intro e w1 H1
 obtain ⟨hb1, _, hyes⟩ := H1.out
 obtain ⟨vq, va, vu, vx, rfl, hwf, hrows⟩ := hyes m HN.out
 rw [as_] at hrows
 have HRW := hide hrows
 have HWF := hide hwf
 have HB1 := hide (HB.out.trans (hb1.mono HB.out.size))
 have HZ1 : Hid (w1.heap[w.heap.size]? = some (.cells zM0 30)) := (hb1.block _ (by rw [as_]; omega)).trans (hn_ _ _)
 obtain ⟨aq, cq, rfl⟩ := os_ hrows.q
 obtain ⟨aa, ca, rfl⟩ := os_ hrows.a
 obtain ⟨au, cu, rfl⟩ := os_ hrows.u
 obtain ⟨ax, cx, rfl⟩ := os_ hrows.x
 clear H1 hb1 hyes hrows hwf
 have hcz := bc_ HZ1.out
 have hfz := fz_ HZ1.out
 simp only [zM0] at hcz
 simp only [mc_]
 go_wp2_with fail
 clear hcz hfz
 refine bodyPost_ret (rr_ rfl _ _ w.heap.size _ _ _ _ rfl (put12_box (.int .u16 m.id) (.bool m.resp) (.int .i64 m.op) (.bool m.own) (.bool m.cut) (.bool m.wanted) (.bool m.able) (.int .i64 m.code) (.slice aq m.qs.length cq) (.slice aa m.an.length ca) (.slice au m.au.length cu) (.slice ax m.ex.length cx) HZ1.out) undMsg rfl (by kernel_rfl)) rfl ?_
 have hG := put12_grown w1 w.heap.size (.int .u16 m.id) (.bool m.resp) (.int .i64 m.op) (.bool m.own) (.bool m.cut) (.bool m.wanted) (.bool m.able) (.int .i64 m.code) (.slice aq m.qs.length cq) (.slice aa m.an.length ca) (.slice au m.au.length cu) (.slice ax m.ex.length cx)
 exact ⟨_, _, _, _, rfl, bg_ HB1.out (Nat.le_refl _) hG, HWF.out, HRW.out.grow hG (by omega)⟩
end Go.Proofs.YtafoepfhepdcoaaGreat
