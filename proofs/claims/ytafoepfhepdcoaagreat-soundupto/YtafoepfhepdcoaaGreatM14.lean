import Derived.Test.YtafoepfhepdcoaaGreatM13
import Derived.BigQuiet
import Derived.Laws.EntriesVeiled
set_option maxRecDepth 100000
set_option maxHeartbeats 8000000
namespace Go.Proofs.YtafoepfhepdcoaaGreat
open Go.RowKit Go.Trawl
theorem undQn : Tryz.prog.underlying 41 = some (.struct (Tryz.prog.fieldsOf 41)) := by kernel_rfl
theorem buildCh2 (n : ByteArray) (k : Int) (W : World) : (Instr.build 192 #[(2, .string n), (3, .int .u16 k)]).run Tryz.prog W = .ok (.agg #[.pointer none, .int .i64 0, .string n, .int .u16 k, .string ⟨#[]⟩, .slice none 0 0, .slice none 0 0, .int .i64 0]) W := run_build W _ _ _ (by kernel_rfl)
theorem buildCh4 (a : Option Addr) (d : Int) (n : ByteArray) (W : World) : (Instr.build 192 #[(0, .pointer a), (1, .int .i64 d), (2, .string n), (3, .int .u16 1)]).run Tryz.prog W = .ok (.agg #[.pointer a, .int .i64 d, .string n, .int .u16 1, .string ⟨#[]⟩, .slice none 0 0, .slice none 0 0, .int .i64 0]) W := run_build W _ _ _ (by kernel_rfl)
theorem buildQ1' (n : ByteArray) (k : Int) (W : World) : (Instr.build 41 #[(0, .string n), (1, .int .u16 k), (2, .int .u16 1)]).run Tryz.prog W = .ok (.agg #[.string n, .int .u16 k, .int .u16 1]) W := run_build W _ _ _ (by kernel_rfl)
attribute [local go_sem] buildCh2 buildCh4 buildQ1'
def zQc : Array Value := #[.string ⟨#[]⟩, .int .u16 0, .int .u16 0]
theorem q_asked (w : World) (sb : Nat) (s : QSt) (V : QV) (cs : List QC) (q : Qn) (h : QAt w sb s V cs) (hq : s.reply.qs = [q]) :
  Calls Tryz.prog 114 #[.pointer (some ⟨sb, 0, none⟩)] w fun e w' => e = .returned (.agg #[.string q.name, .int .u16 q.kind, .int .u16 q.cls]) ∧ Hid (Below w.heap.size w w') := by
 have hb1 := (Below.refl w.heap.size w).alloc (Nat.le_refl _) (.cells zQc 41)
 have h1 := h.below hb1
 have hz := heap_new w (.cells zQc 41)
 obtain ⟨vR, vq, vK⟩ := V
 have hqs := h1.qs
 rw [hq] at hqs
 obtain ⟨aq, cq, rfl, _⟩ := (show Lies _ 3 vq ([q].map Qn.cells) from hqs)
 obtain ⟨bq, oq, rfl, c0, c1, c2⟩ := q_one hqs
 have hc := box_cells h1.box
 simp only [qCells] at hc
 have hcz := box_cells hz
 have hfz := frozen_of_block hz
 clear h h1 hb1 hqs hz
 unfold zQc at *
 go_enter Tryz.func114, Tryz.ntmps114
 go_wp2_with fail
 clear hc hcz hfz c0 c1 c2
 refine bodyPost_ret (results_cell_row rfl _ _ w.heap.size _ _ _ _ rfl (heap_new w _) undQn rfl (by kernel_rfl)) rfl ?_
 exact ⟨rfl, (Below.refl _ _).alloc (Nat.le_refl _) _⟩
theorem q_question (w : World) (c : QC) (r : List QC) (h : Chain w (c :: r)) :
  Calls Tryz.prog 115 #[.pointer (some ⟨c.blk, 0, none⟩)] w fun e w' => e = .returned (.agg #[.string c.ch.name, .int .u16 c.ch.kind, .int .u16 1]) ∧ Hid (Below w.heap.size w w') := by
 have hb1 := (Below.refl w.heap.size w).alloc (Nat.le_refl _) (.cells zQc 41)
 have h1 := (hb1.block _ (heap_lt h.1)).trans h.1
 have hl := heap_lt h.1
 have hz := heap_new w (.cells zQc 41)
 have HB := hide hb1
 have hc := box_cells h1
 simp only [qcCells] at hc
 have hcz := box_cells hz
 have hfz := frozen_of_block hz
 have HZ := hide hz
 obtain ⟨ch, blk, vs, vn⟩ := c
 dsimp only at hc hl ⊢
 clear h h1 hb1 hz
 unfold zQc at *
 have hne : ¬ w.heap.size = blk := by omega
 have hne' : ¬ blk = w.heap.size := by omega
 go_enter Tryz.func115, Tryz.ntmps115
 go_wp2_with fail
 generalize hW : w.alloc (.cells #[.string ⟨#[]⟩, .int .u16 0, .int .u16 0] 41) = W at HB HZ hc hcz hfz ⊢
 go_region_held3 (fun w' => w'.cell? ⟨blk, 2, none⟩ = some (.string ch.name) ∧ w'.cell? ⟨blk, 3, none⟩ = some (.int .u16 ch.kind)) (go_keep) (fail)
 clear hc hcz hfz
 go_wp2_with fail
 have hG := grownBy_trans (put3_grown W w.heap.size (.string ch.name) (.int .u16 ch.kind) (.int .u16 1)) (grownBy_drew _ (some w.heap.size))
 refine bodyPost_ret (results_cell_row rfl _ _ w.heap.size _ _ _ _ rfl (put3_box (.string ch.name) (.int .u16 ch.kind) (.int .u16 1) HZ.out) undQn rfl (by kernel_rfl)) rfl ?_
 exact ⟨rfl, below_of_grown HB.out (Nat.le_refl _) hG⟩
theorem q_server (w : World) (c : QC) (r : List QC) (n : Nat) (h : Chain w (c :: r)) (hne : c.ch.servers ≠ []) (hn : n ≤ 1000) (hs : c.ch.servers.length ≤ 4294967295) :
  Calls Tryz.prog 116 #[.pointer (some ⟨c.blk, 0, none⟩), .int .i64 n] w fun e w' => e = .returned (.int .u32 (c.ch.servers.getD (n % c.ch.servers.length) 0)) ∧ ∃ k, w' = w.drewN k := by
 have hc := box_cells h.1
 simp only [qcCells] at hc
 obtain ⟨ch, blk, vs, vn⟩ := c
 obtain ⟨nm, kd, zn, sv, sn, ns⟩ := ch
 dsimp only at hc hne hs ⊢
 have hsv : Lies w 1 vs (wordsV sv) := h.2.1
 obtain ⟨aS, cS, rfl, _, hsv⟩ := hsv
 have hlw : (wordsV sv).length = sv.length := by simp [wordsV]
 rw [hlw] at hc
 rcases hsv with e0 | ⟨bS, oS, rfl, hbS, hS⟩
 ·exact absurd (by simpa [wordsV] using e0) hne
 have hpos : 0 < sv.length := List.length_pos_iff.2 hne
 have hmod : n % sv.length < sv.length := Nat.mod_lt _ hpos
 obtain ⟨x, hx⟩ : ∃ x, sv[n % sv.length]? = some x := ⟨_, List.getElem?_eq_getElem hmod⟩
 have hxS : w.cell? ⟨bS, oS + n % sv.length, none⟩ = some (.int .u32 x) := by
  have := hS (n % sv.length) [.int .u32 x] (by simp [wordsV, hx]) 0 (.int .u32 x) rfl
  simpa using this
 have hto : sv.getD (n % sv.length) 0 = x := by simp [List.getD, hx]
 rw [hto]
 clear hS hne h hx hto
 have hti : ¬ ((sv.length : Int) = 0) := by omega
 go_enter Tryz.func116, Tryz.ntmps116
 go_wp2_with fail
 go_quiet (fail)
 go_wp2_with fail
 go_ret
 exact ⟨rfl, nq, rfl⟩
theorem Fr.after {w0 w w' : World} {O O1 O2 O' : Nat → Prop} (h : Fr w0 w O O1) (k : Fr w w' O2 O') (hO : ∀ i, O2 i → O i ∨ w0.heap.size ≤ i) : Fr w0 w' O O' := by
 refine ⟨k.os.trans h.os, k.tape.trans h.tape, k.output.trans h.output, Nat.le_trans h.size k.size, fun i hi ho => ?_, fun i hi => ?_⟩
 ·rw [k.block i (Nat.lt_of_lt_of_le hi h.size) (fun h1 => by
   rcases hO i h1 with h2 | h2
   ·exact ho h2
   ·omega)]
  exact h.block i hi ho
 ·rcases k.new i hi with h1 | h1
  ·exact hO i h1
  ·exact .inr (Nat.le_trans h.size h1)
theorem nilCap : capOk (.slice none 0 0) := fun a n c e => by cases e; exact Nat.le_refl _
theorem mf (fn : Fn) (first cap : Array Value) (w : World) : (Instr.makeFunc fn first cap).run Tryz.prog w = .ok (.func fn first cap) w := rfl
attribute [local go_sem] mf
theorem QAt.ahead {w : World} {sb : Nat} {s : QSt} {V : QV} {cs r : List QC} (h : QAt w sb s V cs) (hr : r = [] ∨ r = cs) : Chain w r ∧ (r.map QC.blk).Nodup ∧ (∀ c ∈ r, c ∈ cs) := by
 rcases hr with rfl | rfl
 ·exact ⟨trivial, by simp, by simp⟩
 ·exact ⟨h.chain, h.nod, fun _ h => h⟩
theorem QAt.start {w : World} {sb : Nat} {s : QSt} {V : QV} {cs r : List QC} (h : QAt w sb s V cs) (hr : r = [] ∨ r = cs) (nb : Nat) (n : ByteArray) (k : Int) (hx : w.heap[nb]? = some (.cells #[chPtr r, .int .i64 r.length, .string n, .int .u16 k, .string ⟨#[]⟩, .slice none 0 0, .slice none 0 0, .int .i64 0] 192)) (hn : ¬ V.owns cs sb nb) :
  QAt ((((w.setCell ⟨nb, 4, none⟩ (.string ⟨#[0]⟩)).setCell ⟨nb, 6, none⟩ V.vR).setCell ⟨sb, 7, none⟩ (.pointer (some ⟨nb, 0, none⟩))).setCell ⟨sb, 6, none⟩ (nextV sb .send)) sb (startQ s (newQ n k) (r.map QC.ch)) V (⟨{ newQ n k with zone := rootN, servers := s.roots }, nb, V.vR, .slice none 0 0⟩ :: r) ∧
  Fr w ((((w.setCell ⟨nb, 4, none⟩ (.string ⟨#[0]⟩)).setCell ⟨nb, 6, none⟩ V.vR).setCell ⟨sb, 7, none⟩ (.pointer (some ⟨nb, 0, none⟩))).setCell ⟨sb, 6, none⟩ (nextV sb .send)) (fun i => i = nb ∨ V.owns cs sb i) (V.owns (⟨{ newQ n k with zone := rootN, servers := s.roots }, nb, V.vR, .slice none 0 0⟩ :: r) sb) := by
 have g1 := grownBy_setCell w nb 4 (.string ⟨#[0]⟩)
 have x1 := heap_setCell_eq (j := 4) hx (.string ⟨#[0]⟩)
 have g2 := grownBy_setCell (w.setCell ⟨nb, 4, none⟩ (.string ⟨#[0]⟩)) nb 6 V.vR
 have x2 := heap_setCell_eq (j := 6) x1 V.vR
 have g := grownBy_trans g1 g2
 have h2 := h.aside g hn
 have hz2 : ((w.setCell ⟨nb, 4, none⟩ (.string ⟨#[0]⟩)).setCell ⟨nb, 6, none⟩ V.vR).heap.size = w.heap.size := by simp [World.setCell]
 have hl : nb < w.heap.size := heap_lt hx
 generalize ((w.setCell ⟨nb, 4, none⟩ (.string ⟨#[0]⟩)).setCell ⟨nb, 6, none⟩ V.vR) = w2 at g x2 h2 hz2 ⊢
 obtain ⟨hc, hnd, hsub⟩ := h2.ahead hr
 have hwr : ∀ i, V.writes (⟨{ newQ n k with zone := rootN, servers := s.roots }, nb, V.vR, .slice none 0 0⟩ :: r) sb i → i = nb ∨ V.writes cs sb i := by
  rintro i (e | e | ⟨x, hx, e⟩)
  ·exact .inr (.inl e)
  ·exact .inr (.inr (.inl e))
  ·rcases List.mem_cons.1 hx with rfl | hx
   ·exact .inl e
   ·exact .inr (.inr (.inr ⟨x, hsub x hx, e⟩))
 have hrd : ∀ v ∈ V.reads (⟨{ newQ n k with zone := rootN, servers := s.roots }, nb, V.vR, .slice none 0 0⟩ :: r), ∀ i, v.ownBlock = some i → ∃ u ∈ V.reads cs, u.ownBlock = some i := by
  intro v hv i e
  rcases mem_reads.1 hv with rfl | rfl | ⟨x, hx, e1⟩
  ·exact ⟨_, mem_reads.2 (.inl rfl), e⟩
  ·exact ⟨_, mem_reads.2 (.inr (.inl rfl)), e⟩
  ·rcases List.mem_cons.1 hx with rfl | hx
   ·rcases e1 with rfl | rfl
    ·exact ⟨_, mem_reads.2 (.inl rfl), e⟩
    ·cases e
   ·exact ⟨v, mem_reads.2 (.inr (.inr ⟨x, hsub x hx, e1⟩)), e⟩
 have how : ∀ i, V.owns (⟨{ newQ n k with zone := rootN, servers := s.roots }, nb, V.vR, .slice none 0 0⟩ :: r) sb i → i = nb ∨ V.owns cs sb i := by
  rintro i (e | ⟨v, hv, e⟩)
  ·rcases hwr i e with e | e
   ·exact .inl e
   ·exact .inr (.inl e)
  ·exact .inr (.inr (hrd v hv i e))
 have h3 := h2.link (cs' := ⟨{ newQ n k with zone := rootN, servers := s.roots }, nb, V.vR, .slice none 0 0⟩ :: r) ⟨x2, h2.roots, liesNil _ _, nilCap, hc⟩ (by
   simp only [List.map_cons, List.nodup_cons, List.mem_map, not_exists, not_and]
   exact ⟨fun x hx e => hn (.inl (.inr (.inr ⟨x, hsub x hx, e.symm⟩))), hnd⟩) (fun v hv i e hw => by
   obtain ⟨u, hu, e2⟩ := hrd v hv i e
   rcases hwr i hw with e3 | e3
   ·exact hn (by rw [← e3]; exact .inr ⟨u, hu, e2⟩)
   ·exact h2.free u hu i e2 e3) (fun i e => by
   rcases how i e with e | e
   ·omega
   ·exact h2.lt i e)
 have h4 := h3.set (s' := startQ s (newQ n k) (r.map QC.ch)) 6 (nextV sb .send) rfl rfl rfl rfl rfl
 refine ⟨h4, ?_⟩
 have f1 : Fr w w2 (fun i => i = nb ∨ V.owns cs sb i) (fun i => i = nb ∨ V.owns cs sb i) := ⟨g.os, g.tape, g.output, g.size, fun i hi ho => g.block i hi (fun e => ho (.inl (Option.some.inj e))), fun i hi => .inl hi⟩
 exact (f1.turn (grownBy_setCell w2 sb 7 _) (.inl (.inr (.inl (.inl rfl)))) (fun i hi => .inl hi)).turn (grownBy_setCell _ sb 6 _) (.inl (.inr (.inl (.inl rfl)))) (fun i hi => .inl (how i hi))
theorem q_start (w : World) (sb : Nat) (s : QSt) (V : QV) (cs r : List QC) (nb : Nat) (n : ByteArray) (k : Int) (h : QAt w sb s V cs) (hr : r = [] ∨ r = cs) (hx : w.heap[nb]? = some (.cells #[chPtr r, .int .i64 r.length, .string n, .int .u16 k, .string ⟨#[]⟩, .slice none 0 0, .slice none 0 0, .int .i64 0] 192)) (hn : ¬ V.owns cs sb nb) :
  Calls Tryz.prog 151 #[.pointer (some ⟨sb, 0, none⟩), .pointer (some ⟨nb, 0, none⟩)] w fun e w' => e = .returned (.tuple #[]) ∧ Hid (∃ cs', QAt w' sb (startQ s (newQ n k) (r.map QC.ch)) V cs' ∧ Fr w w' (fun i => i = nb ∨ V.owns cs sb i) (V.owns cs' sb)) := by
 have H := hide (h.start hr nb n k hx hn)
 have hc := box_cells h.box
 have hf := frozen_of_block h.box
 simp only [qCells] at hc
 have hcx := box_cells hx
 have hfx := frozen_of_block hx
 have hne : ¬ nb = sb := fun e => hn (.inl (.inl e))
 have hne' : ¬ sb = nb := fun e => hne e.symm
 obtain ⟨vR, vq, vK⟩ := V
 obtain ⟨aR, cR, rfl, _⟩ := (show Lies w 1 vR (wordsV s.roots) from h.roots)
 clear h hx hn hr
 dsimp only at hc
 unfold nextV at H
 go_enter Tryz.func151, Tryz.ntmps151
 go_wp2_with fail
 go_end0
 exact ⟨rfl, _, H.out.1, H.out.2⟩
end Go.Proofs.YtafoepfhepdcoaaGreat
namespace Go.Proofs.YtafoepfhepdcoaaGreat
open Go.RowKit Go.Trawl
theorem fieldQ0 (a b c : Value) (w : World) : (Instr.field 41 (.agg #[a, b, c]) 0).run Tryz.prog w = .ok a w := by kernel_rfl
theorem fieldQ1 (a b c : Value) (w : World) : (Instr.field 41 (.agg #[a, b, c]) 1).run Tryz.prog w = .ok b w := by kernel_rfl
attribute [local go_sem] buildCh2 buildCh4 mf fieldQ0 fieldQ1
theorem q_lookUp (w : World) (sb : Nat) (s : QSt) (V : QV) (cs : List QC) (n : ByteArray) (q : Qn) (h : QAt w sb s V cs) (hq : s.reply.qs = [q]) :
  Calls Tryz.prog 113 #[.pointer (some ⟨sb, 0, none⟩), .string n] w fun e w' => e = .returned (.tuple #[]) ∧ Hid (∃ cs', QAt w' sb (startQ s (newQ n q.kind) []) V cs' ∧ Fr w w' (V.owns cs sb) (V.owns cs' sb)) := by
 have H := hide h
 have HLT := hide h.lt
 have HQ := hide hq
 clear h hq
 go_enter Tryz.func113, Tryz.ntmps113
 go_wp2_with fail
 refine (q_asked w sb s V cs q H.out HQ.out).mono ?_
 rintro e w1 ⟨rfl, HB⟩
 go_wp2_with fail
 have hb2 := (Below.refl w1.heap.size w1).alloc (Nat.le_refl _) (.cells #[.pointer none, .int .i64 0, .string n, .int .u16 q.kind, .string ⟨#[]⟩, .slice none 0 0, .slice none 0 0, .int .i64 0] 192)
 have hB := HB.out.trans (hb2.mono HB.out.size)
 have hs := HB.out.size
 refine (q_start _ sb s V cs [] w1.heap.size n q.kind (H.out.below hB) (.inl rfl) (heap_new w1 _) (fun e => by have := HLT.out _ e; omega)).mono ?_
 rintro e w2 ⟨rfl, H2⟩
 go_wp2_with fail
 go_end0
 obtain ⟨cs', h2, f2⟩ := H2.out
 exact ⟨rfl, cs', h2, (Fr.of_below hB _).after f2 (fun i hi => by
  rcases hi with rfl | hi
  ·exact .inr hs
  ·exact .inl hi)⟩
theorem QAt.pushK {w w' : World} {sb : Nat} {s : QSt} {V : QV} {cs : List QC} (h : QAt w sb s V cs) {v' : Value} {n : Nat} {xs : List Value} (g : Grew 69 5 w w' V.vK v' n xs) (l : List Rc) (hn : n = (s.reply.an ++ l).length) (hxs : xs = ((s.reply.an ++ l).map Rc.cells).flatten) :
  QAt (w'.setCell ⟨sb, 18, none⟩ v') sb { s with reply := { s.reply with an := s.reply.an ++ l } } { V with vK := v' } cs ∧ Fr w (w'.setCell ⟨sb, 18, none⟩ v') (V.owns cs sb) (QV.owns { V with vK := v' } cs sb) := by
 have hsb := h.slt
 have hg := g.grown
 have n1 : V.vK.ownBlock ≠ some sb := own_type_ne h.kept h.box (by decide)
 have hbox := (g.keeps hsb n1).1.trans h.box
 have nv : v'.ownBlock ≠ some sb := (g.keeps hsb n1).2.1
 have hz : (w'.setCell ⟨sb, 18, none⟩ v').heap.size = w'.heap.size := by simp [World.setCell]
 have hsz : w.heap.size ≤ (w'.setCell ⟨sb, 18, none⟩ v').heap.size := by rw [hz]; exact hg.size
 have keep : ∀ k, k < w.heap.size → k ≠ sb → V.vK.ownBlock ≠ some k → (w'.setCell ⟨sb, 18, none⟩ v').heap[k]? = w.heap[k]? := fun k hk n1 n2 => (Below.heap_setCell w' ⟨sb, 18, none⟩ v' k n1).trans (hg.block k hk (fun e => n2 e.symm))
 have hv : ∀ k, v'.ownBlock = some k → V.vK.ownBlock = some k ∨ w.heap.size ≤ k := fun k hk => by
  rcases g.loc with e | ⟨j, e, hj⟩
  ·exact .inl (e ▸ hk)
  ·rw [hk] at e
   cases e
   exact .inr hj
 have hwr : ∀ k, QV.writes { V with vK := v' } cs sb k → V.writes cs sb k ∨ w.heap.size ≤ k ∧ k < w'.heap.size := by
  rintro k (e | e | e)
  ·exact .inl (.inl e)
  ·rcases hv k e with e1 | e1
   ·exact .inl (.inr (.inl e1))
   ·exact .inr ⟨e1, (g.own.lt k e).2⟩
  ·exact .inl (.inr (.inr e))
 have own' := g.own
 rw [hn, hxs] at own'
 have hrl : ∀ v ∈ V.reads cs, ∀ k, v.ownBlock = some k → k < w.heap.size := fun v hv k hk => h.lt k (.inr ⟨v, hv, hk⟩)
 have hrk : ∀ v ∈ V.reads cs, ∀ k, v.ownBlock = some k → (w'.setCell ⟨sb, 18, none⟩ v').heap[k]? = w.heap[k]? := fun v hv k e => keep k (hrl v hv k e) (fun e2 => h.free v hv k e (.inl e2)) (fun e2 => h.free v hv k e (.inr (.inl e2)))
 have hcb : ∀ c ∈ cs, V.vK.ownBlock ≠ some c.blk := fun c hc => by
  obtain ⟨ys, hy⟩ := h.chain.mem c hc
  exact own_type_ne h.kept hy (by decide)
 refine ⟨⟨by rw [heap_setCell_eq hbox]; rfl, h.chs, h.roots.keep hsz (fun b hb _ => hrk _ (mem_reads.2 (.inl rfl)) b hb), h.qs.keep hsz (fun b hb _ => hrk _ (mem_reads.2 (.inr (.inl rfl))) b hb), own_same_at own' (fun k hk => Below.heap_setCell w' ⟨sb, 18, none⟩ v' k (show k ≠ sb from fun e => nv (by rw [← e]; exact hk))), h.chain.keep hsz (fun c hc => keep _ (h.lt _ (.inl (.inr (.inr ⟨c, hc, rfl⟩)))) (h.chain.nsb h.box c hc) (hcb c hc)) (fun c hc k e => ?_), h.nod, fun v hv k hk hwk => ?_, fun k hk => ?_⟩, ⟨hg.os, hg.tape, hg.output, hsz, fun k hk ho => keep k hk (fun e => ho (.inl (.inl e))) (fun e => ho (.inl (.inr (.inl e)))), fun k hk => ?_⟩⟩
 ·rcases e with e | e
  ·exact hrk _ (mem_reads.2 (.inr (.inr ⟨c, hc, .inl rfl⟩))) k e
  ·exact hrk _ (mem_reads.2 (.inr (.inr ⟨c, hc, .inr rfl⟩))) k e
 ·rcases hwr k hwk with e | e
  ·exact h.free v hv k hk e
  ·have := hrl v hv k hk; omega
 ·rw [hz]
  have := hg.size
  rcases hk with hk | ⟨v, hv, hk⟩
  ·rcases hwr k hk with e | e
   ·have := h.lt k (.inl e); omega
   ·exact e.2
  ·have := hrl v hv k hk; omega
 ·rcases hk with hk | ⟨v, hv, hk⟩
  ·rcases hwr k hk with e | e
   ·exact .inl (.inl e)
   ·exact .inr e.1
  ·exact .inl (.inr ⟨v, hv, hk⟩)
theorem own_of_sub {V V' : QV} {cs : List QC} {sb : Nat} (h1 : V'.vR = V.vR) (h2 : V'.vq = V.vq) (h3 : ∀ k, V'.vK.ownBlock = some k → V.vK.ownBlock = some k) : (∀ v, v ∈ V'.reads cs → v ∈ V.reads cs) ∧ (∀ k, V'.writes cs sb k → V.writes cs sb k) ∧ ∀ k, V'.owns cs sb k → V.owns cs sb k := by
 have a : ∀ v, v ∈ V'.reads cs → v ∈ V.reads cs := fun v hv => by
  rcases mem_reads.1 hv with e | e | e
  ·exact mem_reads.2 (.inl (e.trans h1))
  ·exact mem_reads.2 (.inr (.inl (e.trans h2)))
  ·exact mem_reads.2 (.inr (.inr e))
 have b : ∀ k, V'.writes cs sb k → V.writes cs sb k := by
  rintro k (e | e | e)
  ·exact .inl e
  ·exact .inr (.inl (h3 k e))
  ·exact .inr (.inr e)
 refine ⟨a, b, ?_⟩
 rintro k (e | ⟨v, hv, e⟩)
 ·exact .inl (b k e)
 ·exact .inr ⟨v, a v hv, e⟩
theorem QAt.dropK {w : World} {sb : Nat} {s : QSt} {V : QV} {cs : List QC} (h : QAt w sb s V cs) : QAt (w.setCell ⟨sb, 18, none⟩ (.slice none 0 0)) sb { s with reply := { s.reply with an := [] } } { V with vK := .slice none 0 0 } cs := by
 obtain ⟨h1, h2, h3⟩ := own_of_sub (V := V) (V' := { V with vK := .slice none 0 0 }) (cs := cs) (sb := sb) rfl rfl (fun k e => by cases e)
 exact h.turn (grownBy_setCell w sb 18 _) (by rw [heap_setCell_eq h.box]; rfl) rfl rfl h.qs (World.ownsRow_nil _ _ _ _) h.chs h.chain h.nod (fun v hv k e hk => h.free v (h1 v hv) k e (h2 k hk)) (fun k e => h.lt k (h3 k e))
def QSays (w : World) (sb : Nat) (V : QV) (cs : List QC) (s : QSt) (e : Ending) (w' : World) : Prop := e = .returned (.tuple #[]) ∧ Hid (∃ V' cs', QAt w' sb s V' cs' ∧ Fr w w' (V.owns cs sb) (V'.owns cs' sb))
theorem Fr.self {V : QV} {cs : List QC} {sb : Nat} (w : World) (j : Nat) (u : Value) : Fr w (w.setCell ⟨sb, j, none⟩ u) (V.owns cs sb) (V.owns cs sb) := (Fr.of_below (Below.refl _ w) _).turn (grownBy_setCell w sb j u) (.inl (.inl (.inl rfl))) (fun _ h => .inl h)
theorem q_settle (w : World) (sb : Nat) (s : QSt) (V : QV) (cs : List QC) (code : Int) (vl : Value) (l : List Rc) (h : QAt w sb s V cs) (hv : Lies w 5 vl (l.map Rc.cells)) (hvl : ∀ k, vl.ownBlock = some k → k ≠ sb) (hle : s.reply.an.length + l.length ≤ 2000000) :
  Calls Tryz.prog 157 #[.pointer (some ⟨sb, 0, none⟩), .int .i64 code, vl] w (QSays w sb V cs (settleQ s code l)) := by
 obtain ⟨i1, hi1, hy0, hy1, hy2⟩ := info_parts rI0
 have hc := box_cells h.box
 have hf := frozen_of_block h.box
 simp only [qCells] at hc
 have h1 := h.set (s' := { s with reply := { s.reply with code := code } }) 16 (.int .i64 code) rfl rfl rfl rfl rfl
 have f1 := Fr.self (V := V) (cs := cs) (sb := sb) w 16 (.int .i64 code)
 have hv1 := hv.keep (w' := w.setCell ⟨sb, 16, none⟩ (.int .i64 code)) (by simp [World.setCell]) (fun b hb _ => Below.heap_setCell _ _ _ _ (hvl b hb))
 obtain ⟨vR, vq, vK⟩ := V
 obtain ⟨aK, cK, rfl⟩ := own_slice (show w.ownsRow 0 69 5 vK s.reply.an.length ((s.reply.an.map Rc.cells).flatten) from h.kept)
 obtain ⟨av, cv, rfl, _⟩ := (show Lies w 5 vl (l.map Rc.cells) from hv)
 have HV1 := hide hv1
 have H1 := hide h1
 have HF1 := hide f1
 clear h h1 f1 hv hv1 hvl
 unfold QSays
 go_enter Tryz.func157, Tryz.ntmps157
 go_wp2_with (at_builtin; refine Go.Trawl.wpList_append_lies _ rfl _ _ 28 rfl 69 i1 _ 5 40 uRs hi1 hy0 hy1 hy2 rfl (by decide) (.slice aK s.reply.an.length cK) s.reply.an.length _ rfl _ (l.map Rc.cells) rfl (rcells_ok _) H1.out.kept HV1.out (by rw [List.length_map]; unfold maxLen; omega) (by rw [List.length_map]; omega) ?_; intro v2 W2 g2; obtain ⟨a2, c2, rfl⟩ := own_slice g2.own; simp only [List.length_map] at g2; have HP2 := hide (H1.out.pushK g2 l (by simp) (by simp)); clear hc hf; have hb2 := (g2.keeps H1.out.slt (own_type_ne H1.out.kept H1.out.box (by decide))).1.trans H1.out.box; have hc := box_cells hb2; have hf := frozen_of_block hb2; simp only [qCells] at hc; clear g2 hb2)
 ·rename_i hcd
  clear hc hf
  go_end0
  have e : code = 2 := by first | exact hcd | simpa using hcd
  subst e
  have F3 : Fr (W2.setCell ⟨sb, 18, none⟩ (.slice a2 (s.reply.an.length + l.length) c2)) ((W2.setCell ⟨sb, 18, none⟩ (.slice a2 (s.reply.an.length + l.length) c2)).setCell ⟨sb, 18, none⟩ (.slice none 0 0)) (QV.owns ⟨vR, vq, .slice a2 (s.reply.an.length + l.length) c2⟩ cs sb) (QV.owns ⟨vR, vq, .slice none 0 0⟩ cs sb) := (Fr.self _ 18 _).less (fun i hi => .inl ((own_of_sub (V := ⟨vR, vq, .slice a2 (s.reply.an.length + l.length) c2⟩) (V' := ⟨vR, vq, .slice none 0 0⟩) rfl rfl (fun k e => by cases e)).2.2 i hi))
  have H4 := (HP2.out.1.dropK).set (s' := settleQ s 2 l) 6 (nextV sb .finish) rfl rfl rfl rfl rfl
  exact ⟨rfl, _, _, H4, ((HF1.out.trans HP2.out.2).trans F3).trans (Fr.self _ 6 _)⟩
 ·rename_i hcd
  clear hc hf
  go_end0
  have e : ¬ code = 2 := by first | exact hcd | simpa using hcd
  have es : settleQ s code l = { s with ph := .finish, reply := { s.reply with code := code, an := s.reply.an ++ l } } := by unfold settleQ; rw [if_neg e]
  rw [es]
  have H4 := HP2.out.1.set (s' := { s with ph := .finish, reply := { s.reply with code := code, an := s.reply.an ++ l } }) 6 (nextV sb .finish) rfl rfl rfl rfl rfl
  exact ⟨rfl, _, _, H4, (HF1.out.trans HP2.out.2).trans (Fr.self _ 6 _)⟩
end Go.Proofs.YtafoepfhepdcoaaGreat
namespace Go.Proofs.YtafoepfhepdcoaaGreat
open Go.RowKit Go.Trawl
theorem or24 {a b : Nat} (ha : a < 256) (hb : b < 256) : bits BinOp.or IntKind.u32 ((a : Int) * 16777216) ((b : Int) * 65536) = (a : Int) * 16777216 + (b : Int) * 65536 := by
 have h := u32_or_nat (a * 16777216) (b * 65536) (by omega) (by omega)
 have e : a * 16777216 ||| b * 65536 = a * 16777216 + b * 65536 := by
  have := Nat.shiftLeft_add_eq_or_of_lt (b := b * 65536) (i := 24) (by omega) a
  rw [Nat.shiftLeft_eq] at this
  exact this.symm
 rw [e] at h
 exact h.trans (by omega)
theorem or16 {a b c : Nat} (ha : a < 256) (hb : b < 256) (hc : c < 256) : bits BinOp.or IntKind.u32 ((a : Int) * 16777216 + (b : Int) * 65536) ((c : Int) * 256) = (a : Int) * 16777216 + (b : Int) * 65536 + (c : Int) * 256 := by
 have h := u32_or_nat (a * 16777216 + b * 65536) (c * 256) (by omega) (by omega)
 have e : a * 16777216 + b * 65536 ||| c * 256 = a * 16777216 + b * 65536 + c * 256 := by
  have := Nat.shiftLeft_add_eq_or_of_lt (b := c * 256) (i := 16) (by omega) (a * 256 + b)
  rw [Nat.shiftLeft_eq, show (2 : Nat) ^ 16 = 65536 from rfl] at this
  have e2 : a * 16777216 + b * 65536 = (a * 256 + b) * 65536 := by clear this h; omega
  rw [e2]
  exact this.symm
 rw [e] at h
 exact h.trans (by omega)
theorem or8 {a b c d : Nat} (ha : a < 256) (hb : b < 256) (hc : c < 256) (hd : d < 256) : bits BinOp.or IntKind.u32 ((a : Int) * 16777216 + (b : Int) * 65536 + (c : Int) * 256) (d : Int) = (a : Int) * 16777216 + (b : Int) * 65536 + (c : Int) * 256 + (d : Int) := by
 have h := u32_or_nat (a * 16777216 + b * 65536 + c * 256) d (by omega) (by omega)
 have e : a * 16777216 + b * 65536 + c * 256 ||| d = a * 16777216 + b * 65536 + c * 256 + d := by
  have := Nat.shiftLeft_add_eq_or_of_lt (b := d) (i := 8) (by omega) (a * 65536 + b * 256 + c)
  rw [Nat.shiftLeft_eq, show (2 : Nat) ^ 8 = 256 from rfl] at this
  have e2 : a * 16777216 + b * 65536 + c * 256 = (a * 65536 + b * 256 + c) * 256 := by clear this h; omega
  rw [e2]
  exact this.symm
 rw [e] at h
 exact h.trans (by omega)
theorem q_addresses (w : World) (v : Value) (l : List Rc) (hl : l.length ≤ 65535) (hds : ∀ r ∈ l, r.data.size ≤ 2097152) (hv : Lies w 5 v (l.map Rc.cells)) :
  Calls Tryz.prog 158 #[v] w fun e w' => ∃ (a : Option Addr) (c : Nat), e = .returned (.slice a (addrs l).length c) ∧ Hid (AL w w' (addrs l) (.slice a (addrs l).length c)) := by
 obtain ⟨i0, hi, hz0, hz1, hz2⟩ := info_parts wI0
 obtain ⟨av, cv, rfl, -, hv⟩ := hv
 rw [List.length_map]
 have HV := hide hv
 have HDS := hide hds
 have H0 : Hid (AL w w [] (.slice none 0 0)) := ⟨Below.refl _ _, World.ownsRow_nil _ _ _ _, fun g hg => by cases hg⟩
 clear hv hds
 go_enter Tryz.func158, Tryz.ntmps158
 go_wp2_with fail
 go_loopw [3, 9] (fun u i wr => ∃ (k : Nat) (xs : List Int) (a : Option Addr) (c : Nat), u = .slice a xs.length c ∧ i = .int .i64 k ∧ k ≤ l.length ∧ xs.length ≤ k ∧ Hid (xs = addrs (l.take k)) ∧ Hid (AL w wr xs (.slice a xs.length c))) (fun _ i _ => l.length - (intOf i).toNat)
 case atStart => exact ⟨0, [], none, 0, rfl, rfl, Nat.zero_le _, by simp, rfl, H0.out⟩
 case round =>
  obtain ⟨k, xs, a, c, rfl, rfl, hk, hxl, HX, HO⟩ := hrel
  by_cases hin : k < l.length
  ·obtain ⟨r, hr⟩ : ∃ r, l[k]? = some r := ⟨_, List.getElem?_eq_getElem hin⟩
   rcases HV.out with he | ⟨b, off, rfl, hbl, hc⟩
   ·exfalso; have := congrArg List.length he; simp at this; subst this; simp at hin
   obtain ⟨c0, c1, c2, c3, c4⟩ := Lies.rat hc hr
   have hdz := HDS.out r (List.mem_of_getElem? hr)
   have HTK : Hid (addrs (l.take (k + 1)) = xs ++ addrs [r]) := by
    unfold Hid
    rw [take_snoc l k r hr, HX.out]
    simp [addrs]
   have t1 : ∀ o u, w.cell? ⟨b, o, none⟩ = some u → wr.cell? ⟨b, o, none⟩ = some u := fun o u => cell_of_heap (HO.out.below.block b hbl)
   replace c0 := t1 _ _ c0
   replace c1 := t1 _ _ c1
   replace c2 := t1 _ _ c2
   replace c3 := t1 _ _ c3
   replace c4 := t1 _ _ c4
   have hwz := HO.out.below.size
   obtain ⟨nm, kd, cl, tt, dt⟩ := r
   dsimp only at c0 c1 c2 c3 c4 hdz
   clear hc hr t1
   have HOa : Hid (AL w (wr.alloc (.cells #[.string nm, .int .u16 kd, .int .u16 cl, .int .u32 tt, .string dt] 69)) xs (.slice a xs.length c)) := ⟨HO.out.below.alloc hwz _, HO.out.own.alloc _, HO.out.new⟩
   by_cases h4 : dt.size = 4
   ·have l0 := at8_lt dt 0
    have l1 := at8_lt dt 1
    have l2 := at8_lt dt 2
    have l3 := at8_lt dt 3
    have i0' : ∀ W, (Instr.index 9 (.string dt) (.int .i64 0)).run Tryz.prog W = .ok (.int .u8 (at8 dt 0)) W := idx dt 0 (by omega)
    have i1' : ∀ W, (Instr.index 9 (.string dt) (.int .i64 1)).run Tryz.prog W = .ok (.int .u8 (at8 dt 1)) W := idx dt 1 (by omega)
    have i2' : ∀ W, (Instr.index 9 (.string dt) (.int .i64 2)).run Tryz.prog W = .ok (.int .u8 (at8 dt 2)) W := idx dt 2 (by omega)
    have i3' : ∀ W, (Instr.index 9 (.string dt) (.int .i64 3)).run Tryz.prog W = .ok (.int .u8 (at8 dt 3)) W := idx dt 3 (by omega)
    have wr32 : ∀ x : Int, 0 ≤ x → x ≤ 4294967295 → IntKind.u32.wrap x = x := fun x h0 h1 => by
     have : IntKind.u32.wrap x = x % 4294967296 := rfl
     rw [this]
     omega
    have a0 := wr32 (at8 dt 0 : Int) (by omega) (by omega)
    have a1 := wr32 (at8 dt 1 : Int) (by omega) (by omega)
    have a2 := wr32 (at8 dt 2 : Int) (by omega) (by omega)
    have a3 := wr32 (at8 dt 3 : Int) (by omega) (by omega)
    have b0 := wr32 ((at8 dt 0 : Int) * 16777216) (by omega) (by omega)
    have b1 := wr32 ((at8 dt 1 : Int) * 65536) (by omega) (by omega)
    have b2 := wr32 ((at8 dt 2 : Int) * 256) (by omega) (by omega)
    have s1 := or24 l0 l1
    have s2 := or16 l0 l1 l2
    have s3 := or8 l0 l1 l2 l3
    clear wr32
    obtain ⟨W0, hW0⟩ : ∃ x : World, x = (wr.alloc (.cells #[.string nm, .int .u16 kd, .int .u16 cl, .int .u32 tt, .string dt] 69)).drew := ⟨_, rfl⟩
    obtain ⟨W1, hW1⟩ : ∃ x : World, x = W0.alloc (.cells #[.int .u32 ((at8 dt 0 : Int) * 16777216 + (at8 dt 1 : Int) * 65536 + (at8 dt 2 : Int) * 256 + (at8 dt 3 : Int))] 54) := ⟨_, rfl⟩
    have hO1 : W1.ownsRow 0 54 1 (.slice a xs.length c) xs.length (wV xs) := by
     rw [hW1, hW0]
     exact ((HOa.out.own.kept (grownBy_drew _ none) (by cases (Value.slice a xs.length c).ownBlock <;> simp)).alloc _)
    obtain ⟨v5, W2, hrun, g5⟩ := append_grew (P := Tryz.prog) W1 55 55 54 i0 (.int .u32 0) 1 4 uWs hi hz0 hz1 hz2 rfl (by decide) (.slice a xs.length c) xs.length (wV xs) hO1 ⟨W0.heap.size, 0, none⟩ 1 1 [.int .u32 ((at8 dt 0 : Int) * 16777216 + (at8 dt 1 : Int) * 65536 + (at8 dt 2 : Int) * 256 + (at8 dt 3 : Int))] rfl (by rw [hW1]; exact cells_new W0 #[.int .u32 ((at8 dt 0 : Int) * 16777216 + (at8 dt 1 : Int) * 65536 + (at8 dt 2 : Int) * 256 + (at8 dt 3 : Int))] 54) one_u8 (by unfold maxLen; omega) (by omega)
    obtain ⟨a5, c5, rfl⟩ := own_slice g5.own
    obtain ⟨f, hf0, hf1, hf2, hf3, hfp⟩ := Stg.coverE4 W0 W1 W2 W2
    have HU := hide (Stg.pick4_cover4 hf0 hf1 hf2 hf3)
    have HR := hide hrun
    have HW1 := hide hW1
    have HG5 : Hid (Grew 54 1 W1 W2 (.slice a xs.length c) (.slice a5 (xs.length + 1) c5) (xs.length + 1) (wV xs ++ [.int .u32 ((at8 dt 0 : Int) * 16777216 + (at8 dt 1 : Int) * 65536 + (at8 dt 2 : Int) * 256 + (at8 dt 3 : Int))])) := g5
    have HB1 : Hid (Below w.heap.size w W1) := by
     rw [hW1, hW0]
     exact (below_drewN HOa.out.below 1).alloc HOa.out.below.size _
    clear hf0 hf1 hf2 hf3 hfp hrun hW1 g5 hO1
    go_wp2_with fail
    refine Stg.wp_region_stage [19, 20] (fun j w' => w' = Stg.pick4 W0 W1 W2 W2 j) (by kernel_rfl) (by kernel_rfl) hW0.symm ?_
    clear hW0
    refine Stg.lex_upto 19 4 (by decide) (by kernel_rfl) HU.out ?_
    simp only [List.take_succ_cons, List.take_zero, List.drop_succ_cons, List.drop_zero]
    repeat (first | go_big_quiet_step (fail) | quiet_step (fail))
    refine wpQuiet_nil ?_
    refine Stg.lex_move 0 (by kernel_rfl) (.slice (some ⟨W0.heap.size, 0, none⟩) 1 1) ?_ ?_
    ·intro w' hw'
     rw [show w' = W0 from hw', show Stg.pick4 W0 W1 W2 W2 (0 + 1) = W1 from rfl]
     clear hw' w'
     go_simp
     exact ⟨rfl, HW1.out.symm⟩
    refine Stg.lex_move 1 (by kernel_rfl) (.slice a5 (xs.length + 1) c5) ?_ ?_
    ·intro w' hw'
     rw [show w' = W1 from hw', show Stg.pick4 W0 W1 W2 W2 (1 + 1) = W2 from rfl]
     clear hw' w'
     exact Stg.upon_append rfl rfl rfl HR.out rfl
    refine Stg.lex_upto 1 4 (by decide) (by kernel_rfl) HU.out ?_
    simp only [List.take_succ_cons, List.take_zero, List.drop_succ_cons, List.drop_zero]
    repeat (first | go_big_quiet_step (fail) | quiet_step (fail))
    refine wpQuiet_nil ?_
    refine Stg.lex_nil ?_
    intro w' hw'
    rw [show w' = W2 from hw']
    clear hw' w'
    clear HU HR HW1
    go_wp2_with fail
    have hlen : (xs ++ [adr dt]).length = xs.length + 1 := by simp
    have hbw := HG5.out.below (B := w.heap.size) HB1.out.size HO.out.new
    refine ⟨⟨k + 1, xs ++ [adr dt], a5, c5, by rw [hlen], by go_num, by omega, by rw [hlen]; omega, ?_, ?_⟩, by simp [intOf]; omega⟩
    ·unfold Hid
     rw [HTK.out]
     simp [addrs, h4]
    ·rw [hlen]
     refine ⟨HB1.out.trans hbw.1, ?_, hbw.2⟩
     have e2 : wV (xs ++ [adr dt]) = wV xs ++ [.int .u32 (adr dt)] := by simp [wV]
     rw [hlen, e2]
     exact HG5.out.own
   ·go_wp2_with fail
    refine ⟨⟨k + 1, xs, a, c, rfl, by go_num, by omega, by omega, ?_, HOa.out⟩, by simp [intOf]; omega⟩
    unfold Hid
    rw [HTK.out]
    simp [addrs, h4]
  ·go_wp2_with fail
   go_ret
   have e : xs = addrs l := by rw [HX.out, List.take_of_length_le (by omega)]
   subst e
   exact ⟨_, _, rfl, HO.out⟩
end Go.Proofs.YtafoepfhepdcoaaGreat
