import Derived.Test.YtafoepfhepdcoaaGreatM45
set_option maxRecDepth 100000
set_option maxHeartbeats 8000000
namespace Go.Proofs.YtafoepfhepdcoaaGreat
open Go.RowKit Go.Trawl
section
variable {B : Nat} {U : Nat → Prop} {ws : Nat} {vps : Value} {hs : List Nat} {vh : Value} {ps : List Pl}
theorem Game.push {y1 y4 : World} {q : Pl} {v' : Value} (h : Game B U y1 ws vps hs vh ps) (hpb : q.pb = y1.heap.size) (hx : PAt y1 q.xb q.sb q.vr q.sx) (hr : RefAt y1 q.rb q.sr q.V q.cs)
  (hxf : ∀ k, q.po k → B ≤ k ∧ ∀ a, ¬ Own ws vps vh U ps a k) (hrf : ∀ k, q.ro k → B ≤ k ∧ ∀ a, ¬ Own ws vps vh U ps a k) (hxr : ∀ k, q.po k → q.ro k → False)
  (g : Grew 105 1 ((y1.alloc (.cells #[ptrV q.xb, ptrV q.rb] 109)).alloc (.cells #[ptrV q.pb] 105)) y4 vps v' (ps.length + 1) ((ps.map fun p => ptrV p.pb) ++ [ptrV q.pb])) :
  Game B U (y4.setCell ⟨ws, 0, none⟩ v') ws v' hs vh (ps ++ [q]) ∧ Below B y1 (y4.setCell ⟨ws, 0, none⟩ v') := by
 have hB := h.st.sz
 have z2 := as_ y1 (.cells #[ptrV q.xb, ptrV q.rb] 109)
 have z3 := as_ (y1.alloc (.cells #[ptrV q.xb, ptrV q.rb] 109)) (.cells #[ptrV q.pb] 105)
 rw [z2] at z3
 have z4 := g.grown.size
 rw [z3] at z4
 have z5 : (y4.setCell ⟨ws, 0, none⟩ v').heap.size = y4.heap.size := by simp [World.setCell]
 have a3 : ∀ k, k < y1.heap.size → ((y1.alloc (.cells #[ptrV q.xb, ptrV q.rb] 109)).alloc (.cells #[ptrV q.pb] 105)).heap[k]? = y1.heap[k]? := fun k hk => by
  rw [Below.heap_alloc _ _ k (by rw [z2]; omega), Below.heap_alloc _ _ k hk]
 have k4 : ∀ k, k < y1.heap.size → vps.ownBlock ≠ some k → y4.heap[k]? = y1.heap[k]? := fun k hk hn => (g.grown.block k (by rw [z3]; omega) (fun e => hn e.symm)).trans (a3 k hk)
 have k5 : ∀ k, k < y1.heap.size → vps.ownBlock ≠ some k → k ≠ ws → (y4.setCell ⟨ws, 0, none⟩ v').heap[k]? = y1.heap[k]? := fun k hk hn hw => (Below.heap_setCell y4 ⟨ws, 0, none⟩ v' k hw).trans (k4 k hk hn)
 have hwl : ws < y1.heap.size := hl_ h.st.world.boxw
 have hvw : vps.ownBlock ≠ some ws := own_type_ne' h.row h.st.world.boxw (by decide)
 have hbw : (y4.setCell ⟨ws, 0, none⟩ v').heap[ws]? = some (.cells #[v', vh] 84) := by
  rw [hs_ ((k4 ws hwl hvw).trans h.st.world.boxw)]
  rfl
 have byT : ∀ (k : Nat) (cs : Array Value) (t : TypeId), y1.heap[k]? = some (.cells cs t) → t ≠ 105 → t ≠ 84 → (y4.setCell ⟨ws, 0, none⟩ v').heap[k]? = some (.cells cs t) := fun k cs t hk n1 n2 => (k5 k (hl_ hk) (own_type_ne' h.row hk (Ne.symm n1)) (type_ne hk h.st.world.boxw n2)).trans hk
 have hst : St B U (y4.setCell ⟨ws, 0, none⟩ v') ws v' hs vh := by
  refine ⟨⟨hbw, own_same h.st.world.row (fun k cs hk => byT k cs _ hk (by decide) (by decide)), h.st.world.rowB, fun x hx => (h.st.world.old x hx).move (fun _ h => h) fun k cs t _ ht hk => ?_⟩, fun k hk => by have := h.st.lt k hk; omega, h.st.lo, by omega⟩
  rcases ht with rfl | rfl | rfl | rfl | rfl <;> exact byT k cs _ hk (by decide) (by decide)
 have nb : (y4.setCell ⟨ws, 0, none⟩ v').heap[q.pb]? = some (.cells #[ptrV q.xb, ptrV q.rb] 109) := by
  rw [hpb, Below.heap_setCell y4 ⟨ws, 0, none⟩ v' _ (show y1.heap.size ≠ ws by omega)]
  have h3 : ((y1.alloc (.cells #[ptrV q.xb, ptrV q.rb] 109)).alloc (.cells #[ptrV q.pb] 105)).heap[y1.heap.size]? = some (.cells #[ptrV q.xb, ptrV q.rb] 109) := heap_old (hn_ y1 _) _
  rw [g.grown.block y1.heap.size (by rw [z3]; omega) (fun e => by have := (h.row.lt _ e.symm).2; omega)]
  exact h3
 have hv' : ∀ k, v'.ownBlock = some k → vps.ownBlock = some k ∨ y1.heap.size ≤ k := fun k hk => by
  rcases g.loc with e | ⟨i, e, hi⟩
  ·exact .inl (by rw [← e]; exact hk)
  ·rw [hk] at e
   cases e
   rw [z3] at hi
   exact .inr (by omega)
 have hget : ∀ (i : Nat) (p : Pl), (ps ++ [q])[i]? = some p → ps[i]? = some p ∨ (i = ps.length ∧ p = q) := fun i p hi => by
  rcases Nat.lt_or_ge i ps.length with hl | hl
  ·rw [List.getElem?_append_left hl] at hi; exact .inl hi
  ·rw [List.getElem?_append_right hl] at hi
   have : i - ps.length = 0 := by
    rcases Nat.eq_zero_or_pos (i - ps.length) with e | e
    ·exact e
    ·rw [List.getElem?_eq_none (by simp; omega)] at hi; cases hi
   rw [this] at hi
   exact .inr ⟨by omega, (Option.some.inj hi).symm⟩
 have hO : ∀ a k, Own ws v' vh U (ps ++ [q]) a k → Own ws vps vh U ps a k ∨ (a = .law ∧ y1.heap.size ≤ k ∧ k < y4.heap.size) ∨ (a = .prog ps.length ∧ q.po k) ∨ (a = .ref ps.length ∧ q.ro k) := by
  intro a k hk
  cases a with
  | law =>
   rcases hk with e | e | e | ⟨p, hp, e⟩ | e
   ·exact .inl (.inl e)
   ·exact .inl (.inr (.inl e))
   ·rcases hv' k e with e1 | e1
    ·exact .inl (.inr (.inr (.inl e1)))
    ·exact .inr (.inl ⟨rfl, e1, (g.own.lt k e).2⟩)
   ·rcases List.mem_append.1 hp with hp | hp
    ·exact .inl (.inr (.inr (.inr (.inl ⟨p, hp, e⟩))))
    ·simp at hp
     subst hp
     exact .inr (.inl ⟨rfl, by omega, by omega⟩)
   ·exact .inl (.inr (.inr (.inr (.inr e))))
  | prog i =>
   obtain ⟨p, hp, hk⟩ := hk
   rcases hget i p hp with e | ⟨e, e'⟩
   ·exact .inl ⟨p, e, hk⟩
   ·subst e e'
    exact .inr (.inr (.inl ⟨rfl, hk⟩))
  | ref i =>
   obtain ⟨p, hp, hk⟩ := hk
   rcases hget i p hp with e | ⟨e, e'⟩
   ·exact .inl ⟨p, e, hk⟩
   ·subst e e'
    exact .inr (.inr (.inr ⟨rfl, hk⟩))
 have keepO : ∀ a k, Own ws vps vh U ps a k → a ≠ .law → (y4.setCell ⟨ws, 0, none⟩ v').heap[k]? = y1.heap[k]? := fun a k hk ha => k5 k (h.lt a k hk) (fun e => ha (h.one a .law k hk (.inr (.inr (.inl e))))) (fun e => ha (h.one a .law k hk (.inl e)))
 have keepN : ∀ k, k < y1.heap.size → (∀ a, ¬ Own ws vps vh U ps a k) → (y4.setCell ⟨ws, 0, none⟩ v').heap[k]? = y1.heap[k]? := fun k hk hn => k5 k hk (fun e => hn .law (.inr (.inr (.inl e)))) (fun e => hn .law (.inl e))
 have xl := hx.lt
 have rl := hr.lt
 refine ⟨⟨hst, ?_, ?_, ?_, ?_, ?_, ?_, ?_⟩, ?_⟩
 ·have hrow := g.own
  have : (y4.setCell ⟨ws, 0, none⟩ v').ownsRow 0 105 1 v' (ps.length + 1) ((ps.map fun p => ptrV p.pb) ++ [ptrV q.pb]) := own_at hrow (fun k hk => Below.heap_setCell y4 ⟨ws, 0, none⟩ v' k (show k ≠ ws from fun e => by
   rcases hv' k hk with e1 | e1
   ·exact hvw (by rw [← e]; exact e1)
   ·omega))
  rw [List.length_append, List.map_append]
  exact this
 ·intro p hp
  rcases List.mem_append.1 hp with hp | hp
  ·exact byT _ _ _ (h.box p hp) (by decide) (by decide)
  ·simp at hp
   subst hp
   exact nb
 ·intro p hp
  rcases List.mem_append.1 hp with hp | hp
  ·obtain ⟨j, hj⟩ := mem_get hp
   exact (h.prog p hp).keep (by omega) (fun k hk => keepO (.prog j) k ⟨p, hj, hk⟩ (by simp))
  ·simp at hp
   subst hp
   exact hx.keep (by omega) (fun k hk => keepN k (xl k hk) (hxf k hk).2)
 ·intro p hp
  rcases List.mem_append.1 hp with hp | hp
  ·obtain ⟨j, hj⟩ := mem_get hp
   exact (h.ref p hp).at (by omega) (fun k hk => keepO (.ref j) k ⟨p, hj, hk⟩ (by simp))
  ·simp at hp
   subst hp
   exact hr.at (by omega) (fun k hk => keepN k (rl k hk) (hrf k hk).2)
 ·intro a k hk
  rcases hO a k hk with e | e | e | e
  ·exact h.lo a k e
  ·omega
  ·exact (hxf k e.2).1
  ·exact (hrf k e.2).1
 ·intro a k hk
  rw [z5]
  rcases hO a k hk with e | e | e | e
  ·have := h.lt a k e; omega
  ·exact e.2.2
  ·have := xl k e.2; omega
  ·have := rl k e.2; omega
 ·intro a b k ha hb
  rcases hO a k ha with e | e | e | e
  ·rcases hO b k hb with e' | e' | e' | e'
   ·exact h.one a b k e e'
   ·have := h.lt a k e; omega
   ·exact absurd e ((hxf k e'.2).2 a)
   ·exact absurd e ((hrf k e'.2).2 a)
  ·rcases hO b k hb with e' | e' | e' | e'
   ·have := h.lt b k e'; omega
   ·rw [e.1, e'.1]
   ·have := xl k e'.2; omega
   ·have := rl k e'.2; omega
  ·rcases hO b k hb with e' | e' | e' | e'
   ·exact absurd e' ((hxf k e.2).2 b)
   ·have := xl k e.2; omega
   ·rw [e.1, e'.1]
   ·exact (hxr k e.2 e'.2).elim
  ·rcases hO b k hb with e' | e' | e' | e'
   ·exact absurd e' ((hrf k e.2).2 b)
   ·have := rl k e.2; omega
   ·exact (hxr k e'.2 e.2).elim
   ·rw [e.1, e'.1]
 ·refine ⟨g.grown.os, g.grown.tape, g.grown.output, by omega, fun k hk => k5 k (by omega) (fun e => by have := h.lo .law k (.inr (.inr (.inl e))); omega) (fun e => by have := h.st.lo; omega)⟩
end
theorem buildH1 (a : Option Addr) (n c : Nat) (W : World) : (Instr.build 121 #[(1, .slice a n c)]).run Tryz.prog W = .ok (.agg #[.slice none 0 0, .slice a n c, .slice none 0 0, .slice none 0 0, .int .i64 0]) W := run_build W _ _ _ (by kernel_rfl)
theorem buildPl (x r : Option Addr) (W : World) : (Instr.build 109 #[(0, .pointer x), (1, .pointer r)]).run Tryz.prog W = .ok (.agg #[.pointer x, .pointer r]) W := run_build W _ _ _ (by kernel_rfl)
attribute [local go_sem] buildH1 buildPl
theorem plI : (Tryz.prog.info? 105).map (fun i => (i.zero, i.size, i.bytes)) = some (some (.pointer none), 1, 8) := by kernel_rfl
theorem uPl : Tryz.prog.underlying 81 = some (.slice 105) := by kernel_rfl
def lentW (rs : List Int) : List Int := rs ++ List.replicate 8 0
theorem lentW_flat (rs : List Int) : (wordsV rs).flatten ++ ((List.replicate (rs.length + 8) [Value.int .u32 0]).flatten).drop ((wordsV rs).length * 1) = (wordsV (lentW rs)).flatten := by
 have := drop_rep_flat [Value.int .u32 0] 8 rs.length
 rw [show (wordsV rs).length = rs.length by simp [wordsV]]
 rw [show [Value.int .u32 0].length = 1 from rfl] at this
 rw [this]
 simp [wordsV, lentW]
theorem liesW {w : World} {g : Nat} {rs : List Int} (h : w.ownsRow 0 54 1 (.slice (some ⟨g, 0, none⟩) (rs.length + 8) (rs.length + 8)) (rs.length + 8) (wordsV (lentW rs)).flatten) : Lies w 1 (.slice (some ⟨g, 0, none⟩) rs.length (rs.length + 8)) (wordsV rs) := by
 have e : (wordsV (lentW rs)).flatten = (wordsV rs).flatten ++ (wordsV (List.replicate 8 0)).flatten := by simp [wordsV, lentW]
 rw [e] at h
 exact own_lies (own_shorter (n := rs.length) (m := 8) h (by rw [flat_length (sz := 1) _ (fun x hx => (words_ok rs x hx).1)]; simp [wordsV])) (fun x hx => (words_ok rs x hx).1) (by simp [wordsV])
theorem words_flat (l : List Int) : (wordsV l).flatten = l.map fun x => Value.int .u32 x := by
 unfold wordsV
 induction l with
 | nil => rfl
 | cons y r ih => rw [List.map_cons, List.flatten_cons, ih]; rfl
theorem wcell {w : World} {g n : Nat} {l : List Int} (h : w.ownsRow 0 54 1 (.slice (some ⟨g, 0, none⟩) n n) n (wordsV l).flatten) {i : Nat} {x : Int} (hi : l[i]? = some x) : w.cell? ⟨g, i, none⟩ = some (.int .u32 x) := by
 have e := words_flat l
 have := h.cells (g := g) rfl i (.int .u32 x) (by rw [e, List.getElem?_map, hi]; rfl)
 have e2 : (⟨g, 0, none⟩ : Addr).add i = ⟨g, i, none⟩ := by
  unfold Addr.add
  by_cases h : i = 0
  ·rw [h]; rfl
  ·rw [if_neg h]; simp
 rw [e2] at this
 exact this
theorem lcell {w : World} {a : Option Addr} {n c : Nat} {l : List Int} (h : Lies w 1 (.slice a n c) (wordsV l)) {i : Nat} {x : Int} (hi : l[i]? = some x) : ∃ b off, a = some ⟨b, off, none⟩ ∧ w.cell? ⟨b, off + i, none⟩ = some (.int .u32 x) := by
 obtain ⟨_, _, hv, _, hc⟩ := h
 rcases hc with he | ⟨b, off, he, _, hc⟩
 ·have h1 := congrArg List.length he
  simp [wordsV] at h1
  rw [h1] at hi
  simp at hi
 ·subst he
  injection hv with hv
  refine ⟨b, off, hv, ?_⟩
  have := hc i [.int .u32 x] (by unfold wordsV; rw [List.getElem?_map, hi]; rfl) 0 _ rfl
  simpa using this
theorem free3 (w : World) (B ws : Nat) (U : Nat → Prop) (vps : Value) (hs : List Nat) (vh : Value) (ps : List Pl) (o : OpV) (hk : o.kind = 3) (hl : hs.length ≤ 99999900) (hg : Game B U w ws vps hs vh ps) (he : Even ps) (ho : OpAt w o) (h4 : ps.length ≤ 4) :
  Calls Tryz.prog 50 #[ptrV ws, .agg o.arr] w fun e w' => e = .returned (.bool true) ∧ Hid (Below B w w' ∧ ∃ U' vps' hs' vh' ps', Game B U' w' ws vps' hs' vh' ps' ∧ Even ps' ∧ ps'.length ≤ 4 ∧ hs'.length ≤ hs.length + 20) := by
 obtain ⟨iq, iq0, iq1, iq2, iq3⟩ := info_parts wI0
 have hr := ho.r
 have hrn := ho.rn
 have HG := hide hg
 have HE := hide he
 obtain ⟨kind, n, m, vq, va, vu, vx, s, frm, b, d, c, t, vr, rs⟩ := o
 dsimp only at hk hr hrn
 subst hk
 have hr' : Lies w 1 vr (wordsV rs) := hr
 obtain ⟨ar, cr, rfl, _⟩ := hr'
 have hlen : (wordsV rs).length = rs.length := by simp [wordsV]
 rw [hlen] at hr
 have hrl : Lies w 1 (.slice ar rs.length cr) (wordsV rs) := hr
 have HR := hide hrl
 rw [hlen]
 clear hg he ho hr hrl
 unfold ptrV
 simp only [OpV.arr]
 have hb1 := (Below.refl w.heap.size w).alloc (Nat.le_refl _) (.cells #[.int .i64 3, .int .i64 n, .int .u16 m.id, .bool m.resp, .int .i64 m.op, .bool m.own, .bool m.cut, .bool m.wanted, .bool m.able, .int .i64 m.code, vq, va, vu, vx, .string s, .int .u32 frm, .int .i64 b, .int .i64 d, .int .i64 c, .int .i64 t, .slice ar rs.length cr] 79)
 have HB1 := hide hb1
 have HX1 := hide (hn_ w (.cells #[.int .i64 3, .int .i64 n, .int .u16 m.id, .bool m.resp, .int .i64 m.op, .bool m.own, .bool m.cut, .bool m.wanted, .bool m.able, .int .i64 m.code, vq, va, vu, vx, .string s, .int .u32 frm, .int .i64 b, .int .i64 d, .int .i64 c, .int .i64 t, .slice ar rs.length cr] 79))
 have hz1 := as_ w (.cells #[.int .i64 3, .int .i64 n, .int .u16 m.id, .bool m.resp, .int .i64 m.op, .bool m.own, .bool m.cut, .bool m.wanted, .bool m.able, .int .i64 m.code, vq, va, vu, vx, .string s, .int .u32 frm, .int .i64 b, .int .i64 d, .int .i64 c, .int .i64 t, .slice ar rs.length cr] 79)
 have HZ1 := hide hz1
 clear hb1 hz1
 go_enter Tryz.func50, Tryz.ntmps50
 go_wp2_with (at_make; refine wpList_make_full _ rfl _ _ 55 rfl 0 54 iq _ 1 uWs iq0 iq1 iq2 _ _ _ _ (rs.length + 8) rfl rfl (by omega) (by omega) (by rw [iq3]; omega) (by unfold maxLen; omega) (Nat.zero_le _) ?_; intro w2 ho2 hg2; have HO2 := hide ho2; have HG2 := hide hg2; have bx2 := (hg2.block w.heap.size (hl_ HX1.out) (by simp)).trans HX1.out; have hcm := bc_ bx2; have BX2 := hide bx2; clear ho2 hg2 bx2)
 have ho2 := HO2.out
 rw [HZ1.out] at ho2
 have hm := made_flat [Value.int .u32 0] (by decide) (rs.length + 8)
 rw [show [Value.int IntKind.u32 0].length = 1 from rfl] at hm
 have e0 : (Value.int IntKind.u32 0).cells = [Value.int IntKind.u32 0].toArray := rfl
 rw [e0, hm] at ho2
 have hb2 : Below w.heap.size w w2 := HB1.out.trans ((below_grownBy HG2.out).mono HB1.out.size)
 have hs2 : w.heap.size + 1 < w2.heap.size := by
  have := ho2.lt (w.heap.size + 1) rfl
  omega
 have hat2 := HR.out.below hb2
 obtain ⟨w3, hrun, ho3, hg3⟩ := copy_lies (P := Tryz.prog) w2 55 55 3 54 iq 1 uWs iq0 iq2 _ _ _ _ ho2 _ _ hat2 (words_ok rs) (by rw [hlen]; omega)
 rw [hrun]
 rw [lentW_flat] at ho3
 have hb3 : Below w.heap.size w w3 := hb2.trans ⟨hg3.os, hg3.tape, hg3.output, hg3.size, fun k hk => hg3.block k (by omega) (by simp; omega)⟩
 have bx3 := (hg3.block w.heap.size (by omega) (by simp)).trans BX2.out
 have hs3 : w.heap.size + 1 < w3.heap.size := Nat.lt_of_lt_of_le hs2 hg3.size
 have BX3 := hide bx3
 have HB3 := hide hb3
 have HO3 := hide ho3
 clear hcm
 have hcm := bc_ bx3
 clear ho3 hg3 hrun ho2 hat2 hm e0 hs2 hb2 HO2 HG2 BX2 bx3 hb3 HB1 HX1 HZ1
 have hw3 : ¬ w.heap.size = w3.heap.size := by omega
 have hw3' : ¬ w3.heap.size = w.heap.size := by omega
 have hq1 : (0 : Int) ≤ (rs.length : Int) := by omega
 have hq2 : ((rs.length : Nat) : Int) ≤ ((rs.length + 8 : Nat) : Int) := by omega
 have hca : ∀ ob, (w3.alloc ob).cell? ⟨w.heap.size, 20, none⟩ = some (.slice ar rs.length cr) := fun ob => (bc_ (heap_old BX3.out ob) 20).trans rfl
 go_wp2_with fail
 clear hca hcm
 have hba := (Below.refl w3.heap.size w3).alloc (Nat.le_refl _) (.cells #[.int .i64 b, .int .i64 d, .int .i64 c, .int .i64 t, .slice (some ⟨w.heap.size + 1, 0, none⟩) rs.length (rs.length + 8)] 57)
 have HB4 := hide (HB3.out.trans (hba.mono HB3.out.size))
 have BX4 := hide ((hba.block _ (by omega)).trans BX3.out)
 have HO4 := hide (own_below HO3.out hba)
 have HL4 : Hid (Lies (w3.alloc (.cells #[.int .i64 b, .int .i64 d, .int .i64 c, .int .i64 t, .slice (some ⟨w.heap.size + 1, 0, none⟩) rs.length (rs.length + 8)] 57)) 1 (.slice (some ⟨w.heap.size + 1, 0, none⟩) rs.length (rs.length + 8)) (wordsV rs)) := liesW HO4.out
 generalize w3.alloc (.cells #[.int .i64 b, .int .i64 d, .int .i64 c, .int .i64 t, .slice (some ⟨w.heap.size + 1, 0, none⟩) rs.length (rs.length + 8)] 57) = W4 at HB4 BX4 HO4 HL4 hba ⊢
 have hs4 : w.heap.size + 1 < W4.heap.size := by have := hba.size; omega
 clear hba HB3 BX3 HO3 hw3 hw3'
 by_cases hcf : confOk b d c t rs
 ·have HCF := hide hcf
  clear hcf
  refine (tNew_yes W4 b d c t rs _ HCF.out HL4.out).mono ?_
  rintro e w5 ⟨xb, rfl, H5⟩
  obtain ⟨sb, vr', hpa, hb5, hpo⟩ := H5.out
  have HB5 := hide (HB4.out.trans (hb5.mono HB4.out.size))
  have BX5 := hide ((hb5.block _ (by omega)).trans BX4.out)
  have HO5 := hide (own_below HO4.out hb5)
  have hs5 : w.heap.size + 1 < w5.heap.size := by have := hb5.size; omega
  have HPA5 := hide hpa
  have HPO : Hid (∀ k, pOwns xb sb vr' k → w.heap.size + 1 < k ∧ k < w5.heap.size) := fun k hk => ⟨by have := hpo k hk; omega, hpa.lt k hk⟩
  clear H5 hpa hb5 hpo HB4 BX4 HO4 HL4
  have hcm := bc_ BX5.out
  go_wp2_with fail
  clear hcm
  refine (rNew_yes w5 b d c t rs (.slice ar rs.length cr) HCF.out (HR.out.below HB5.out)).mono ?_
  rintro e w6 ⟨rb, rfl, H6⟩
  obtain ⟨V, hrf, hb6, hro⟩ := H6.out
  have HB6 := hide (HB5.out.trans (hb6.mono HB5.out.size))
  have BX6 := hide ((hb6.block _ (by omega)).trans BX5.out)
  have HO6 := hide (own_below HO5.out hb6)
  have hs6 : w.heap.size + 1 < w6.heap.size := by have := hb6.size; omega
  have HR6 := hide (HR.out.below HB6.out)
  have HPA6 := hide (HPA5.out.keep hb6.size (fun k hk => hb6.block k (HPO.out k hk).2))
  have HRF6 := hide hrf
  have HRO : Hid (∀ k, V.owns [] rb k → w5.heap.size ≤ k) := hro
  clear H6 hrf hb6 hro HB5 BX5 HO5 HPA5
  go_wp2_with fail
  have HW0 : Hid (∃ n, w6 = w6.drewN n) := ⟨0, rfl⟩
  generalize hvo : Value.agg #[Value.int IntKind.i64 3, Value.int IntKind.i64 n, Value.int IntKind.u16 m.id, Value.bool m.resp, Value.int IntKind.i64 m.op, Value.bool m.own, Value.bool m.cut, Value.bool m.wanted, Value.bool m.able, Value.int IntKind.i64 m.code, vq, va, vu, vx, Value.string s, Value.int IntKind.u32 frm, Value.int IntKind.i64 b, Value.int IntKind.i64 d, Value.int IntKind.i64 c, Value.int IntKind.i64 t, Value.slice ar rs.length cr] = vo
  clear hvo
  go_loopw [18, 19] (fun ok i wr => ∃ k : Nat, ok = .bool true ∧ i = .int .i64 k ∧ k ≤ rs.length + 8 ∧ Hid (∃ n, wr = w6.drewN n)) (fun _ i _ => rs.length + 8 - (intOf i).toNat)
  case atStart => exact ⟨0, rfl, rfl, Nat.zero_le _, HW0.out⟩
  case round =>
   obtain ⟨k, rfl, rfl, hk, HW⟩ := hrel
   have hcw : ∀ p, wr.cell? p = w6.cell? p := by obtain ⟨n, rfl⟩ := HW.out; intro p; rfl
   have hcm6 := bc_ BX6.out
   have hcm : wr.cell? ⟨w.heap.size, 20, none⟩ = some (.slice ar rs.length cr) := (hcw ⟨w.heap.size, 20, none⟩).trans ((hcm6 20).trans rfl)
   clear hcm6
   by_cases hlt : k < rs.length + 8
   ·by_cases hin : k < rs.length
    ·obtain ⟨x, hx⟩ : ∃ x, rs[k]? = some x := ⟨_, List.getElem?_eq_getElem hin⟩
     have c0 := wcell HO6.out (i := k) (x := x) (by unfold lentW; rw [List.getElem?_append_left hin]; exact hx)
     obtain ⟨bv, offv, rfl, d0⟩ := lcell HR6.out hx
     rw [← hcw] at c0 d0
     have hd1 : decide (k < rs.length) = true := by simp; omega
     have hd2 : decide (rs.length ≤ k) = false := by simp; omega
     clear hcw hx
     go_wp2_with fail
     go_quiet (fail)
     go_wp2_with fail
     exact ⟨⟨k + 1, rfl, by go_num, by omega, by obtain ⟨n, hn⟩ := HW.out; exact ⟨n + nq, by rw [hn, World.drewN_drewN]⟩⟩, by simp [intOf]; omega⟩
    ·have c0 := wcell HO6.out (i := k) (x := 0) (by unfold lentW; rw [List.getElem?_append_right (by omega), List.getElem?_replicate, if_pos (by omega)])
     rw [← hcw] at c0
     have hd1 : decide (k < rs.length) = false := by simp; omega
     have hd2 : decide (rs.length ≤ k) = true := by simp; omega
     clear hcw
     go_wp2_with fail
     go_quiet (fail)
     go_wp2_with fail
     exact ⟨⟨k + 1, rfl, by go_num, by omega, by obtain ⟨n, hn⟩ := HW.out; exact ⟨n + nq, by rw [hn, World.drewN_drewN]⟩⟩, by simp [intOf]; omega⟩
   ·clear hcw hcm
    obtain ⟨wa, hwa⟩ : ∃ wa : World, wa = wr := ⟨_, rfl⟩
    have hba : Below w6.heap.size w6 wr := by
     obtain ⟨n, hn⟩ := HW.out
     rw [hn]
     exact below_drewN (Below.refl _ _) n
    clear hwa wa
    have HBA := hide (HB6.out.trans (hba.mono HB6.out.size))
    have HOA := hide (own_below HO6.out hba)
    have hsA : w.heap.size + 1 < wr.heap.size := by have := hba.size; omega
    have HGA := hide (HG.out.below HBA.out)
    have HPAA := hide (HPA6.out.keep hba.size (fun k hk => hba.block k (HPA6.out.lt k hk)))
    have HRFA := hide (HRF6.out.keep hba)
    have HU : Hid (∀ a k, w.heap.size ≤ k → ¬ Own ws vps vh U ps a k) := fun a k hk e => by have := HG.out.lt a k e; omega
    have hsw := HG.out.st.sz
    clear hba HB6 HO6 BX6 HR6 HW HW0 HPA6 HRF6
    go_wp2_with fail
    refine (keepBox wr B ws U vps hs (.slice none 0 0) (newV (w.heap.size + 1) (rs.length + 8)) (.slice none 0 0) (.slice none 0 0) vh 0 (rs.length + 8) 0 0 (by omega) (by omega) (by omega) (by omega) (by omega) HGA.out.st (.inr (.inl ⟨rfl, rfl, rfl⟩)) (own_nilx _ _ _) ⟨_, HOA.out⟩ (own_nilx _ _ _) (own_nilx _ _ _) nf_ (new_free ⟨by omega, fun hu => HU.out .law _ (by omega) (.inr (.inr (.inr (.inr hu))))⟩) nf_ nf_).mono ?_
    rintro e y1 ⟨rfl, U1, hs1, vh1, K1⟩
    have H1 := hide K1
    clear K1
    have hlen1 := H1.out.len
    have HG1 : Hid (Game B U1 y1 ws vps hs1 vh1 ps) := HGA.out.keep H1.out (fun k hk => by
     rcases hk with hk | hk | hk | hk
     ·cases hk
     ·have hk' : w.heap.size + 1 = k := Option.some.inj hk
      subst hk'
      exact ⟨by omega, hsA, fun a => HU.out a _ (by omega)⟩
     ·cases hk
     ·cases hk)
    have kp1 : ∀ k, w.heap.size + 1 < k → k < wr.heap.size → y1.heap[k]? = wr.heap[k]? := fun k h1 h2 => H1.out.block k h2 (fun e => HU.out .law k (by omega) (.inl e)) (fun e => HU.out .law k (by omega) (.inr (.inl e))) (nb_ _) (new_ne (by omega)) (nb_ _) (nb_ _)
    have HPA1 := hide (HPAA.out.keep H1.out.below.size (fun k hk => kp1 k (HPO.out k hk).1 (HPAA.out.lt k hk)))
    have HRF1 := hide (HRFA.out.at H1.out.below.size (fun k hk => kp1 k (by have := HRO.out k hk; omega) (HRFA.out.lt k hk)))
    have hnU : ∀ k, w.heap.size + 1 < k → k < wr.heap.size → ∀ a, ¬ Own ws vps vh1 U1 ps a k := fun k h1 h2 a e => by
     cases a with
     | law =>
      rcases e with e | e | e | e | e
      ·exact HU.out .law k (by omega) (.inl e)
      ·rcases loc_new H1.out.loc k e with e | e
       ·exact HU.out .law k (by omega) (.inr (.inl e))
       ·omega
      ·exact HU.out .law k (by omega) (.inr (.inr (.inl e)))
      ·exact HU.out .law k (by omega) (.inr (.inr (.inr (.inl e))))
      ·rcases H1.out.use k e with e | e | e | e | e | e
       ·exact HU.out .law k (by omega) (.inr (.inr (.inr (.inr e))))
       ·cases e
       ·have : w.heap.size + 1 = k := Option.some.inj e
        omega
       ·cases e
       ·cases e
       ·omega
     | prog j => exact HU.out (.prog j) k (by omega) e
     | ref j => exact HU.out (.ref j) k (by omega) e
    have HNU := hide hnU
    have HB1 := hide ((HBA.out.mono hsw).trans H1.out.below)
    have HXW := hide HPAA.out.lt
    have HRW := hide HRFA.out.lt
    clear kp1 hnU HPAA HRFA HGA HOA HBA H1
    obtain ⟨ap, cp, rfl⟩ := os_ HG1.out.row
    have hcw := bc_ HG1.out.st.world.boxw
    have hfw := fz_ HG1.out.st.world.boxw
    by_cases hl4 : ps.length < 4
    ·have hcw3 : ((y1.alloc (.cells #[ptrV xb, ptrV rb] 109)).alloc (.cells #[ptrV y1.heap.size] 105)).heap[ws]? = some (.cells #[.slice ap ps.length cp, vh1] 84) := heap_old (heap_old HG1.out.st.world.boxw _) _
     have HCW3 := hide hcw3
     have hz2 := as_ y1 (.cells #[ptrV xb, ptrV rb] 109)
     have HRO3 := hide ((HG1.out.row.alloc (.cells #[ptrV xb, ptrV rb] 109)).alloc (.cells #[ptrV y1.heap.size] 105))
     have HCN := hide (cells_new (y1.alloc (.cells #[ptrV xb, ptrV rb] 109)) #[ptrV y1.heap.size] 105)
     rw [hz2] at HCN
     obtain ⟨ip, ip0, ip1, ip2, ip3⟩ := info_parts plI
     clear hcw3 hz2
     unfold ptrV at HCW3 HRO3 HCN
     go_wp2_with (at_builtin; (refine wpList_append_grew _ rfl _ _ 81 rfl 105 ip (.pointer none) 1 8 uPl ip0 ip1 ip2 ip3 rfl (by decide) (.slice ap ps.length cp) _ _ rfl ⟨y1.heap.size + 1, 0, none⟩ 1 1 [ptrV y1.heap.size] rfl rfl (one_p _) HRO3.out HCN.out (by unfold maxLen; omega) (by omega) ?_; intro v4 y4 g4; obtain ⟨a4, c4, rfl⟩ := os_ g4.own; have HG4 := hide g4; have hbx4 := block_other g4 HRO3.out HCW3.out (by decide); clear hcw hfw; have hcw := bc_ hbx4; have hfw := fz_ hbx4; clear g4))
     go_ret
     have P := HG1.out.push (q := ⟨y1.heap.size, xb, sb, vr', newSt b d c t rs, rb, newSt b d c t rs, V, []⟩) rfl HPA1.out HRF1.out (fun k hk => ⟨by have := HPO.out k hk; omega, HNU.out k (HPO.out k hk).1 (HXW.out k hk)⟩) (fun k hk => ⟨by have := HRO.out k hk; omega, HNU.out k (by have := HRO.out k hk; omega) (HRW.out k hk)⟩) (fun k h1 h2 => by have := HPO.out k h1; have := HRO.out k h2; omega) HG4.out
     refine ⟨rfl, HB1.out.trans P.2, U1, _, hs1, vh1, _, P.1, ?_, by simp; omega, by omega⟩
     intro p hp
     rcases List.mem_append.1 hp with hp | hp
     ·exact HE.out p hp
     ·simp at hp
      subst hp
      exact ⟨rfl, new_inv HCF.out⟩
    ·have hd4 : decide ((ps.length : Int) < 4) = false := by simp; omega
     go_wp2_with fail
     go_ret
     exact ⟨rfl, HB1.out, U1, _, hs1, vh1, ps, HG1.out, HE.out, h4, by omega⟩
 ·have HCF := hide hcf
  clear hcf
  refine (tNew_no W4 b d c t rs _ _ HCF.out).mono ?_
  rintro e w5 ⟨rfl, H5⟩
  have HB5 := hide (HB4.out.trans (H5.out.mono HB4.out.size))
  have BX5 := hide ((H5.out.block _ (by omega)).trans BX4.out)
  have HO5 := hide (own_below HO4.out H5.out)
  have hs5 : w.heap.size + 1 < w5.heap.size := by have := H5.out.size; omega
  clear H5 HB4 BX4 HO4 HL4
  have hcm := bc_ BX5.out
  go_wp2_with fail
  clear hcm
  refine (rNew_no w5 b d c t rs ar cr HCF.out).mono ?_
  rintro e w6 ⟨rfl, H6⟩
  have HB6 := hide (HB5.out.trans (H6.mono HB5.out.size))
  have BX6 := hide ((H6.block _ (by omega)).trans BX5.out)
  have HO6 := hide (own_below HO5.out H6)
  have hs6 : w.heap.size + 1 < w6.heap.size := by have := H6.size; omega
  have HR6 := hide (HR.out.below HB6.out)
  clear H6 HB5 BX5 HO5
  go_wp2_with fail
  have HW0 : Hid (∃ n, w6 = w6.drewN n) := ⟨0, rfl⟩
  generalize hvo : Value.agg #[Value.int IntKind.i64 3, Value.int IntKind.i64 n, Value.int IntKind.u16 m.id, Value.bool m.resp, Value.int IntKind.i64 m.op, Value.bool m.own, Value.bool m.cut, Value.bool m.wanted, Value.bool m.able, Value.int IntKind.i64 m.code, vq, va, vu, vx, Value.string s, Value.int IntKind.u32 frm, Value.int IntKind.i64 b, Value.int IntKind.i64 d, Value.int IntKind.i64 c, Value.int IntKind.i64 t, Value.slice ar rs.length cr] = vo
  clear hvo
  go_loopw [18, 19] (fun ok i wr => ∃ k : Nat, ok = .bool true ∧ i = .int .i64 k ∧ k ≤ rs.length + 8 ∧ Hid (∃ n, wr = w6.drewN n)) (fun _ i _ => rs.length + 8 - (intOf i).toNat)
  case atStart => exact ⟨0, rfl, rfl, Nat.zero_le _, HW0.out⟩
  case round =>
   obtain ⟨k, rfl, rfl, hk, HW⟩ := hrel
   have hcw : ∀ p, wr.cell? p = w6.cell? p := by obtain ⟨n, rfl⟩ := HW.out; intro p; rfl
   have hcm6 := bc_ BX6.out
   have hcm : wr.cell? ⟨w.heap.size, 20, none⟩ = some (.slice ar rs.length cr) := (hcw ⟨w.heap.size, 20, none⟩).trans ((hcm6 20).trans rfl)
   clear hcm6
   by_cases hlt : k < rs.length + 8
   ·by_cases hin : k < rs.length
    ·obtain ⟨x, hx⟩ : ∃ x, rs[k]? = some x := ⟨_, List.getElem?_eq_getElem hin⟩
     have c0 := wcell HO6.out (i := k) (x := x) (by unfold lentW; rw [List.getElem?_append_left hin]; exact hx)
     obtain ⟨bv, offv, rfl, d0⟩ := lcell HR6.out hx
     rw [← hcw] at c0 d0
     have hd1 : decide (k < rs.length) = true := by simp; omega
     have hd2 : decide (rs.length ≤ k) = false := by simp; omega
     clear hcw hx
     go_wp2_with fail
     go_quiet (fail)
     go_wp2_with fail
     exact ⟨⟨k + 1, rfl, by go_num, by omega, by obtain ⟨n, hn⟩ := HW.out; exact ⟨n + nq, by rw [hn, World.drewN_drewN]⟩⟩, by simp [intOf]; omega⟩
    ·have c0 := wcell HO6.out (i := k) (x := 0) (by unfold lentW; rw [List.getElem?_append_right (by omega), List.getElem?_replicate, if_pos (by omega)])
     rw [← hcw] at c0
     have hd1 : decide (k < rs.length) = false := by simp; omega
     have hd2 : decide (rs.length ≤ k) = true := by simp; omega
     clear hcw
     go_wp2_with fail
     go_quiet (fail)
     go_wp2_with fail
     exact ⟨⟨k + 1, rfl, by go_num, by omega, by obtain ⟨n, hn⟩ := HW.out; exact ⟨n + nq, by rw [hn, World.drewN_drewN]⟩⟩, by simp [intOf]; omega⟩
   ·clear hcw hcm
    obtain ⟨wa, hwa⟩ : ∃ wa : World, wa = wr := ⟨_, rfl⟩
    have hba : Below w6.heap.size w6 wr := by
     obtain ⟨n, hn⟩ := HW.out
     rw [hn]
     exact below_drewN (Below.refl _ _) n
    clear hwa wa
    have HBA := hide (HB6.out.trans (hba.mono HB6.out.size))
    have HOA := hide (own_below HO6.out hba)
    have hsA : w.heap.size + 1 < wr.heap.size := by have := hba.size; omega
    have HGA := hide (HG.out.below HBA.out)
    have HU : Hid (∀ a k, w.heap.size ≤ k → ¬ Own ws vps vh U ps a k) := fun a k hk e => by have := HG.out.lt a k e; omega
    have hsw := HG.out.st.sz
    clear hba HB6 HO6 BX6 HR6 HW HW0
    go_wp2_with fail
    refine (keepBox wr B ws U vps hs (.slice none 0 0) (newV (w.heap.size + 1) (rs.length + 8)) (.slice none 0 0) (.slice none 0 0) vh 0 (rs.length + 8) 0 0 (by omega) (by omega) (by omega) (by omega) (by omega) HGA.out.st (.inr (.inl ⟨rfl, rfl, rfl⟩)) (own_nilx _ _ _) ⟨_, HOA.out⟩ (own_nilx _ _ _) (own_nilx _ _ _) nf_ (new_free ⟨by omega, fun hu => HU.out .law _ (by omega) (.inr (.inr (.inr (.inr hu))))⟩) nf_ nf_).mono ?_
    rintro e y1 ⟨rfl, U1, hs1, vh1, K1⟩
    have H1 := hide K1
    clear K1
    go_wp2_with fail
    go_ret
    have hlen1 := H1.out.len
    refine ⟨rfl, (HBA.out.mono hsw).trans H1.out.below, U1, vps, hs1, vh1, ps, HGA.out.keep H1.out (fun k hk => ?_), HE.out, h4, by omega⟩
    rcases hk with hk | hk | hk | hk
    ·cases hk
    ·have hk' : w.heap.size + 1 = k := Option.some.inj hk
     subst hk'
     exact ⟨by omega, hsA, fun a => HU.out a _ (by omega)⟩
    ·cases hk
    ·cases hk
end Go.Proofs.YtafoepfhepdcoaaGreat
namespace Go.Proofs.YtafoepfhepdcoaaGreat
open Go.RowKit Go.Trawl
attribute [local go_sem] buildW
theorem step3 (w : World) (B ws : Nat) (U : Nat → Prop) (vps : Value) (hs : List Nat) (vh : Value) (ps : List Pl) (o : OpV) (hk : o.kind = 3) (hl : hs.length ≤ 99999900) (hg : Game B U w ws vps hs vh ps) (he : Even ps) (ho : OpAt w o) (h4 : ps.length ≤ 4) :
  Calls Tryz.prog 28 #[ptrV ws, .agg o.arr] w fun e w' => e = .returned (.bool true) ∧ Hid (Below B w w' ∧ ∃ U' vps' hs' vh' ps', Game B U' w' ws vps' hs' vh' ps' ∧ Even ps' ∧ ps'.length ≤ 4 ∧ hs'.length ≤ hs.length + 20) := by
 obtain ⟨kind, n, m, vq, va, vu, vx, s, frm, b, d, c, t, vr, rs⟩ := o
 dsimp only at hk
 subst hk
 have HST := hide hg
 have HE := hide he
 have HO := hide ho
 clear hg ho he
 unfold ptrV OpV.arr
 dsimp only
 go_enter Tryz.func28, Tryz.ntmps28
 go_wp2_with (refine wpList_load_cells _ rfl 79 _ rfl ⟨w.heap.size, 0, none⟩ rfl (OpV.arr ⟨3, n, m, vq, va, vu, vx, s, frm, b, d, c, t, vr, rs⟩) _ undO rfl oI (cells_new w (OpV.arr ⟨3, n, m, vq, va, vu, vx, s, frm, b, d, c, t, vr, rs⟩) 79) ?_)
 have hbl : Below w.heap.size w (w.alloc (.cells (OpV.arr ⟨3, n, m, vq, va, vu, vx, s, frm, b, d, c, t, vr, rs⟩) 79)) := (Below.refl _ _).alloc (Nat.le_refl _) _
 refine (free3 _ B ws U vps hs vh ps ⟨3, n, m, vq, va, vu, vx, s, frm, b, d, c, t, vr, rs⟩ rfl hl (HST.out.below hbl) HE.out (HO.out.below hbl) h4).mono ?_
 rintro e w2 ⟨rfl, H2⟩
 have HB2 := hide ((hbl.mono HST.out.st.sz).trans H2.out.1)
 have HX := hide H2.out.2
 clear H2 hbl
 go_wp2_with fail
 go_ret
 exact ⟨rfl, HB2.out, HX.out⟩
theorem Game.start (w : World) : Game w.heap.size (fun _ => False) (w.alloc (.cells #[.slice none 0 0, .slice none 0 0] 84)) w.heap.size (.slice none 0 0) [] (.slice none 0 0) [] := by
 have hz := as_ w (.cells #[.slice none 0 0, .slice none 0 0] 84)
 have hO : ∀ a k, Own w.heap.size (.slice none 0 0) (.slice none 0 0) (fun _ => False) [] a k → a = .law ∧ k = w.heap.size := by
  intro a k hk
  cases a with
  | law =>
   rcases hk with e | e | e | ⟨p, hp, _⟩ | e
   ·exact ⟨rfl, e⟩
   ·cases e
   ·cases e
   ·cases hp
   ·exact e.elim
  | prog i => obtain ⟨p, hp, _⟩ := hk; simp at hp
  | ref i => obtain ⟨p, hp, _⟩ := hk; simp at hp
 exact ⟨St.start w, World.ownsRow_nil _ _ _ _, (fun p hp => by cases hp), (fun p hp => by cases hp), (fun p hp => by cases hp), fun a k hk => by rw [(hO a k hk).2]; exact Nat.le_refl _, fun a k hk => by rw [(hO a k hk).2, hz]; omega, fun a b k ha hb => by rw [(hO a k ha).1, (hO b k hb).1]⟩
end Go.Proofs.YtafoepfhepdcoaaGreat
