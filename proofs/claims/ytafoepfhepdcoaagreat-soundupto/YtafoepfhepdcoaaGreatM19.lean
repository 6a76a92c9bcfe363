import Derived.Test.YtafoepfhepdcoaaGreatM18
import Derived.Deep.RegionLaw
import Derived.Test.YtafoepfhepdcoaaGreatM12
set_option maxRecDepth 100000
set_option maxHeartbeats 8000000
namespace Go.Proofs.YtafoepfhepdcoaaGreat
open Go.RowKit Go.Trawl
attribute [local go_sem] mf Stg.upon
theorem stands_goes (w : World) (sb : Nat) (s : QSt) (V : QV) (c : QC) (q : Qn) (x : Rc) (h : QAt w sb s V [c]) (hle : s.reply.an.length ≤ 65535) (hq : s.reply.qs = [q]) (hx : x.data.size ≤ 2097152) (hs : ¬ (s.reply.an.length : Int) = s.c) (ha : aheadB s q x.data = false) :
  Calls Tryz.prog 122 #[.pointer (some ⟨sb, 0, none⟩), .agg #[.string x.name, .int .u16 x.kind, .int .u16 x.cls, .int .u32 x.ttl, .string x.data]] w (QSays w sb V [c] (standsQ s q x)) := by
 obtain ⟨i1, hi1, hy0, hy1, hy2⟩ := info_parts rI0
 have hch : s.ch = [c.ch] := h.chs.symm
 have e : standsQ s q x = startQ { s with reply := { s.reply with an := s.reply.an ++ [x] } } (newQ x.data q.kind) [] := by
  unfold standsQ
  rw [hch]
  refine if_neg ?_
  rintro (h | h)
  ·exact hs h
  ·rw [ha] at h; cases h
 rw [e]
 have hb1 := (Below.refl w.heap.size w).alloc (Nat.le_refl _) (.cells #[.string x.name, .int .u16 x.kind, .int .u16 x.cls, .int .u32 x.ttl, .string x.data] 69)
 have h1 := h.below hb1
 have hc := box_cells h1.box
 simp only [qCells, chPtr] at hc
 have hcc := box_cells h1.chain.1
 simp only [qcCells, chPtr] at hcc
 have HX := hide (heap_new w (.cells #[.string x.name, .int .u16 x.kind, .int .u16 x.cls, .int .u32 x.ttl, .string x.data] 69))
 have H1 := hide h1
 have HLT := hide h.lt
 have HF := hide (Fr.of_below hb1 (V.owns [c] sb))
 have HQ := hide hq
 have hsl := h.slt
 obtain ⟨vR, vq, vK⟩ := V
 obtain ⟨aK, cK, rfl⟩ := own_slice (show w.ownsRow 0 69 5 vK s.reply.an.length ((s.reply.an.map Rc.cells).flatten) from h.kept)
 clear h h1 hb1 hch e hq
 unfold QSays
 go_enter Tryz.func122, Tryz.ntmps122
 go_wp2_with fail
 generalize w.alloc _ = W1 at hc hcc HX H1 HF ⊢
 have hz : ((s.reply.an.length : Int) == s.c) = false := by simp; exact hs
 have HC : Hid (∀ w', Below W1.heap.size W1 w' → w'.cell? ⟨w.heap.size, 4, none⟩ = some (.string x.data) ∧ w'.cell? ⟨sb, 18, none⟩ = some (.slice aK s.reply.an.length cK) ∧ w'.cell? ⟨sb, 2, none⟩ = some (.int .i64 s.c)) := fun w' hb => ⟨(box_cells ((hb.block _ (heap_lt HX.out)).trans HX.out) 4).trans rfl, (box_cells (H1.out.below hb).box 18).trans rfl, (box_cells (H1.out.below hb).box 2).trans rfl⟩
 have HDR : Hid (Below W1.heap.size W1 W1.drew) := below_drewN (Below.refl _ _) 1
 have HA1 : Hid (Calls Tryz.prog 159 #[.pointer (some ⟨sb, 0, none⟩), .string x.data] W1.drew fun e w' => e = .returned (.bool false) ∧ Hid (Below W1.heap.size W1 w') ∧ w'.cell? ⟨w.heap.size, 4, none⟩ = some (.string x.data) ∧ w'.cell? ⟨sb, 18, none⟩ = some (.slice aK s.reply.an.length cK) ∧ w'.cell? ⟨sb, 2, none⟩ = some (.int .i64 s.c)) := by
  refine (q_isAhead W1.drew sb s _ [c] q x.data (H1.out.below HDR.out) HQ.out hx hle).mono ?_
  rintro e w6 ⟨rfl, HB6⟩
  have hb6 := HDR.out.trans (HB6.out.mono HDR.out.size)
  exact ⟨by rw [ha], hb6, HC.out w6 hb6⟩
 obtain ⟨k1, k2, k3⟩ := HC.out W1 (Below.refl _ _)
 clear hc hcc
 go_region_held3 (fun w' => w'.cell? ⟨w.heap.size, 4, none⟩ = some (.string x.data) ∧ w'.cell? ⟨sb, 18, none⟩ = some (.slice aK s.reply.an.length cK) ∧ w'.cell? ⟨sb, 2, none⟩ = some (.int .i64 s.c)) (first | (go_keep; done) | exact hs5) (first | (go_at_call 159; refine HA1.out.mono ?_; rintro e w5 ⟨rfl, HB5, hs5⟩))
 clear hs5 k1 k2 k3 HA1 HC HDR
 have H2 := hide (H1.out.below HB5.out)
 have HF2 := hide (HF.out.trans (Fr.of_below HB5.out _))
 have HX2 := hide ((HB5.out.block _ (heap_lt HX.out)).trans HX.out)
 clear H1 HF HX HB5
 obtain ⟨W0, hW0⟩ : ∃ x : World, x = w5.drew := ⟨_, rfl⟩
 obtain ⟨Wa, hWa⟩ : ∃ y : World, y = W0.alloc (.cells x.cells.toArray 69) := ⟨_, rfl⟩
 have hb0 : Below w5.heap.size w5 W0 := by rw [hW0]; exact below_drewN (Below.refl _ _) 1
 have hba : Below w5.heap.size w5 Wa := by
  rw [hWa, hW0]
  exact (below_drewN (Below.refl _ _) 1).alloc (Nat.le_refl _) _
 have ha1 := H2.out.below hba
 obtain ⟨v6, Wb, hrun, g6⟩ := append_grew (P := Tryz.prog) Wa 28 28 69 i1 _ 5 40 uRs hi1 hy0 hy1 hy2 rfl (by decide) _ s.reply.an.length _ ha1.kept ⟨W0.heap.size, 0, none⟩ 1 1 x.cells rfl (by rw [hWa]; exact cells_new W0 x.cells.toArray _) (one_rc x) (by unfold maxLen; omega) (by omega)
 obtain ⟨a6, c6, rfl⟩ := own_slice g6.own
 have HP := hide (ha1.pushK g6 [x] (by simp) (by simp))
 have hz5 : w.heap.size < w5.heap.size := heap_lt HX2.out
 have nK : (Value.slice aK s.reply.an.length cK).ownBlock ≠ some w.heap.size := fun e => by have := HLT.out _ (.inl (.inr (.inl e))); omega
 have hbox0 := (hb0.block sb (heap_lt H2.out.box)).trans H2.out.box
 have hboxa := ha1.box
 have hboxb := (g6.keeps (heap_lt ha1.box) (own_type_ne ha1.kept ha1.box (by decide))).1.trans ha1.box
 have hx0 := (hb0.block _ (heap_lt HX2.out)).trans HX2.out
 have hxa := (hba.block _ (heap_lt HX2.out)).trans HX2.out
 have hxb := (g6.grown.block _ (heap_lt hxa) (fun e => nK e.symm)).trans hxa
 have HK0 : Hid (W0.cell? ⟨sb, 18, none⟩ = some (.slice aK s.reply.an.length cK)) := (box_cells hbox0 18).trans rfl
 have HKa : Hid (Wa.cell? ⟨sb, 18, none⟩ = some (.slice aK s.reply.an.length cK)) := (box_cells hboxa 18).trans rfl
 have HX0 := hide hx0
 have HXB := hide hxb
 obtain ⟨Wc, hWc⟩ : ∃ y : World, y = Wb.setCell ⟨sb, 18, none⟩ (.slice a6 (s.reply.an.length + 1) c6) := ⟨_, rfl⟩
 have hXC : Wc.heap[w.heap.size]? = some (.cells #[.string x.name, .int .u16 x.kind, .int .u16 x.cls, .int .u32 x.ttl, .string x.data] 69) := by
  rw [hWc]
  exact (Below.heap_setCell Wb ⟨sb, 18, none⟩ _ _ (show w.heap.size ≠ sb by omega)).trans hxb
 have HXC := hide hXC
 have HR := hide hrun
 have HWA := hide hWa
 have HWC := hide hWc
 have hcb := box_cells hboxb
 have hfb := frozen_of_block hboxb
 simp only [qCells] at hcb
 have HCB := hide hcb
 have HFB := hide hfb
 have HBA := hide hba
 clear hb0 hba ha1 hrun g6 hbox0 hboxa hboxb hx0 hxa hxb hWa hWc hcb hfb hXC nK
 go_wp2_with fail
 refine Stg.wp_region_stage [8, 9, 14] (fun j w' => w' = Stg.pick4 W0 Wa Wb Wc j) (by kernel_rfl) (by kernel_rfl) hW0.symm ?_
 clear hW0
 iterate 2 refine lex_at (by kernel_rfl) (.pointer (some ⟨sb, 0, none⟩)) (fun _ w' _ => by go_simp) ?_
 refine lex_at (by kernel_rfl) (.pointer (some ⟨sb, 0, none⟩)) (fun _ w' _ => by go_simp) ?_
 refine lex_at (by kernel_rfl) (.pointer (some ⟨sb, 6, none⟩)) (fun _ w' _ => by go_simp) ?_
 refine lex_at (by kernel_rfl) (.pointer (some ⟨sb, 9, none⟩)) (fun _ w' _ => by go_simp) ?_
 refine lex_at (by kernel_rfl) (.pointer (some ⟨sb, 18, none⟩)) (fun _ w' _ => by go_simp) ?_
 refine lex_le 1 (by kernel_rfl) (.slice aK s.reply.an.length cK) (fun j w' hj hw' => ?_) ?_
 ·have hk : w'.cell? ⟨sb, 18, none⟩ = some (.slice aK s.reply.an.length cK) := by
   rcases (show j = 0 ∨ j = 1 by omega) with rfl | rfl
   ·rw [show w' = W0 from hw']; exact HK0.out
   ·rw [show w' = Wa from hw']; exact HKa.out
  clear hw'
  go_simp
 refine lex_le 0 (by kernel_rfl) (.agg #[.string x.name, .int .u16 x.kind, .int .u16 x.cls, .int .u32 x.ttl, .string x.data]) (fun j w' hj hw' => ?_) ?_
 ·have hj0 : j = 0 := by omega
  subst hj0
  rw [show w' = W0 from hw']
  have hk := box_cells HX0.out
  clear hw'
  go_simp
 refine Stg.lex_move 0 (by kernel_rfl) (.slice (some ⟨W0.heap.size, 0, none⟩) 1 1) ?_ ?_
 ·intro w' hw'
  rw [show w' = W0 from hw', show Stg.pick4 W0 Wa Wb Wc (0 + 1) = Wa from rfl]
  clear hw' w'
  go_simp
  exact HWA.out.symm
 simp only [Act.put, List.setIfInBounds_toArray, List.set_cons_zero, List.set_cons_succ]
 refine Stg.lex_move 1 (by kernel_rfl) (.slice a6 (s.reply.an.length + 1) c6) ?_ ?_
 ·intro w' hw'
  rw [show w' = Wa from hw', show Stg.pick4 W0 Wa Wb Wc (1 + 1) = Wb from rfl]
  clear hw' w'
  exact Stg.upon_append rfl rfl rfl HR.out rfl
 refine lex_at (by kernel_rfl) (.pointer (some ⟨sb, 0, none⟩)) (fun _ w' _ => by go_simp) ?_
 refine lex_at (by kernel_rfl) (.pointer (some ⟨sb, 6, none⟩)) (fun _ w' _ => by go_simp) ?_
 refine lex_at (by kernel_rfl) (.pointer (some ⟨sb, 9, none⟩)) (fun _ w' _ => by go_simp) ?_
 refine lex_at (by kernel_rfl) (.pointer (some ⟨sb, 18, none⟩)) (fun _ w' _ => by go_simp) ?_
 refine Stg.lex_move 2 (by kernel_rfl) undef ?_ ?_
 ·intro w' hw'
  rw [show w' = Wb from hw', show Stg.pick4 W0 Wa Wb Wc (2 + 1) = Wc from rfl]
  clear hw' w'
  have hcb := HCB.out
  have hfb := HFB.out
  go_simp
  exact HWC.out.symm
 refine Stg.lex_nil ?_
 intro w' hw'
 rw [show w' = Wc from hw']
 clear hw' w' HK0 HKa HX0 HXB HR HWA HCB HFB
 dsimp only [Act.put]
 simp only [List.setIfInBounds_toArray, List.set_cons_zero, List.set_cons_succ]
 have H3 := hide HP.out.1
 have HF3 := hide ((HF2.out.trans (Fr.of_below HBA.out _)).trans HP.out.2)
 rw [← HWC.out] at H3 HF3
 clear HP HWC HBA H2 HF2 HX2
 have hcx := box_cells HXC.out
 go_wp2_with fail
 refine (q_lookUp Wc sb _ _ [c] x.data q H3.out HQ.out).mono ?_
 rintro e w7 ⟨rfl, H7⟩
 clear hcx
 go_wp2_with fail
 go_end0
 obtain ⟨cs', h7, f7⟩ := H7.out
 exact ⟨rfl, _, cs', h7, HF3.out.trans f7⟩
end Go.Proofs.YtafoepfhepdcoaaGreat
namespace Go.Proofs.YtafoepfhepdcoaaGreat
open Go.RowKit Go.Trawl
def glueQ (ex : List Rc) (d : ByteArray) : List Int := addrs (ex.filter (kindB d 1))
def enterStep (ex : List Rc) (acc : List ByteArray × List Int) (r : Rc) : List ByteArray × List Int := if acc.1.any (fun n => sameB n r.data) then acc else (acc.1 ++ [r.data], acc.2 ++ glueQ ex r.data)
def enterL (ex l : List Rc) : List ByteArray × List Int := l.foldl (enterStep ex) ([], [])
def enterC (c : Ch) (zone : ByteArray) (au ex : List Rc) : Ch := { c with zone := zone, sent := 0, servers := (enterL ex (au.filter (kindB zone 2))).2, names := (enterL ex (au.filter (kindB zone 2))).1 }
theorem enterL_snoc {ex l : List Rc} {k : Nat} {r : Rc} (h : l[k]? = some r) : enterL ex (l.take (k + 1)) = enterStep ex (enterL ex (l.take k)) r := by
 unfold enterL
 rw [take_snoc l k r h, List.foldl_append]
 rfl
def enCells (c : QC) (r : List QC) (zone : ByteArray) (vn vs : Value) : Array Value := #[chPtr r, .int .i64 r.length, .string c.ch.name, .int .u16 c.ch.kind, .string zone, vn, vs, .int .i64 0]
structure EL (w wr : World) (c : QC) (r : List QC) (zone : ByteArray) (ns : List ByteArray) (sv : List Int) (vn vs : Value) : Prop where
 fr : w.grownBy wr (some c.blk)
 box : wr.heap[c.blk]? = some (.cells (enCells c r zone vn vs) 192)
 on : wr.ownsRow 0 9 1 vn ns.length (strV ns)
 os : wr.ownsRow 0 54 1 vs sv.length (wV sv)
 nn : ∀ k, vn.ownBlock = some k → w.heap.size ≤ k
 ns : ∀ k, vs.ownBlock = some k → w.heap.size ≤ k
section
variable {w wr w' : World} {c : QC} {r : List QC} {zone : ByteArray} {ns : List ByteArray} {sv : List Int} {vn vs : Value}
theorem EL.below (h : EL w wr c r zone ns sv vn vs) (hb : Below wr.heap.size wr w') : EL w w' c r zone ns sv vn vs :=
 ⟨grownBy_trans h.fr (grown_below hb), (hb.block _ (heap_lt h.box)).trans h.box, own_below h.on hb, own_below h.os hb, h.nn, h.ns⟩
theorem EL.keeps (h : EL w wr c r zone ns sv vn vs) {k : Nat} {o : Obj} (hx : w.heap[k]? = some o) (hk : k ≠ c.blk) : wr.heap[k]? = some o := (h.fr.block k (heap_lt hx) (fun e => hk (Option.some.inj e))).trans hx
theorem EL.lies (h : EL w wr c r zone ns sv vn vs) {sz : Nat} {v : Value} {es : List (List Value)} (hv : Lies w sz v es) (hk : ∀ k, v.ownBlock = some k → k ≠ c.blk) : Lies wr sz v es := hv.keep h.fr.size (fun b hb hlt => h.fr.block b hlt (fun e => hk b hb (Option.some.inj e)))
theorem EL.pushN (h : EL w wr c r zone ns sv vn vs) (hbl : c.blk < w.heap.size) {vn' : Value} {n : Nat} {xs : List Value} {d : ByteArray} (g : Grew 9 1 wr w' vn vn' n xs) (hn : n = (ns ++ [d]).length) (hx : xs = strV (ns ++ [d])) : EL w (w'.setCell ⟨c.blk, 5, none⟩ vn') c r zone (ns ++ [d]) sv vn' vs := by
 have hsz := h.fr.size
 have nb : vn.ownBlock ≠ some c.blk := fun e => by have := h.nn _ e; omega
 have hbox := (g.keeps (by omega) nb).1.trans h.box
 have nv : ∀ k, vn'.ownBlock = some k → w.heap.size ≤ k := fun k e => by
  rcases loc_new g.loc k e with e | e
  ·exact h.nn k e
  ·omega
 have gs := grownBy_setCell w' c.blk 5 vn'
 have hos := own_same_at h.os (w' := w') (fun k hk => g.grown.block k (h.os.lt k hk).2 (fun e => rows_far h.on h.os (by decide) e.symm hk))
 have own' := g.own
 rw [hn, hx] at own'
 refine ⟨⟨gs.os.trans (g.grown.os.trans h.fr.os), gs.tape.trans (g.grown.tape.trans h.fr.tape), gs.output.trans (g.grown.output.trans h.fr.output), Nat.le_trans hsz (Nat.le_trans g.grown.size gs.size), fun k hk hne => ?_⟩, by rw [heap_setCell_eq hbox]; rfl, own_grown own' gs (fun e => by have := nv _ e; omega), own_grown hos gs (fun e => by have := h.ns _ e; omega), nv, h.ns⟩
 rw [gs.block k (by have := g.grown.size; omega) hne, g.grown.block k (by omega) (fun e => by have := h.nn k e.symm; omega)]
 exact h.fr.block k hk hne
theorem EL.pushS (h : EL w wr c r zone ns sv vn vs) (hbl : c.blk < w.heap.size) {vs' : Value} {n : Nat} {xs : List Value} {ys : List Int} (g : Grew 54 1 wr w' vs vs' n xs) (hn : n = (sv ++ ys).length) (hx : xs = wV (sv ++ ys)) : EL w (w'.setCell ⟨c.blk, 6, none⟩ vs') c r zone ns (sv ++ ys) vn vs' := by
 have hsz := h.fr.size
 have nb : vs.ownBlock ≠ some c.blk := fun e => by have := h.ns _ e; omega
 have hbox := (g.keeps (by omega) nb).1.trans h.box
 have nv : ∀ k, vs'.ownBlock = some k → w.heap.size ≤ k := fun k e => by
  rcases loc_new g.loc k e with e | e
  ·exact h.ns k e
  ·omega
 have gs := grownBy_setCell w' c.blk 6 vs'
 have hon := own_same_at h.on (w' := w') (fun k hk => g.grown.block k (h.on.lt k hk).2 (fun e => rows_far h.on h.os (by decide) hk e.symm))
 have own' := g.own
 rw [hn, hx] at own'
 refine ⟨⟨gs.os.trans (g.grown.os.trans h.fr.os), gs.tape.trans (g.grown.tape.trans h.fr.tape), gs.output.trans (g.grown.output.trans h.fr.output), Nat.le_trans hsz (Nat.le_trans g.grown.size gs.size), fun k hk hne => ?_⟩, by rw [heap_setCell_eq hbox]; rfl, own_grown hon gs (fun e => by have := h.nn _ e; omega), own_grown own' gs (fun e => by have := nv _ e; omega), h.nn, nv⟩
 rw [gs.block k (by have := g.grown.size; omega) hne, g.grown.block k (by omega) (fun e => by have := h.ns k e.symm; omega)]
 exact h.fr.block k hk hne
end
theorem textsV_flat (l : List ByteArray) : (textsV l).flatten = strV l := by
 induction l with
 | nil => rfl
 | cons x l ih => simp [textsV, strV] at ih ⊢; exact ih
theorem texts_lies {w : World} {v : Value} {l : List ByteArray} (h : w.ownsRow 0 9 1 v l.length (strV l)) : Lies w 1 v (textsV l) := own_lies (by rw [← textsV_flat] at h; exact h) (fun x hx => by
  obtain ⟨y, _, rfl⟩ := List.mem_map.1 hx
  rfl) (by simp [textsV])
theorem words_lies {w : World} {v : Value} {l : List Int} (h : w.ownsRow 0 54 1 v l.length (wV l)) : Lies w 1 v (wordsV l) := own_lies (by rw [← words_flatQ] at h; exact h) (fun x hx => by
  obtain ⟨y, _, rfl⟩ := List.mem_map.1 hx
  rfl) (by simp [wordsV])
def glueL (m : Msg) (zone name : ByteArray) : List Int := addrs (m.ex.filter (ofB zone name 1))
def downStep (m : Msg) (zone : ByteArray) (acc : List ByteArray × List Int) (r : Rc) : List ByteArray × List Int := if acc.1.any (fun n => sameB n r.data) then acc else (acc.1 ++ [r.data], acc.2 ++ glueL m zone r.data)
def downL (m : Msg) (zone : ByteArray) (l : List Rc) : List ByteArray × List Int := l.foldl (downStep m zone) ([], [])
def downC (m : Msg) (c : Ch) (zone : ByteArray) : Ch := { c with zone := zone, sent := 0, servers := (downL m c.zone (m.au.filter (ofB c.zone zone 2))).2, names := (downL m c.zone (m.au.filter (ofB c.zone zone 2))).1 }
def downP (st : RSt) (r : List Ch) (c : Ch) (zone : ByteArray) (m : Msg) : RSt × Value :=
 if (downC m c zone).servers = [] then lookP { st with l := r ++ [downC m c zone] } (downC m c zone :: r.reverse) else sendP { st with l := r ++ [downC m c zone] } r (downC m c zone)
def leads (c : Ch) (r : Rc) : Bool := liesB r.name c.zone && !sameB r.name c.zone && liesB c.name r.name && decide (r.kind = 2) && decide (r.cls = 1)
def nextP (st : RSt) (r : List Ch) : RSt × Value := lookP st r.reverse
def foundP (st : RSt) (l : List Rc) (code : Int) : RSt × Value := ({ st with busy := false }, stepV 2 0 (str (replyL (doneM st code l))))
def followsP (st : RSt) (r : List Ch) (c : Ch) (m : Msg) : RSt × Value :=
 if m.code ≠ 0 ∧ m.code ≠ 3 then sendP st r c
 else
  let l := m.an.filter (ofB c.zone c.name c.kind)
  if l ≠ [] then
   match r.reverse with
   | [] => foundP st l 0
   | p :: ps => if addrs l = [] then nextP st r else sendP { st with l := ps.reverse ++ [{ p with servers := addrs l }] } ps.reverse { p with servers := addrs l }
  else
   match m.an.filter (ofB c.zone c.name 5) with
   | x :: _ => if r = [] then standsP st x ((st.asked.qs.map Qn.kind).headD 0) else nextP st r
   | [] =>
    if m.code = 3 then (if r = [] then foundP st [] 3 else nextP st r)
    else match m.au.find? (leads c) with
     | some x => downP st r c x.name m
     | none => if m.own then (if r = [] then foundP st [] 0 else nextP st r) else sendP st r c
def lookQ (s : QSt) (q : Qn) (m : Msg) : QSt :=
 match s.ch with
 | [] => s
 | c :: r =>
  if m.code ≠ 0 ∧ m.code ≠ 3 then s
  else if (m.an.filter (credB c.zone)).filter (kindB c.name c.kind) ≠ [] then endQ s 0 ((m.an.filter (credB c.zone)).filter (kindB c.name c.kind))
  else match (m.an.filter (credB c.zone)).filter (kindB c.name 5) with
   | x :: _ => standsQ s q x
   | [] =>
    if m.code = 3 then endQ s 3 []
    else match (m.au.filter (credB c.zone)).find? (belowB c) with
     | some x => { s with ph := .seek, ch := enterC c x.name (m.au.filter (credB c.zone)) (m.ex.filter (credB c.zone)) :: r }
     | none => if m.own then endQ s 0 [] else s
theorem filter_of (l : List Rc) (z n : ByteArray) (k : Int) : (l.filter (credB z)).filter (kindB n k) = l.filter (ofB z n k) := by
 rw [List.filter_filter]
 congr 1
 funext r
 unfold credB kindB ofB
 cases liesB r.name z <;> cases sameB r.name n <;> cases decide (r.kind = k) <;> cases decide (r.cls = 1) <;> rfl
theorem find_leads (l : List Rc) (c : Ch) : (l.filter (credB c.zone)).find? (belowB c) = l.find? (leads c) := by
 rw [List.find?_filter]
 congr 1
 funext r
 unfold credB belowB leads
 cases liesB r.name c.zone <;> cases sameB r.name c.zone <;> cases liesB c.name r.name <;> cases decide (r.kind = 2) <;> cases decide (r.cls = 1) <;> rfl
theorem enter_down (m : Msg) (z : ByteArray) (l : List Rc) : enterL (m.ex.filter (credB z)) l = downL m z l := by
 unfold enterL downL
 congr 1
 funext acc r
 unfold enterStep downStep glueQ glueL
 rw [filter_of]
theorem sameB_comm (a b : ByteArray) : sameB a b = sameB b a := by
 by_cases h : a.size = b.size
 ·unfold sameB
  rw [decide_eq_true h, decide_eq_true h.symm, h]
  congr 1
  exact List.all_congr rfl (fun i => by rw [Bool.beq_comm])
 ·rw [sameB_size h, sameB_size (fun e => h e.symm)]
theorem Chs.leads {p c : Ch} (h : ChRel p c) (r : Rc) : Go.Proofs.YtafoepfhepdcoaaGreat.leads p r = Go.Proofs.YtafoepfhepdcoaaGreat.leads c r := by
 unfold Go.Proofs.YtafoepfhepdcoaaGreat.leads
 rw [h.zone, h.name]
section
variable {s : QSt} {st : RSt}
theorem nexts {c p : Ch} {r : List Ch} (h : Core s st (c :: p :: r)) (hp : s.ph = .send) (hok : QOk s) (hbz : st.busy = true) (hsn : ∃ q, st.asked.qs = [q] ∧ st.seen = q.name :: st.kept.map Rc.data) (hkp : (st.kept.length : Int) ≤ st.c) (code : Int) (hc : -9223372036854775808 ≤ code ∧ code ≤ 9223372036854775807) (l : List Rc) (hl : l.length ≤ 65535) (hw : ∀ x ∈ l, WfR x) (ha : addrs l = []) : Runs (endQ s code l) (lookP st (p :: r)) := by
 obtain ⟨pc, ps, ech, hpc, hps⟩ := h.chs.snoc
 obtain ⟨pa, ps', e2, hpa, hps'⟩ := hps.snoc
 subst e2
 have e3 : endQ s code l = { s with ph := .seek, ch := { pa with servers := [] } :: ps' } := by
  unfold endQ
  rw [ech, ha]
 have hok2 := endQ_ok hok (by rw [hp]; simp) code hc l hl hw (hok.an (by rw [hp]; simp))
 rw [e3] at hok2 ⊢
 have hp0 := h.wait p (by simp)
 exact seeks st hbz hsn hkp (p :: r) _ ⟨h.b, h.d, h.c, h.t, h.roots, h.id, h.sent, h.reply, ⟨⟨hpa.name, hpa.kind, hpa.zone, by show ([] : List Int) = p.servers; rw [hp0], hpa.sent, hpa.names⟩, hps'⟩, fun x hx => h.wait x (by simp at hx; simp [hx])⟩ rfl hok2 (fun x hx => h.wait x (by simpa using hx))
theorem ends {c : Ch} (h : Core s st [c]) (code : Int) (l : List Rc) : Runs (endQ s code l) (foundP st l code) := by
 obtain ⟨pc, ps, ech, hpc, hps⟩ := h.chs.snoc
 have : ps = [] := by
  cases ps with
  | nil => rfl
  | cons a b => exact hps.elim
 subst this
 have e : endQ s code l = settleQ s code l := by unfold endQ; rw [ech]
 rw [e]
 exact settled h code l
theorem seek_sends {c : Ch} {r : List Ch} (h : Core s st (c :: r)) (hp : s.ph = .seek) (hok : QOk s) (hbz : st.busy = true) (hne : c.servers ≠ []) (hsn : ∃ q, st.asked.qs = [q] ∧ st.seen = q.name :: st.kept.map Rc.data) (hkp : (st.kept.length : Int) ≤ st.c) : Runs s (sendP st r.reverse c) := by
 obtain ⟨pc, ps, ech, hpc, hps⟩ := h.chs.snoc
 have hs : pc.servers ≠ [] := by rw [hpc.servers]; exact hne
 have e : stepQ s = ({ s with ph := .send, ch := { pc with names := [] } :: ps }, noOut) := by
  unfold stepQ seekQ
  rw [hp, ech]
  simp [hs]
 have hok2 := stepQ_ok hok (by rw [hp]; simp)
 refine Runs.step (by rw [e]; rfl) ?_
 rw [e] at hok2 ⊢
 exact sends (c := c) (r := r) ⟨h.b, h.d, h.c, h.t, h.roots, h.id, h.sent, h.reply, ⟨⟨hpc.name, hpc.kind, hpc.zone, hpc.servers, hpc.sent, fun e => absurd e hne⟩, hps⟩, h.wait⟩ rfl hok2 hbz hne hsn hkp
end
end Go.Proofs.YtafoepfhepdcoaaGreat
