import Derived.Test.YtafoepfhepdcoaaGreatM20
import Derived.Deep.RegionWith
set_option maxRecDepth 100000
set_option maxHeartbeats 8000000
namespace Go.Proofs.YtafoepfhepdcoaaGreat
open Go.RowKit Go.Trawl
attribute [local go_sem] mf
theorem cap_of_own {w : World} {e : TypeId} {sz : Nat} {v : Value} {n : Nat} {x : List Value} (h : w.ownsRow 0 e sz v n x) : capOk v := by
 intro a m c ev
 rcases h.2 with ⟨rfl, _⟩ | ⟨g, cap, cur, rfl, _, _, h6, _⟩
 ·cases ev; exact Nat.le_refl _
 ·cases ev; exact h6
theorem QAt.entered {w w' : World} {sb : Nat} {s : QSt} {V : QV} {c : QC} {r : List QC} {zone : ByteArray} {ns : List ByteArray} {sv : List Int} {vn vs : Value} (h : QAt w sb s V (c :: r)) (E : EL w w' c r zone ns sv vn vs) :
  QAt w' sb { s with ch := { c.ch with zone := zone, servers := sv, sent := 0, names := ns } :: r.map QC.ch } V (⟨{ c.ch with zone := zone, servers := sv, sent := 0, names := ns }, c.blk, vs, vn⟩ :: r) ∧ Fr w w' (V.owns (c :: r) sb) (V.owns (⟨{ c.ch with zone := zone, servers := sv, sent := 0, names := ns }, c.blk, vs, vn⟩ :: r) sb) := by
 have hw := E.fr
 have hs := hw.size
 have keep : ∀ k, k < w.heap.size → k ≠ c.blk → w'.heap[k]? = w.heap[k]? := fun k h1 h2 => hw.block k h1 (fun e => h2 (Option.some.inj e))
 have hcw : V.writes (c :: r) sb c.blk := .inr (.inr ⟨c, by simp, rfl⟩)
 have nsb := h.chain.nsb h.box
 have hwr : ∀ k, V.writes (⟨{ c.ch with zone := zone, servers := sv, sent := 0, names := ns }, c.blk, vs, vn⟩ :: r) sb k ↔ V.writes (c :: r) sb k := fun k => by
  unfold QV.writes
  simp
 have hrd : ∀ v ∈ V.reads (⟨{ c.ch with zone := zone, servers := sv, sent := 0, names := ns }, c.blk, vs, vn⟩ :: r), ∀ k, v.ownBlock = some k → (k < w.heap.size ∧ ¬ V.writes (c :: r) sb k ∧ v ∈ V.reads (c :: r)) ∨ (w.heap.size ≤ k ∧ k < w'.heap.size) := by
  intro v hv k e
  have old : v ∈ V.reads (c :: r) → (k < w.heap.size ∧ ¬ V.writes (c :: r) sb k ∧ v ∈ V.reads (c :: r)) ∨ (w.heap.size ≤ k ∧ k < w'.heap.size) := fun hm => .inl ⟨h.lt k (.inr ⟨v, hm, e⟩), h.free v hm k e, hm⟩
  rcases mem_reads.1 hv with e1 | e1 | ⟨x, hx, e1⟩
  ·exact old (mem_reads.2 (.inl e1))
  ·exact old (mem_reads.2 (.inr (.inl e1)))
  ·rcases List.mem_cons.1 hx with rfl | hx
   ·rcases e1 with rfl | rfl
    ·exact .inr ⟨E.ns k e, (E.os.lt k e).2⟩
    ·exact .inr ⟨E.nn k e, (E.on.lt k e).2⟩
   ·exact old (mem_reads.2 (.inr (.inr ⟨x, by simp [hx], e1⟩)))
 have hrk : ∀ v ∈ V.reads (c :: r), ∀ k, v.ownBlock = some k → w'.heap[k]? = w.heap[k]? := fun v hv k e => keep k (h.lt k (.inr ⟨v, hv, e⟩)) (fun e2 => h.free v hv k e (by rw [e2]; exact hcw))
 have hwl : ∀ k, V.writes (c :: r) sb k → k < w.heap.size := fun k e => h.lt k (.inl e)
 have hnd := h.nod
 simp only [List.map_cons, List.nodup_cons, List.mem_map, not_exists, not_and] at hnd
 refine ⟨⟨?_, rfl, h.roots.keep hs (fun b hb _ => hrk _ (mem_reads.2 (.inl rfl)) b hb), h.qs.keep hs (fun b hb _ => hrk _ (mem_reads.2 (.inr (.inl rfl))) b hb), own_same_at h.kept (fun k e => keep k (h.lt k (.inl (.inr (.inl e)))) (fun e2 => own_type_ne h.kept h.chain.1 (by decide) (by rw [← e2]; exact e))), ⟨E.box, words_lies E.os, texts_lies E.on, cap_of_own E.on, ?_⟩, h.nod, fun v hv k e hwk => ?_, fun k e => ?_⟩, ⟨hw.os, hw.tape, hw.output, hs, fun k hk hn => keep k hk (fun e => hn (.inl (by rw [e]; exact hcw))), fun k e => ?_⟩⟩
 ·rw [keep sb (heap_lt h.box) (fun e => nsb c (by simp) e.symm), h.box]
  rfl
 ·refine h.chain.2.2.2.2.keep hs (fun x hx => keep _ (h.lt _ (.inl (.inr (.inr ⟨x, by simp [hx], rfl⟩)))) (fun e => hnd.1 x hx e)) (fun x hx k e => ?_)
  rcases e with e | e
  ·exact hrk _ (mem_reads.2 (.inr (.inr ⟨x, by simp [hx], .inl rfl⟩))) k e
  ·exact hrk _ (mem_reads.2 (.inr (.inr ⟨x, by simp [hx], .inr rfl⟩))) k e
 ·rcases hrd v hv k e with ⟨_, e2, _⟩ | e2
  ·exact e2 ((hwr k).1 hwk)
  ·have := hwl k ((hwr k).1 hwk); omega
 ·rcases e with e | ⟨v, hv, e⟩
  ·have := hwl k ((hwr k).1 e); omega
  ·rcases hrd v hv k e with e2 | e2
   ·omega
   ·exact e2.2
 ·rcases e with e | ⟨v, hv, e⟩
  ·exact .inl (.inl ((hwr k).1 e))
  ·rcases hrd v hv k e with e2 | e2
   ·exact .inl (.inr ⟨v, e2.2.2, e⟩)
   ·exact .inr e2.1
theorem q_standsFor (w : World) (sb : Nat) (s : QSt) (V : QV) (c : QC) (r : List QC) (q : Qn) (x : Rc) (h : QAt w sb s V (c :: r)) (hle : s.reply.an.length ≤ 65535) (hq : s.reply.qs = [q]) (hx : x.data.size ≤ 2097152) :
  Calls Tryz.prog 122 #[.pointer (some ⟨sb, 0, none⟩), .agg #[.string x.name, .int .u16 x.kind, .int .u16 x.cls, .int .u32 x.ttl, .string x.data]] w (QSays w sb V (c :: r) (standsQ s q x)) := by
 cases r with
 | cons a r => exact stands_deep w sb s V c a r q x h (by omega)
 | nil =>
  by_cases hs : (s.reply.an.length : Int) = s.c
  ·exact stands_fails w sb s V c q x h hle hq hx (.inl hs)
  ·cases ha : aheadB s q x.data with
   | true => exact stands_fails w sb s V c q x h hle hq hx (.inr ⟨hs, ha⟩)
   | false => exact stands_goes w sb s V c q x h hle hq hx hs ha
structure Fresh (w w' : World) (v : Value) (l : List Rc) : Prop where
 lies : Lies w' 5 v (l.map Rc.cells)
 new : ∀ k, v.ownBlock = some k → w.heap.size ≤ k
theorem Fresh.below {w w' w2 : World} {v : Value} {l : List Rc} (h : Fresh w w' v l) (hb : Below w'.heap.size w' w2) : Fresh w w2 v l := ⟨h.lies.below hb, h.new⟩
theorem OL.fresh {w wr : World} {xs : List Rc} {v : Value} (h : OL w wr xs v) : Fresh w wr v xs := ⟨own_lies h.own (rcells_len' _) (by simp), h.new⟩
theorem Fresh.from {w0 w w' : World} {v : Value} {l : List Rc} (h : Fresh w w' v l) (hs : w0.heap.size ≤ w.heap.size) : Fresh w0 w' v l := ⟨h.lies, fun k e => Nat.le_trans hs (h.new k e)⟩
end Go.Proofs.YtafoepfhepdcoaaGreat
namespace Go.Proofs.YtafoepfhepdcoaaGreat
open Go.RowKit Go.Trawl
attribute [local go_sem] mf
def lookRest (s : QSt) (q : Qn) (m : Msg) (c : Ch) (r : List Ch) (Ot U EX : List Rc) : QSt :=
 match Ot with
 | x :: _ => standsQ s q x
 | [] =>
  if m.code = 3 then endQ s 3 []
  else match U.find? (belowB c) with
   | some x => { s with ph := .seek, ch := enterC c x.name U EX :: r }
   | none => if m.own then endQ s 0 [] else s
theorem lookQ_eq {s : QSt} {c : Ch} {r : List Ch} (h : s.ch = c :: r) (q : Qn) (m : Msg) : lookQ s q m = if m.code ≠ 0 ∧ m.code ≠ 3 then s else if (m.an.filter (credB c.zone)).filter (kindB c.name c.kind) ≠ [] then endQ s 0 ((m.an.filter (credB c.zone)).filter (kindB c.name c.kind)) else lookRest s q m c r ((m.an.filter (credB c.zone)).filter (kindB c.name 5)) (m.au.filter (credB c.zone)) (m.ex.filter (credB c.zone)) := by
 unfold lookQ
 rw [h]
 rfl
theorem q_look (w : World) (sb : Nat) (s : QSt) (V : QV) (c : QC) (r : List QC) (q : Qn) (m : Msg) (vq va vu vx : Value) (h : QAt w sb s V (c :: r)) (hok : QOk s) (hp : s.ph = .send) (hq : s.reply.qs = [q]) (hm : Got m) (hat : MsgAt w m vq va vu vx) :
  Calls Tryz.prog 82 #[.pointer (some ⟨sb, 0, none⟩), .agg (msgCells m vq va vu vx)] w (QSays w sb V (c :: r) (lookQ s q m)) := by
 have hch : s.ch = c.ch :: r.map QC.ch := h.chs.symm
 have hC := hok.chs c.ch (by rw [hch]; simp)
 have han := hok.an (by rw [hp]; simp)
 have hc1 := hok.c1
 obtain ⟨R, hR⟩ : ∃ R, R = lookQ s q m := ⟨_, rfl⟩
 rw [← hR]
 rw [lookQ_eq hch] at hR
 have HR := hide hR
 obtain ⟨aa, ca, rfl, _⟩ := (show Lies w 5 va (m.an.map Rc.cells) from hat.a)
 obtain ⟨au, cu, rfl, _⟩ := (show Lies w 5 vu (m.au.map Rc.cells) from hat.u)
 obtain ⟨ax, cx, rfl, _⟩ := (show Lies w 5 vx (m.ex.map Rc.cells) from hat.x)
 simp only [List.length_map] at hat ⊢
 have hb1 := (Below.refl w.heap.size w).alloc (Nat.le_refl _) (.cells (msgCells m vq (.slice aa m.an.length ca) (.slice au m.au.length cu) (.slice ax m.ex.length cx)) 30)
 have HB1 := hide hb1
 have H1 := hide (h.below hb1)
 have HAT := hide (hat.below hb1)
 have HX := hide (heap_new w (.cells (msgCells m vq (.slice aa m.an.length ca) (.slice au m.au.length cu) (.slice ax m.ex.length cx)) 30))
 have HLT := hide h.lt
 have HM := hide hm
 have HC := hide hC
 have HQ := hide hq
 have hsl := h.slt
 have hbl : c.blk < w.heap.size := heap_lt h.chain.1
 have hnb := h.chain.nsb h.box c (by simp)
 clear h hok hp hq hm hat hb1 hch hR hC
 unfold QSays
 unfold msgCells at HB1 H1 HAT HX ⊢
 have hc := box_cells H1.out.box
 simp only [qCells, chPtr] at hc
 go_enter Tryz.func82, Tryz.ntmps82
 go_wp2_with fail
 generalize w.alloc _ = W1 at HB1 H1 HAT HX hc ⊢
 clear hc
 have hlM : w.heap.size < W1.heap.size := heap_lt HX.out
 have HS : Hid (∀ w', Below W1.heap.size W1 w' → w'.cell? ⟨w.heap.size, 9, none⟩ = some (.slice aa m.an.length ca) ∧ w'.cell? ⟨w.heap.size, 10, none⟩ = some (.slice au m.au.length cu)) := fun w' hb => by
  have e := box_cells ((hb.block _ hlM).trans HX.out)
  exact ⟨(e 9).trans rfl, (e 10).trans rfl⟩
 have HCA : Hid (∀ Wx, Below W1.heap.size W1 Wx → Calls Tryz.prog 118 #[.pointer (some ⟨c.blk, 0, none⟩), .slice aa m.an.length ca] Wx fun e w7 => ∃ a7 c7, e = .returned (.slice a7 (m.an.filter (credB c.ch.zone)).length c7) ∧ Hid (Below W1.heap.size W1 w7) ∧ Hid (Fresh W1 w7 (.slice a7 (m.an.filter (credB c.ch.zone)).length c7) (m.an.filter (credB c.ch.zone))) ∧ (w7.cell? ⟨w.heap.size, 9, none⟩ = some (.slice aa m.an.length ca) ∧ w7.cell? ⟨w.heap.size, 10, none⟩ = some (.slice au m.au.length cu))) := fun Wx hb => by
  refine (q_credible Wx c r _ m.an (H1.out.below hb).chain HC.out.zone HM.out.an (fun x hx => (HM.out.named.a x hx).1) (HAT.out.a.below hb)).mono ?_
  rintro e w7 ⟨a7, c7, rfl, H7⟩
  have hb7 := hb.trans (H7.out.below.mono hb.size)
  exact ⟨a7, c7, rfl, hb7, H7.out.fresh.from hb.size, HS.out w7 hb7⟩
 have HCU : Hid (∀ Wx, Below W1.heap.size W1 Wx → Calls Tryz.prog 118 #[.pointer (some ⟨c.blk, 0, none⟩), .slice au m.au.length cu] Wx fun e w8 => ∃ a8 c8, e = .returned (.slice a8 (m.au.filter (credB c.ch.zone)).length c8) ∧ Hid (Below Wx.heap.size Wx w8) ∧ Hid (Below W1.heap.size W1 w8) ∧ Hid (Fresh W1 w8 (.slice a8 (m.au.filter (credB c.ch.zone)).length c8) (m.au.filter (credB c.ch.zone))) ∧ (w8.cell? ⟨w.heap.size, 9, none⟩ = some (.slice aa m.an.length ca) ∧ w8.cell? ⟨w.heap.size, 10, none⟩ = some (.slice au m.au.length cu))) := fun Wx hb => by
  refine (q_credible Wx c r _ m.au (H1.out.below hb).chain HC.out.zone HM.out.au (fun x hx => (HM.out.named.u x hx).1) (HAT.out.u.below hb)).mono ?_
  rintro e w8 ⟨a8, c8, rfl, H8⟩
  have hb8 := hb.trans (H8.out.below.mono hb.size)
  exact ⟨a8, c8, rfl, H8.out.below, hb8, H8.out.fresh.from hb.size, HS.out w8 hb8⟩
 have HDR : Hid (Below W1.heap.size W1 W1.drew) := below_drewN (Below.refl _ _) 1
 obtain ⟨k9, k10⟩ := HS.out W1 (Below.refl _ _)
 go_region_held3 (fun w' => w'.cell? ⟨w.heap.size, 9, none⟩ = some (.slice aa m.an.length ca) ∧ w'.cell? ⟨w.heap.size, 10, none⟩ = some (.slice au m.au.length cu)) (first | (go_keep; done) | exact hs7 | exact hs8) (first | (go_at_call_of 118 (Value.slice aa m.an.length ca); refine (HCA.out _ HDR.out).mono ?_; rintro e w7 ⟨a7, c7, rfl, HB7, HF7, hs7⟩) | (go_at_call_of 118 (Value.slice au m.au.length cu); refine (HCU.out w7 HB7.out).mono ?_; rintro e w8 ⟨a8, c8, rfl, HB78, HB8, HF8, hs8⟩))
 have HFA := hide (HF7.out.below HB78.out)
 have HFU := HF8
 clear hs7 hs8 k9 k10 HCA HCU HS HDR HF7 HB7 HB78 HF8
 obtain ⟨A, hA⟩ : ∃ A, A = m.an.filter (credB c.ch.zone) := ⟨_, rfl⟩
 obtain ⟨U, hU⟩ : ∃ U, U = m.au.filter (credB c.ch.zone) := ⟨_, rfl⟩
 rw [← hA] at HFA HR ⊢
 rw [← hU] at HFU HR ⊢
 have HAL : Hid (A.length ≤ 65535 ∧ (∀ x ∈ A, WfR x ∧ NamedR x)) := ⟨by rw [hA]; exact Nat.le_trans (List.length_filter_le _ _) HM.out.an, fun x hx => by rw [hA] at hx; have := (List.mem_filter.1 hx).1; exact ⟨wf_an HM.out this, HM.out.named.a x this⟩⟩
 have HUL : Hid (U.length ≤ 65535 ∧ (∀ x ∈ U, WfR x ∧ NamedR x)) := ⟨by rw [hU]; exact Nat.le_trans (List.length_filter_le _ _) HM.out.au, fun x hx => by rw [hU] at hx; have := (List.mem_filter.1 hx).1; exact ⟨wf_au HM.out this, HM.out.named.u x this⟩⟩
 clear hA hU
 go_wp2_with fail
 have HS2 : Hid (∀ w', Below w8.heap.size w8 w' → w'.cell? ⟨c.blk, 2, none⟩ = some (.string c.ch.name) ∧ w'.cell? ⟨c.blk, 3, none⟩ = some (.int .u16 c.ch.kind)) := fun w' hb => by
  have e := box_cells ((H1.out.below HB8.out).below hb).chain.1
  exact ⟨(e 2).trans rfl, (e 3).trans rfl⟩
 have HOF : Hid (∀ Wx kd, Below w8.heap.size w8 Wx → Calls Tryz.prog 119 #[.slice a7 A.length c7, .string c.ch.name, .int .u16 kd] Wx fun e w9 => ∃ a9 c9, e = .returned (.slice a9 (A.filter (kindB c.ch.name kd)).length c9) ∧ Hid (Below Wx.heap.size Wx w9) ∧ Hid (Below w8.heap.size w8 w9) ∧ Hid (Fresh W1 w9 (.slice a9 (A.filter (kindB c.ch.name kd)).length c9) (A.filter (kindB c.ch.name kd))) ∧ (w9.cell? ⟨c.blk, 2, none⟩ = some (.string c.ch.name) ∧ w9.cell? ⟨c.blk, 3, none⟩ = some (.int .u16 c.ch.kind))) := fun Wx kd hb => by
  refine (q_of Wx _ A c.ch.name kd HAL.out.1 (fun x hx => (HAL.out.2 x hx).1.name) (HFA.out.lies.below hb)).mono ?_
  rintro e w9 ⟨a9, c9, rfl, H9⟩
  have hb9 := hb.trans (H9.out.below.mono hb.size)
  exact ⟨a9, c9, rfl, H9.out.below, hb9, H9.out.fresh.from (by have := HB8.out.size; have := hb.size; omega), HS2.out w9 hb9⟩
 have HDR : Hid (Below w8.heap.size w8 w8.drew) := below_drewN (Below.refl _ _) 1
 obtain ⟨k2, k3⟩ := HS2.out w8 (Below.refl _ _)
 go_region_held3 (fun w' => w'.cell? ⟨c.blk, 2, none⟩ = some (.string c.ch.name) ∧ w'.cell? ⟨c.blk, 3, none⟩ = some (.int .u16 c.ch.kind)) (first | (go_keep; done) | exact hs9) (first | (go_at_call 119; refine (HOF.out _ _ HDR.out).mono ?_; rintro e w9 ⟨a9, c9, rfl, HB89', HB89, HF9, hs9⟩))
 clear k2 k3 HDR HB89'
 obtain ⟨k2, k3⟩ := hs9
 go_wp2_with fail
 refine (HOF.out w9 5 HB89.out).mono ?_
 rintro e w10 ⟨a10, c10, rfl, HB910, HB810, HF10, hs10⟩
 have HFF := hide (HF9.out.below HB910.out)
 clear k2 k3 HF9 HOF HS2 hs10 HB910 HB89
 obtain ⟨Fd, hFd⟩ : ∃ A', A' = A.filter (kindB c.ch.name c.ch.kind) := ⟨_, rfl⟩
 obtain ⟨Ot, hOt⟩ : ∃ A', A' = A.filter (kindB c.ch.name 5) := ⟨_, rfl⟩
 rw [← hFd] at HFF HR ⊢
 rw [← hOt] at HF10 HR ⊢
 have HFL : Hid (Fd.length ≤ 65535 ∧ ∀ x ∈ Fd, WfR x) := ⟨by rw [hFd]; exact Nat.le_trans (List.length_filter_le _ _) HAL.out.1, fun x hx => by rw [hFd] at hx; exact (HAL.out.2 x (List.mem_filter.1 hx).1).1⟩
 have HOL : Hid (Ot.length ≤ 65535 ∧ ∀ x ∈ Ot, WfR x) := ⟨by rw [hOt]; exact Nat.le_trans (List.length_filter_le _ _) HAL.out.1, fun x hx => by rw [hOt] at hx; exact (HAL.out.2 x (List.mem_filter.1 hx).1).1⟩
 have H10 := hide ((H1.out.below HB8.out).below HB810.out)
 have HU10 := hide (HFU.out.below HB810.out)
 have HBA := hide (HB8.out.trans (HB810.out.mono HB8.out.size))
 clear hFd hOt HFU HFA HAL
 go_wp2_with fail
 refine (q_zoneBelow w10 c r _ U H10.out.chain HC.out.name HUL.out.1 (fun x hx => (HUL.out.2 x hx).2.1) HU10.out.lies).mono ?_
 rintro e w11 ⟨rfl, HB11'⟩
 have H11 := hide (H10.out.below HB11'.out)
 have HU11 := hide (HU10.out.below HB11'.out)
 have HF11 := hide (HFF.out.below HB11'.out)
 have HO11 := hide (HF10.out.below HB11'.out)
 have HB11 := hide (HBA.out.trans (HB11'.out.mono HBA.out.size))
 have HX11 := hide ((HB11.out.block _ hlM).trans HX.out)
 have HFR := hide (Fr.of_below (HB1.out.trans (HB11.out.mono HB1.out.size)) (V.owns (c :: r) sb))
 clear HB11' H10 HU10 HFF HF10 HBA HB8 HB810
 obtain ⟨z, b, hzv, hzt, hzf⟩ : ∃ z b, zoneV (U.find? (belowB c.ch)) = .tuple #[.string z, .bool b] ∧ (b = true → ∃ x, U.find? (belowB c.ch) = some x ∧ z = x.name) ∧ (b = false → U.find? (belowB c.ch) = none) := by
  cases hfd : U.find? (belowB c.ch) with
  | some x => exact ⟨x.name, true, rfl, fun _ => ⟨x, rfl, rfl⟩, fun e => by cases e⟩
  | none => exact ⟨⟨#[]⟩, false, rfl, (fun e => by cases e), fun _ => rfl⟩
 rw [hzv]
 have HZT := hide hzt
 have HZF := hide hzf
 clear hzv hzt hzf
 have hcm := box_cells HX11.out
 have hnew : ∀ {v l}, Fresh W1 w11 v l → ∀ k, v.ownBlock = some k → k ≠ sb := fun hf k e => by have := hf.new k e; omega
 have HNW : Hid (∀ {v l}, Fresh W1 w11 v l → ∀ k, v.ownBlock = some k → k ≠ sb ∧ k ≠ c.blk) := fun hf k e => by have := hf.new k e; exact ⟨by omega, by omega⟩
 clear hnew
 rcases (show (m.code ≠ 0 ∧ m.code ≠ 3) ∨ m.code = 0 ∨ m.code = 3 by omega) with ⟨h0, h3⟩ | hcd
 ·have hr : R = s := by rw [HR.out, if_pos ⟨h0, h3⟩]
  clear HR
  have h0' : ((m.code : Int) != 0) = true := by simp; exact h0
  have h3' : ((m.code : Int) != 3) = true := by simp; exact h3
  go_wp2_with fail
  refine bodyPost_ret (results_none rfl _ _ _) rfl ?_
  exact ⟨rfl, V, _, by rw [hr]; exact H11.out, HFR.out⟩
 have hr1 : R = if Fd ≠ [] then endQ s 0 Fd else lookRest s q m c.ch (r.map QC.ch) Ot U (m.ex.filter (credB c.ch.zone)) := by rw [HR.out, if_neg (by omega)]
 clear HR
 have HR1 := hide hr1
 clear hr1
 by_cases hfd : Fd ≠ []
 ·have hr : R = endQ s 0 Fd := by rw [HR1.out, if_pos hfd]
  have HRR := hide hr
  have hpos : 0 < Fd.length := List.length_pos_iff.2 hfd
  have hfl := HFL.out.1
  clear HR1 hr hfd
  rcases hcd with hcd | hcd
  all_goals
   rw [hcd] at hcm
   go_wp2_with fail
   refine (q_end w11 sb s V c r 0 (.slice a9 Fd.length c9) Fd H11.out HF11.out.lies (fun k e => (HNW.out HF11.out k e).1) (by omega) HFL.out.1 HFL.out.2).mono ?_
   rintro e w12 ⟨rfl, H12⟩
   clear hcm
   go_wp2_with fail
   go_end0
   obtain ⟨V', cs', h12, f12⟩ := H12.out
   exact ⟨rfl, V', cs', by rw [HRR.out]; exact h12, HFR.out.trans f12⟩
 have hfd0 : Fd = [] := Classical.byContradiction hfd
 have hr2 := HR1.out
 rw [if_neg hfd] at hr2
 subst hfd0
 clear HR1 hfd
 have HR2 := hide hr2
 clear hr2
 cases Ot with
 | cons x l =>
  have HRR : Hid (R = standsQ s q x) := HR2.out
  have hxw := HOL.out.2 x (by simp)
  obtain ⟨ao, co, hvo, _, hlo⟩ := HO11.out.lies
  rcases hlo with e | ⟨bo, oo, rfl, hbo, hco⟩
  ·cases e
  rw [List.length_map] at hvo
  injection hvo with ev1 ev2 ev3
  subst ev1 ev3
  obtain ⟨d0, d1, d2, d3, d4⟩ := Lies.rat hco (show (x :: l)[0]? = some x from rfl)
  simp only [Nat.zero_mul, Nat.add_zero] at d0 d1 d2 d3 d4
  have hol := HOL.out.1
  clear HR2 hco
  rcases hcd with hcd | hcd
  all_goals
   rw [hcd] at hcm
   go_wp2_with fail
   refine (q_standsFor w11 sb s V c r q x H11.out (by omega) HQ.out hxw.data).mono ?_
   rintro e w12 ⟨rfl, H12⟩
   clear hcm d0 d1 d2 d3 d4
   go_wp2_with fail
   go_end0
   obtain ⟨V', cs', h12, f12⟩ := H12.out
   exact ⟨rfl, V', cs', by rw [HRR.out]; exact h12, HFR.out.trans f12⟩
 | nil =>
  have hr3 := HR2.out
  unfold lookRest at hr3
  dsimp only at hr3
  clear HR2
  rcases hcd with hcd | hcd
  ·rw [if_neg (by omega)] at hr3
   have HR3 := hide hr3
   clear hr3
   rw [hcd] at hcm
   cases b with
   | true =>
    obtain ⟨x, hx, rfl⟩ := HZT.out rfl
    have hr4 := HR3.out
    rw [hx] at hr4
    have HR4 := hide hr4
    clear HR3 hr4 HZT HZF
    go_wp2_with fail
    refine (q_credible w11 c r _ m.ex H11.out.chain HC.out.zone HM.out.ex (fun x hx => (HM.out.named.x x hx).1) (HAT.out.x.below HB11.out)).mono ?_
    rintro e w12 ⟨a12, c12, rfl, H12⟩
    obtain ⟨EX, hEX⟩ : ∃ E', E' = m.ex.filter (credB c.ch.zone) := ⟨_, rfl⟩
    rw [← hEX] at H12 HR4 ⊢
    have HEL : Hid (EX.length ≤ 65535 ∧ ∀ x ∈ EX, WfR x) := ⟨by rw [hEX]; exact Nat.le_trans (List.length_filter_le _ _) HM.out.ex, fun x hx => by rw [hEX] at hx; exact wf_ex HM.out (List.mem_filter.1 hx).1⟩
    have HQ12 := hide (H11.out.below H12.out.below)
    have HU12 := hide (HU11.out.lies.below H12.out.below)
    have HE12 := hide H12.out.fresh
    have HFR12 := hide (HFR.out.trans (Fr.of_below H12.out.below _))
    have hz11 := HB11.out.size
    clear hcm H12 hEX
    go_wp2_with fail
    refine (q_enter w12 c r x.name _ _ U EX HQ12.out.chain HU12.out HE12.out.lies (fun k e => (HNW.out HU11.out k e).2) (fun k e => by have := HE12.out.new k e; omega) HUL.out.1 HEL.out.1 (fun y hy => (HUL.out.2 y hy).1) HEL.out.2).mono ?_
    rintro e w13 ⟨rfl, H13⟩
    obtain ⟨vn, vs, E13⟩ := H13.out
    have HEN := hide (HQ12.out.entered E13)
    clear E13 H13
    have hc13 := box_cells HEN.out.1.box
    have hf13 := frozen_of_block HEN.out.1.box
    simp only [qCells, chPtr] at hc13
    have H14 := hide (HEN.out.1.set (s' := { s with ph := .seek, ch := enterC c.ch x.name U EX :: r.map QC.ch }) 6 (nextV sb .seek) rfl rfl rfl rfl rfl)
    unfold nextV at H14
    go_wp2_with fail
    clear hc13 hf13
    go_end0
    exact ⟨rfl, V, _, by rw [HR4.out]; exact H14.out, (HFR12.out.trans HEN.out.2).trans (Fr.self _ 6 _)⟩
   | false =>
    have hr4 := HR3.out
    rw [HZF.out rfl] at hr4
    dsimp only at hr4
    clear HR3 HZT HZF
    cases hw : m.own with
    | true =>
     rw [hw] at hr4
     have HR4 : Hid (R = endQ s 0 []) := hr4
     rw [hw] at hcm
     clear hr4
     go_wp2_with fail
     refine (q_end w11 sb s V c r 0 (.slice none 0 0) [] H11.out (liesNil _ _) (fun k e => by cases e) (by omega) (by simp) (by simp)).mono ?_
     rintro e w12 ⟨rfl, H12⟩
     clear hcm
     go_wp2_with fail
     go_end0
     obtain ⟨V', cs', h12, f12⟩ := H12.out
     exact ⟨rfl, V', cs', by rw [HR4.out]; exact h12, HFR.out.trans f12⟩
    | false =>
     rw [hw] at hr4
     have HR4 : Hid (R = s) := hr4
     rw [hw] at hcm
     clear hr4
     go_wp2_with fail
     go_end0
     exact ⟨rfl, V, _, by rw [HR4.out]; exact H11.out, HFR.out⟩
  ·rw [if_pos hcd] at hr3
   have HR3 := hide hr3
   clear hr3
   rw [hcd] at hcm
   go_wp2_with fail
   refine (q_end w11 sb s V c r 3 (.slice none 0 0) [] H11.out (liesNil _ _) (fun k e => by cases e) (by omega) (by simp) (by simp)).mono ?_
   rintro e w12 ⟨rfl, H12⟩
   clear hcm
   go_wp2_with fail
   go_end0
   obtain ⟨V', cs', h12, f12⟩ := H12.out
   exact ⟨rfl, V', cs', by rw [HR3.out]; exact h12, HFR.out.trans f12⟩
end Go.Proofs.YtafoepfhepdcoaaGreat
