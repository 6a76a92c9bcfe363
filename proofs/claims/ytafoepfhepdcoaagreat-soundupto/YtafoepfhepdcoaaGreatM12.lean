import Derived.Test.YtafoepfhepdcoaaGreatM11
import Derived.Test.YtafoepfhepdcoaaGreatM9
set_option maxRecDepth 100000
set_option maxHeartbeats 8000000
namespace Go.Proofs.YtafoepfhepdcoaaGreat
open Go.RowKit Go.Trawl
def lookP (st : RSt) : List Ch → RSt × Value
 | [] => failP st
 | c :: r => match c.names with
  | [] => if r = [] then failP { st with l := [c] } else lookP st r
  | n :: ns => if st.d < (r.length : Int) + 1 then (if r = [] then failP { st with l := [c] } else lookP st r) else askP st (r.reverse ++ [{ c with names := ns }]) (freshCh st n 1)
def withoutP (st : RSt) (c : Ch) (r : List Ch) : RSt × Value := if r = [] then failP { st with l := [c] } else lookP st r
theorem StOk.withL {st : RSt} (h : StOk st) (l : List Ch) (hl : l.length ≤ 1000) (hc : ∀ c ∈ l, ChOk c) : StOk { st with l := l } :=
 ⟨h.b0, h.b1, h.d0, h.d1, h.c0, h.c1, h.t0, h.t1, h.r0, h.r1, h.id0, h.id1, h.asked, h.kept, h.recs, h.seen, h.texts, hl, hc, h.spent⟩
attribute [local go_sem] Stg.upon
end Go.Proofs.YtafoepfhepdcoaaGreat
namespace Go.Proofs.YtafoepfhepdcoaaGreat
open Go.RowKit Go.Trawl
attribute [local go_sem] Stg.upon
end Go.Proofs.YtafoepfhepdcoaaGreat
namespace Go.Proofs.YtafoepfhepdcoaaGreat
open Go.RowKit Go.Trawl
def confV (b d c t : Int) (vr : Value) : Value := .agg #[.int .i64 b, .int .i64 d, .int .i64 c, .int .i64 t, vr]
theorem buildRes (b d c t : Int) (a : Option Addr) (n cp : Nat) (W : World) : (Instr.build 163 #[(0, .agg #[.int .i64 b, .int .i64 d, .int .i64 c, .int .i64 t, .slice a n cp])]).run Tryz.prog W =
  .ok (.agg #[.int .i64 b, .int .i64 d, .int .i64 c, .int .i64 t, .slice a n cp, .int .u16 0, .bool false, .int .u16 0, .bool false, .int .i64 0, .bool false, .bool false, .bool false, .bool false, .int .i64 0, .slice none 0 0, .slice none 0 0, .slice none 0 0, .slice none 0 0, .slice none 0 0, .slice none 0 0, .slice none 0 0, .int .i64 0, .int .u32 0, .string ⟨#[]⟩]) W := run_build W _ _ _ (by kernel_rfl)
attribute [local go_sem] buildRes
theorem words_ok (rs : List Int) : ∀ x ∈ wordsV rs, x.length = 1 ∧ ∀ u ∈ x, u.oneCell' = true := by
 intro x hx
 obtain ⟨y, _, rfl⟩ := List.mem_map.1 hx
 exact ⟨rfl, fun u hu => by simp at hu; subst hu; rfl⟩
end Go.Proofs.YtafoepfhepdcoaaGreat
namespace Go.Proofs.YtafoepfhepdcoaaGreat
open Go.RowKit Go.Trawl
theorem buildSt0 (W : World) : (Instr.build 111 #[]).run Tryz.prog W = .ok (.agg #[.int .i64 0, .int .u32 0, .string ⟨#[]⟩]) W := run_build W _ _ _ (by kernel_rfl)
theorem buildSt2 (k : Int) (W : World) : (Instr.build 111 #[(0, .int .i64 k)]).run Tryz.prog W = .ok (.agg #[.int .i64 k, .int .u32 0, .string ⟨#[]⟩]) W := run_build W _ _ _ (by kernel_rfl)
theorem buildMr (i k : Int) (W : World) : (Instr.build 30 #[(0, .int .u16 i), (7, .int .i64 k)]).run Tryz.prog W = .ok (.agg (msgCells (refM i k []) (.slice none 0 0) (.slice none 0 0) (.slice none 0 0) (.slice none 0 0))) W := run_build W _ _ _ (by kernel_rfl)
attribute [local go_sem] buildSt0 buildSt2 buildMr
structure Begun (w W : World) (rb : Nat) (st : RSt) (V : RV) (cs : List ChV) : Prop where
 ref : RefAt W rb st V cs
 fr : Fr w W (V.owns cs rb) (V.owns cs rb)
 res : W.heap[w.heap.size]? = some (.cells #[.int .i64 0, .int .u32 0, .string ⟨#[]⟩] 111)
 lt : ∀ k, V.owns cs rb k → k < w.heap.size
theorem Begun.start {w : World} {rb : Nat} {st : RSt} {V : RV} {cs : List ChV} (h : RefAt w rb st V cs) : Begun w (w.alloc (.cells #[.int .i64 0, .int .u32 0, .string ⟨#[]⟩] 111)) rb st V cs := by
 have hB := (Below.refl w.heap.size w).alloc (Nat.le_refl _) (.cells #[.int .i64 0, .int .u32 0, .string ⟨#[]⟩] 111)
 exact ⟨h.keep hB, Fr.of_below hB _, heap_new _ _, h.lt⟩
theorem Begun.below {w W W' : World} {rb : Nat} {st : RSt} {V : RV} {cs : List ChV} (h : Begun w W rb st V cs) (hb : Below W.heap.size W W') : Begun w W' rb st V cs :=
 ⟨h.ref.keep hb, h.fr.trans (Fr.of_below hb _), (hb.block _ (heap_lt h.res)).trans h.res, h.lt⟩
theorem Begun.put {w W : World} {rb : Nat} {st : RSt} {V : RV} {cs : List ChV} (h : Begun w W rb st V cs) (v0 v1 v2 : Value) : RefAt (put3 W w.heap.size v0 v1 v2) rb st V cs ∧ Fr w (put3 W w.heap.size v0 v1 v2) (V.owns cs rb) (V.owns cs rb) := by
 have hG := put3_grown W w.heap.size v0 v1 v2
 exact ⟨h.ref.aside hG (fun e => by have := h.lt _ e; omega), h.fr.write hG (Nat.le_refl _)⟩
theorem ref_wf {i k : Int} {qs : List Qn} (h0 : 0 ≤ i) (h1 : i ≤ 65535) (k0 : 0 ≤ k) (k1 : k ≤ 15) (hq : qs.length ≤ 2097152) (hw : ∀ q ∈ qs, WfQ q) : WfM (refM i k qs) :=
 ⟨h0, h1, by simp [refM], by simp [refM], by simp [refM]; omega, by simp [refM]; omega, hq, by simp [refM], by simp [refM], by simp [refM], hw, by simp [refM, recs]⟩
end Go.Proofs.YtafoepfhepdcoaaGreat
namespace Go.Proofs.YtafoepfhepdcoaaGreat
open Go.RowKit Go.Trawl
attribute [local go_sem] buildSt0
def sendP (st : RSt) (r : List Ch) (c : Ch) : RSt × Value := if (c.sent : Int) < st.t then askP st r c else withoutP st c r.reverse
end Go.Proofs.YtafoepfhepdcoaaGreat
namespace Go.Proofs.YtafoepfhepdcoaaGreat
open Go.RowKit Go.Trawl
structure ChRel (p c : Ch) : Prop where
 name : p.name = c.name
 kind : p.kind = c.kind
 zone : p.zone = c.zone
 servers : p.servers = c.servers
 sent : p.sent = c.sent
 names : c.servers = [] → p.names = c.names
def Chs : List Ch → List Ch → Prop
 | [], [] => True
 | p :: ps, c :: cs => ChRel p c ∧ Chs ps cs
 | _, _ => False
theorem Chs.len : ∀ {ps cs : List Ch}, Chs ps cs → ps.length = cs.length
 | [], [], _ => rfl
 | _ :: _, _ :: _, h => by simp [Chs.len h.2]
theorem Chs.cons {p : Ch} {ps cs : List Ch} (h : Chs (p :: ps) cs) : ∃ c r, cs = c :: r ∧ ChRel p c ∧ Chs ps r := by
 cases cs with
 | nil => exact h.elim
 | cons c r => exact ⟨c, r, rfl, h.1, h.2⟩
theorem Chs.snoc {c : Ch} {ps cs : List Ch} (h : Chs ps (c :: cs)) : ∃ p r, ps = p :: r ∧ ChRel p c ∧ Chs r cs := by
 cases ps with
 | nil => exact h.elim
 | cons p r => exact ⟨p, r, rfl, h.1, h.2⟩
def replyOf (st : RSt) : Msg := ⟨st.asked.id, true, 0, false, false, st.asked.wanted, true, 0, st.asked.qs, st.kept, [], []⟩
structure Core (s : QSt) (st : RSt) (l : List Ch) : Prop where
 b : s.b = st.b
 d : s.d = st.d
 c : s.c = st.c
 t : s.t = st.t
 roots : s.roots = st.roots
 id : s.id = st.id
 sent : s.sent = st.spent
 reply : s.reply = replyOf st
 chs : Chs s.ch l
 wait : ∀ c ∈ l.tail, c.servers = []
structure Sim (s : QSt) (st : RSt) : Prop where
 b : s.b = st.b
 d : s.d = st.d
 c : s.c = st.c
 t : s.t = st.t
 roots : s.roots = st.roots
 id : s.id = st.id
 idle : st.busy = false → s.ph = .idle ∧ s.ch = [] ∧ s.sent = 0 ∧ s.reply = zMsg
 busy : st.busy = true → s.ph = .send ∧ Core s st st.l.reverse
 last : st.busy = true → ∃ c r, st.l.reverse = c :: r ∧ c.servers ≠ [] ∧ 1 ≤ c.sent ∧ st.to = c.servers.getD ((c.sent - 1) % c.servers.length) 0
 seen : st.busy = true → ∃ q, st.asked.qs = [q] ∧ st.seen = q.name :: st.kept.map Rc.data
 kept : st.busy = true → (st.kept.length : Int) ≤ st.c
theorem replyL_resp (m m' : Msg) (h : asReply m = asReply m') : replyL m = replyL m' := by
 have h2 : asCut m = asCut m' := by
  cases m
  cases m'
  simp only [asReply, Msg.mk.injEq] at h
  simp only [asCut, Msg.mk.injEq]
  simp [h]
 unfold replyL
 rw [h, h2]
structure Both (p : QSt × QOut) (r : RSt × Value) : Prop where
 says : r.2 = stepV p.2.1 p.2.2.1 (str p.2.2.2)
 sim : Sim p.1 r.1
def Runs (s : QSt) (r : RSt × Value) : Prop := ∃ n p, goes n s = some p ∧ Both p r
theorem Runs.step {s : QSt} {r : RSt × Value} (h0 : (stepQ s).2.1 = 0) (h : Runs (stepQ s).1 r) : Runs s r := by
 obtain ⟨n, p, hg, hb⟩ := h
 refine ⟨n + 1, p, ?_, hb⟩
 unfold goes
 rw [if_pos h0]
 exact hg
theorem Runs.last {s : QSt} {r : RSt × Value} (h0 : (stepQ s).2.1 ≠ 0) (h : Both (stepQ s) r) : Runs s r := by
 refine ⟨1, stepQ s, ?_, h⟩
 unfold goes
 rw [if_neg h0]
theorem idle_sim {s : QSt} {st : RSt} (b : s.b = st.b) (d : s.d = st.d) (c : s.c = st.c) (t : s.t = st.t) (roots : s.roots = st.roots) (id : s.id = st.id) (hb : st.busy = false) : Sim (idleQ s) st :=
 ⟨b, d, c, t, roots, id, fun _ => ⟨rfl, rfl, rfl, rfl⟩, (fun e => by rw [hb] at e; cases e), (fun e => by rw [hb] at e; cases e), (fun e => by rw [hb] at e; cases e), fun e => by rw [hb] at e; cases e⟩
theorem settled {s : QSt} {st : RSt} {l : List Ch} (h : Core s st l) (code : Int) (x : List Rc) : Runs (settleQ s code x) ({ st with busy := false }, stepV 2 0 (str (replyL (doneM st code x)))) := by
 refine Runs.last (by show (2 : Int) ≠ 0; decide) ⟨?_, idle_sim h.b h.d h.c h.t h.roots h.id rfl⟩
 have e : replyL (doneM st code x) = replyL (settleQ s code x).reply := by
  refine replyL_resp _ _ ?_
  unfold settleQ doneM asReply
  simp [h.reply, replyOf]
 show stepV 2 0 (str (replyL (doneM st code x))) = stepV 2 0 (str (replyL (settleQ s code x).reply))
 rw [e]
theorem fails {s : QSt} {st : RSt} {l : List Ch} (h : Core s st l) (l' : List Ch) : Runs { s with ph := .failAll } (failP { st with l := l' }) := by
 refine Runs.step rfl ?_
 have := settled (s := { s with ph := .failAll }) (st := { st with l := l' }) (l := l) ⟨h.b, h.d, h.c, h.t, h.roots, h.id, h.sent, h.reply, h.chs, h.wait⟩ 2 []
 exact this
theorem failing {s : QSt} {st : RSt} {c : Ch} (h : Core s st [c]) (l' : List Ch) : Runs { s with ph := .fail } (failP { st with l := l' }) := by
 refine Runs.step rfl ?_
 have e : endQ { s with ph := .fail } 2 [] = settleQ { s with ph := .fail } 2 [] := by
  unfold endQ
  obtain ⟨p, r, e, _, hr⟩ := h.chs.snoc
  have : r = [] := by
   cases r with
   | nil => rfl
   | cons a b => exact hr.elim
  subst this
  rw [show ({ s with ph := .fail } : QSt).ch = s.ch from rfl, e]
 show Runs (endQ { s with ph := .fail } 2 []) _
 rw [e]
 exact settled (s := { s with ph := .fail }) (st := { st with l := l' }) (l := [c]) ⟨h.b, h.d, h.c, h.t, h.roots, h.id, h.sent, h.reply, h.chs, h.wait⟩ 2 []
theorem asks {s : QSt} {st : RSt} {c : Ch} {r : List Ch} (h : Core s st (c :: r)) (hp : s.ph = .send) (hok : QOk s) (hbz : st.busy = true) (ht : (c.sent : Int) < st.t) (hne : c.servers ≠ []) (hsn : ∃ q, st.asked.qs = [q] ∧ st.seen = q.name :: st.kept.map Rc.data) (hkp : (st.kept.length : Int) ≤ st.c) : Runs s (askP st r.reverse c) := by
 obtain ⟨p, ps, ech, hpc, hps⟩ := h.chs.snoc
 have h1 : ¬ (p.sent : Int) = s.t := by rw [hpc.sent, h.t]; omega
 unfold askP
 by_cases hb : st.b ≤ (st.spent : Int)
 ·rw [if_pos hb]
  have h2 : (s.sent : Int) = s.b := by have := hok.sent; rw [h.sent, h.b] at this ⊢; omega
  have e : stepQ s = ({ s with ph := .failAll }, noOut) := by
   unfold stepQ sendQ
   rw [hp, ech]
   simp [h1, h2]
  refine Runs.step (by rw [e]; rfl) ?_
  rw [e]
  exact fails h _
 ·rw [if_neg hb]
  have h2 : ¬ (s.sent : Int) = s.b := by rw [h.sent, h.b]; omega
  have e : stepQ s = ({ s with ch := { p with sent := p.sent + 1 } :: ps, sent := s.sent + 1, id := nextId s.id }, (1, toOf p, packL (askM (nextId s.id) p))) := by
   unfold stepQ sendQ
   rw [hp, ech]
   simp [h1, h2]
  refine Runs.last (by rw [e]; show (1 : Int) ≠ 0; decide) ?_
  rw [e]
  have eto : toOf p = toOf c := by unfold toOf; rw [hpc.servers, hpc.sent]
  have em : askM (nextId s.id) p = askM (nextId st.id) c := by unfold askM; rw [hpc.name, hpc.kind, h.id]
  have hl : (askSt st r.reverse c).l.reverse = { c with sent := c.sent + 1 } :: r := by simp [askSt]
  refine ⟨?_, ⟨h.b, h.d, h.c, h.t, h.roots, ?_, ?_, fun _ => ⟨hp, ?_⟩, fun _ => ⟨{ c with sent := c.sent + 1 }, r, hl, hne, by simp, ?_⟩, fun _ => hsn, fun _ => hkp⟩⟩
  ·show askStep st c = stepV 1 (toOf p) (str (packL (askM (nextId s.id) p)))
   rw [eto, em]
   rfl
  ·show nextId s.id = nextId st.id
   rw [h.id]
  ·intro e
   have : st.busy = false := e
   rw [hbz] at this
   cases this
  ·rw [hl]
   refine ⟨h.b, h.d, h.c, h.t, h.roots, by show nextId s.id = nextId st.id; rw [h.id], by show s.sent + 1 = st.spent + 1; rw [h.sent], h.reply, ⟨⟨hpc.name, hpc.kind, hpc.zone, hpc.servers, by show p.sent + 1 = c.sent + 1; rw [hpc.sent], hpc.names⟩, hps⟩, h.wait⟩
  ·show toOf c = _
   simp [toOf]
theorem seeks (st : RSt) (hbz : st.busy = true) (hsn : ∃ q, st.asked.qs = [q] ∧ st.seen = q.name :: st.kept.map Rc.data) (hkp : (st.kept.length : Int) ≤ st.c) :
  ∀ (l : List Ch) (s : QSt), Core s st l → s.ph = .seek → QOk s → (∀ c ∈ l, c.servers = []) → Runs s (lookP st l)
 | [], s, h, hp, hok, _ => absurd (by
   have := h.chs.len
   exact List.eq_nil_of_length_eq_zero this) (hok.busy (by rw [hp]; simp)).1
 | c :: r, s, h, hp, hok, hsv => by
  obtain ⟨p, ps, ech, hpc, hps⟩ := h.chs.snoc
  have hs0 : p.servers = [] := by rw [hpc.servers]; exact hsv c (by simp)
  have hnm : p.names = c.names := hpc.names (hsv c (by simp))
  have hlen := hps.len
  have hln := hok.len
  rw [ech] at hln
  simp only [List.length_cons] at hln
  have hokf : QOk { s with ph := .fail } := { hok with busy := fun _ => hok.busy (by rw [hp]; simp), an := fun _ => hok.an (by rw [hp]; simp), srv := fun e => by cases e }
  have hf : Runs { s with ph := .fail } (if r = [] then failP { st with l := [c] } else lookP st r) := by
   cases r with
   | nil => exact failing (c := c) h _
   | cons a r' =>
    rw [if_neg (by simp)]
    obtain ⟨pa, ps', e2, ha, hps'⟩ := hps.snoc
    subst e2
    have e3 : endQ { s with ph := .fail } 2 [] = { s with ph := .seek, ch := { pa with servers := [] } :: ps' } := by
     unfold endQ
     rw [show ({ s with ph := .fail } : QSt).ch = s.ch from rfl, ech]
     rfl
    have hok2 := stepQ_ok hokf (by simp)
    have e4 : (stepQ { s with ph := .fail }).1 = endQ { s with ph := .fail } 2 [] := rfl
    refine Runs.step rfl ?_
    rw [e4] at hok2 ⊢
    rw [e3] at hok2 ⊢
    have ha0 := hsv a (by simp)
    exact seeks st hbz hsn hkp (a :: r') _ ⟨h.b, h.d, h.c, h.t, h.roots, h.id, h.sent, h.reply, ⟨⟨ha.name, ha.kind, ha.zone, by show ([] : List Int) = a.servers; rw [ha0], ha.sent, ha.names⟩, hps'⟩, fun x hx => hsv x (by simp at hx; simp [hx])⟩ rfl hok2 (fun x hx => hsv x (List.mem_cons_of_mem _ hx))
  unfold lookP
  cases hn : c.names with
  | nil =>
   have e : stepQ s = ({ s with ph := .fail }, noOut) := by
    unfold stepQ seekQ
    rw [hp, ech]
    simp [hs0, hnm, hn]
   refine Runs.step (by rw [e]; rfl) ?_
   rw [e]
   exact hf
  | cons n ns =>
   by_cases hd : st.d < (r.length : Int) + 1
   ·have hd' : ((ps.length : Nat) : Int) = s.d := by rw [h.d] at hln ⊢; omega
    have e : stepQ s = ({ s with ph := .fail }, noOut) := by
     unfold stepQ seekQ
     rw [hp, ech]
     simp [hs0, hnm, hn, hd']
    refine Runs.step (by rw [e]; rfl) ?_
    rw [e]
    simp only [if_pos hd]
    exact hf
   ·have hd' : ¬ ((ps.length : Nat) : Int) = s.d := by rw [h.d]; omega
    have e : stepQ s = (startQ s (newQ n 1) ({ p with names := ns } :: ps), noOut) := by
     unfold stepQ seekQ
     rw [hp, ech]
     simp [hs0, hnm, hn, hd']
    simp only [if_neg hd]
    refine Runs.step (by rw [e]; rfl) ?_
    have hok2 := stepQ_ok hok (by rw [hp]; simp)
    rw [e] at hok2 ⊢
    have hr : (r.reverse ++ [{ c with names := ns }]) = ({ c with names := ns } :: r).reverse := by simp
    rw [hr]
    refine asks (c := freshCh st n 1) (r := { c with names := ns } :: r) ⟨h.b, h.d, h.c, h.t, h.roots, h.id, h.sent, h.reply, ⟨⟨rfl, rfl, rfl, h.roots, rfl, fun _ => rfl⟩, ⟨hpc.name, hpc.kind, hpc.zone, hpc.servers, hpc.sent, fun _ => rfl⟩, hps⟩, fun x hx => ?_⟩ rfl hok2 hbz ?_ ?_ hsn hkp
    ·simp only [List.tail_cons, List.mem_cons] at hx
     rcases hx with rfl | hx
     ·exact hsv c (by simp)
     ·exact hsv x (List.mem_cons_of_mem _ hx)
    ·have := hok.t0; rw [h.t] at this; show ((0 : Nat) : Int) < st.t; omega
    ·have := hok.r0
     rw [h.roots] at this
     intro e
     have : st.roots = [] := e
     simp [this] at *
theorem sends {s : QSt} {st : RSt} {c : Ch} {r : List Ch} (h : Core s st (c :: r)) (hp : s.ph = .send) (hok : QOk s) (hbz : st.busy = true) (hne : c.servers ≠ []) (hsn : ∃ q, st.asked.qs = [q] ∧ st.seen = q.name :: st.kept.map Rc.data) (hkp : (st.kept.length : Int) ≤ st.c) : Runs s (sendP st r.reverse c) := by
 unfold sendP
 by_cases ht : (c.sent : Int) < st.t
 ·rw [if_pos ht]
  exact asks h hp hok hbz ht hne hsn hkp
 ·rw [if_neg ht, List.reverse_reverse]
  obtain ⟨p, ps, ech, hpc, hps⟩ := h.chs.snoc
  have hpt := (hok.chs p (by rw [ech]; simp)).sent
  have h1 : (p.sent : Int) = s.t := by rw [hpc.sent, h.t] at hpt ⊢; omega
  have e : stepQ s = ({ s with ph := .fail }, noOut) := by
   unfold stepQ sendQ
   rw [hp, ech]
   simp [h1]
  have hokf := stepQ_ok hok (by rw [hp]; simp)
  refine Runs.step (by rw [e]; rfl) ?_
  rw [e] at hokf ⊢
  unfold withoutP
  cases r with
  | nil => exact failing (c := c) h _
  | cons a r' =>
   rw [if_neg (by simp)]
   obtain ⟨pa, ps', e2, ha, hps'⟩ := hps.snoc
   subst e2
   have e3 : endQ { s with ph := .fail } 2 [] = { s with ph := .seek, ch := { pa with servers := [] } :: ps' } := by
    unfold endQ
    rw [show ({ s with ph := .fail } : QSt).ch = s.ch from rfl, ech]
    rfl
   have hok2 := stepQ_ok hokf (by simp)
   have e4 : (stepQ { s with ph := .fail }).1 = endQ { s with ph := .fail } 2 [] := rfl
   refine Runs.step rfl ?_
   rw [e4] at hok2 ⊢
   rw [e3] at hok2 ⊢
   have ha0 := h.wait a (by simp)
   exact seeks st hbz hsn hkp (a :: r') _ ⟨h.b, h.d, h.c, h.t, h.roots, h.id, h.sent, h.reply, ⟨⟨ha.name, ha.kind, ha.zone, by show ([] : List Int) = a.servers; rw [ha0], ha.sent, ha.names⟩, hps'⟩, fun x hx => h.wait x (by simp at hx; simp [hx])⟩ rfl hok2 (fun x hx => h.wait x (by simpa using hx))
theorem small_any (c : Nat) (hc : c < 256) (w : World) :
  Calls Tryz.prog 152 #[.int .u8 c] w fun e w' => e = .returned (.int .u8 (low c)) ∧ w' = w := by
 by_cases h1 : 65 ≤ c
 ·by_cases h2 : c ≤ 90
  ·have HL : Hid (((low c : Nat) : Int) = (c : Int) + 32) := by unfold Hid low; rw [if_pos ⟨h1, h2⟩]; omega
   go_enter Tryz.func152, Tryz.ntmps152
   go_wp2
   go_ret
   exact ⟨ret_int (by rw [HL.out]; omega), rfl⟩
  ·have HL : Hid (low c = c) := by unfold Hid low; rw [if_neg (by omega)]
   go_enter Tryz.func152, Tryz.ntmps152
   go_wp2
   go_ret
   exact ⟨ret_int (by rw [HL.out]), rfl⟩
 ·have HL : Hid (low c = c) := by unfold Hid low; rw [if_neg (by omega)]
  go_enter Tryz.func152, Tryz.ntmps152
  go_wp2
  go_ret
  exact ⟨ret_int (by rw [HL.out]), rfl⟩
theorem q_same (a b : ByteArray) (ha : a.size ≤ 2097152) (w : World) :
  Calls Tryz.prog 117 #[.string a, .string b] w fun e w' => e = .returned (.bool (sameB a b)) ∧ ∃ n, w' = w.drewN n := by
 by_cases hsz : a.size = b.size
 ·have HT : Hid ((∀ i, i < a.size → low (at8 a i) = low (at8 b i)) → sameB a b = true) := fun h => sameB_true hsz h
  go_enter Tryz.func117, Tryz.ntmps117
  go_wp2_with fail
  go_loopw [13] (fun i wr => ∃ k : Nat, i = .int .i64 k ∧ k ≤ a.size ∧ Hid (∃ n, wr = w.drewN n) ∧ Hid (∀ i, i < k → low (at8 a i) = low (at8 b i))) (fun i _ => a.size - (intOf i).toNat)
  case atStart => exact ⟨0, rfl, Nat.zero_le _, ⟨0, rfl⟩, fun i hi => by omega⟩
  case round =>
   obtain ⟨k, rfl, hk, HW, HE⟩ := hrel
   by_cases hlt : k < a.size
   ·have hidx := idx a k hlt
    have hidx2 := idx b k (by omega)
    have l1 := at8_lt a k
    have l2 := at8_lt b k
    have hltb : k < b.size := by omega
    go_wp2_with fail
    go_quiet ((go_at_call 152; exact Calls.quiet_of_same (small_any _ (by omega) _)))
    by_cases he : low (at8 a k) = low (at8 b k)
    ·have HE2 := hide he
     go_wp2_with fail
     refine ⟨⟨k + 1, by go_num, by omega, ?_, fun i hi => ?_⟩, by simp [intOf]; omega⟩
     ·obtain ⟨n, hn⟩ := HW.out
      exact ⟨n + nq, by rw [hn, World.drewN_drewN]⟩
     ·by_cases hik : i = k
      ·rw [hik]; exact HE2.out
      ·exact HE.out i (by omega)
    ·have HF : Hid (sameB a b = false) := sameB_at hlt he
     have hb9 : ((low (at8 a k) : Int) != (low (at8 b k) : Int)) = true := by simp; omega
     go_wp2_with fail
     go_ret
     obtain ⟨n, hn⟩ := HW.out
     exact ⟨ret_bool HF.out.symm, n + nq, by rw [hn, World.drewN_drewN]⟩
   ·go_wp2_with fail
    go_ret
    exact ⟨ret_bool (HT.out (fun i hi => HE.out i (by omega))).symm, HW.out⟩
 ·have HF : Hid (sameB a b = false) := sameB_size hsz
  go_enter Tryz.func117, Tryz.ntmps117
  go_wp2_with fail
  go_ret
  exact ⟨ret_bool HF.out.symm, 0, rfl⟩
theorem from_size (s : ByteArray) (i : Nat) : (from_ s i).size = s.size - i := by
 unfold from_
 rw [ByteArray.size_extract]
 omega
theorem liesN_short (name zone : ByteArray) : ∀ n i, name.size - i < zone.size → liesN name zone n i = false
 | 0, _, _ => rfl
 | n + 1, i, h => by
  unfold liesN
  rw [sameB_size (by rw [from_size]; omega), liesN_short name zone n _ (by omega)]
  simp
theorem liesN_end {name zone : ByteArray} {i : Nat} (h : NameAt name i) (hs : name.size - i ≤ zone.size) : liesN name zone name.size i = sameB (from_ name i) zone := by
 rw [liesN_step h, liesN_short name zone _ _ (by have := h.lt; omega)]
 simp
theorem liesN_next {name zone : ByteArray} {i : Nat} (h : NameAt name i) (h0 : at8 name i ≠ 0) (hs : zone.size < name.size - i) : liesN name zone name.size i = liesN name zone name.size (i + 1 + at8 name i) := by
 rw [liesN_step h, sameB_size (by rw [from_size]; omega)]
 simp [h0]
theorem from_from (s : ByteArray) (i k : Nat) (h : i < s.size) : (from_ s i).extract k (from_ s i).size = from_ s (i + k) := by
 rw [from_size]
 unfold from_
 rw [ByteArray.extract_extract]
 congr 1
 omega
theorem from_at (s : ByteArray) (i : Nat) (h : i < s.size) : at8 (from_ s i) 0 = at8 s i := by
 unfold at8 from_
 rw [ByteArray.data_extract]
 simp only [Array.getD, Array.size_extract]
 have h3 : i < s.size := h
 simp [show 0 < s.size - i by omega, h3]
theorem nameAt_last {s : ByteArray} {i : Nat} (h : NameAt s i) (h0 : at8 s i = 0) : i + 1 = s.size := by
 have := behind_stop s i (by omega)
 have h2 := h.last
 rw [this] at h2
 exact h2
theorem q_liesIn (name zone : ByteArray) (hn : nameB name = true) (hz : nameB zone = true) (w : World) :
  Calls Tryz.prog 155 #[.string name, .string zone] w fun e w' => e = .returned (.bool (liesB name zone)) ∧ ∃ n, w' = w.drewN n := by
 have h0 := nameB_at hn
 have hs := (nameB_size hn)
 have hzs := (nameB_size hz)
 have HL0 : Hid (liesB name zone = liesN name zone name.size 0) := by
  unfold Hid liesB
  exact liesN_enough name zone _ _ 0 h0 (by omega) (by omega)
 have HE0 : Hid (name = from_ name 0) := by
  unfold Hid from_
  rw [ByteArray.extract_zero_size]
 have HN0 := hide h0
 clear h0
 go_enter Tryz.func155, Tryz.ntmps155
 go_wp2_with fail
 go_loopw [0] (fun v wr => ∃ k : Nat, v = .string (from_ name k) ∧ k < name.size ∧ Hid (NameAt name k) ∧ wr = w ∧ Hid (liesB name zone = liesN name zone name.size k)) (fun v _ => match v with | .string s => s.size | _ => 0)
 case atStart => exact ⟨0, by rw [← HE0.out], by omega, HN0.out, rfl, HL0.out⟩
 case round =>
  obtain ⟨k, rfl, hk, HN, hwr, HL⟩ := hrel
  subst hwr
  have hfs := from_size name k
  have l1 := at8_lt name k
  by_cases hgt : zone.size < name.size - k
  ·have h0 : at8 name k ≠ 0 := fun e => by have := nameAt_last HN.out e; omega
   obtain ⟨hnx, h63⟩ := HN.out.next h0
   have HNX := hide hnx
   have hnl := hnx.lt
   have HLX : Hid (liesB name zone = liesN name zone name.size (k + 1 + at8 name k)) := HL.out.trans (liesN_next HN.out h0 hgt)
   have hidx : ∀ W, (Instr.index 9 (.string (from_ name k)) (.int .i64 0)).run Tryz.prog W = .ok (.int .u8 (at8 name k)) W := fun W => by
    have := idx (from_ name k) 0 (by omega) W
    rw [from_at name k hk] at this
    exact this
   have hfx := from_from name k (1 + at8 name k) hk
   rw [show k + (1 + at8 name k) = k + 1 + at8 name k by omega] at hfx
   have HFX := hide hfx
   have hszx := from_size name (k + 1 + at8 name k)
   clear hnx hfx
   generalize hfn : from_ name k = fn at *
   go_wp2_with fail
   have hx : fn.extract (1 + at8 name k) (name.size - k) = from_ name (k + 1 + at8 name k) := by rw [← hfs]; exact HFX.out
   rw [hx]
   refine ⟨⟨k + 1 + at8 name k, rfl, hnl, HNX.out, trivial, HLX.out⟩, ?_⟩
   show (from_ name (k + 1 + at8 name k)).size < fn.size
   omega
  ·have HLX : Hid (liesB name zone = sameB (from_ name k) zone) := HL.out.trans (liesN_end HN.out (by omega))
   have hle : (from_ name k).size ≤ zone.size := by omega
   go_wp2_with fail
   refine (q_same (from_ name k) zone (by omega) _).mono ?_
   rintro e w1 ⟨rfl, n1, hw1⟩
   go_wp2_with fail
   go_ret
   exact ⟨ret_bool HLX.out.symm, n1, rfl⟩
theorem rows_far {w : World} {e e' : TypeId} {sz sz' : Nat} {v v' : Value} {n n' : Nat} {x x' : List Value} (h : w.ownsRow 0 e sz v n x) (h' : w.ownsRow 0 e' sz' v' n' x') (hne : e ≠ e') {k : Nat} (hk : v.ownBlock = some k) (hk' : v'.ownBlock = some k) : False := by
 rcases h.2 with ⟨rfl, _⟩ | ⟨g, cap, cur, rfl, _, h5, _⟩
 ·cases hk
 ·cases hk
  rcases h'.2 with ⟨rfl, _⟩ | ⟨g', cap', cur', rfl, _, h5', _⟩
  ·cases hk'
  ·cases hk'
   rw [h5] at h5'
   injection h5' with h5'
   injection h5' with _ h5'
   exact hne h5'
theorem own_same_at {w w' : World} {e : TypeId} {sz : Nat} {v : Value} {n : Nat} {x : List Value} (h : w.ownsRow 0 e sz v n x) (hk : ∀ k, v.ownBlock = some k → w'.heap[k]? = w.heap[k]?) : w'.ownsRow 0 e sz v n x := by
 refine ⟨h.1, ?_⟩
 rcases h.2 with h2 | ⟨g, cap, cur, rfl, h4, h5, r⟩
 ·exact .inl h2
 ·exact .inr ⟨g, cap, cur, rfl, h4, (hk g rfl).trans h5, r⟩
theorem RefAt.pushK {w w' : World} {rb : Nat} {st : RSt} {V : RV} {cs : List ChV} (h : RefAt w rb st V cs) {v' : Value} {n : Nat} {xs : List Value} (g : Grew 69 5 w w' V.vK v' n xs) (x : Rc) (hn : n = (st.kept ++ [x]).length) (hxs : xs = ((st.kept ++ [x]).map Rc.cells).flatten) :
  RefAt (w'.setCell ⟨rb, 19, none⟩ v') rb { st with kept := st.kept ++ [x] } { V with vK := v' } cs ∧ Fr w (w'.setCell ⟨rb, 19, none⟩ v') (V.owns cs rb) (RV.owns { V with vK := v' } cs rb) := by
 have hrb : rb < w.heap.size := heap_lt h.box
 have hg := g.grown
 have n1 : V.vK.ownBlock ≠ some rb := own_type_ne h.kept h.box (by decide)
 have hbox := (g.keeps hrb n1).1.trans h.box
 have nv : v'.ownBlock ≠ some rb := (g.keeps hrb n1).2.1
 have hz : (w'.setCell ⟨rb, 19, none⟩ v').heap.size = w'.heap.size := by simp [World.setCell]
 have hsz : w.heap.size ≤ (w'.setCell ⟨rb, 19, none⟩ v').heap.size := by rw [hz]; exact hg.size
 have keep : ∀ k, k < w.heap.size → k ≠ rb → V.vK.ownBlock ≠ some k → (w'.setCell ⟨rb, 19, none⟩ v').heap[k]? = w.heap[k]? := fun k hk n1 n2 => (Below.heap_setCell w' ⟨rb, 19, none⟩ v' k n1).trans (hg.block k hk (fun e => n2 e.symm))
 have hkeep : ∀ k, k < w.heap.size → ¬ V.writes rb k → (w'.setCell ⟨rb, 19, none⟩ v').heap[k]? = w.heap[k]? := fun k hk hn => keep k hk (fun e => hn (.inl e)) (fun e => hn (.inr (.inl e)))
 obtain ⟨h1, h2, h3⟩ := h.reads_keep hsz hkeep
 have hv : ∀ k, v'.ownBlock = some k → V.vK.ownBlock = some k ∨ w.heap.size ≤ k := fun k hk => by
  rcases g.loc with e | ⟨j, e, hj⟩
  ·exact .inl (e ▸ hk)
  ·rw [hk] at e
   cases e
   exact .inr hj
 have hwr : ∀ k, RV.writes { V with vK := v' } rb k → V.writes rb k ∨ w.heap.size ≤ k ∧ k < w'.heap.size := by
  rintro k (e | e | e | e)
  ·exact .inl (.inl e)
  ·rcases hv k e with e1 | e1
   ·exact .inl (.inr (.inl e1))
   ·exact .inr ⟨e1, (g.own.lt k e).2⟩
  ·exact .inl (.inr (.inr (.inl e)))
  ·exact .inl (.inr (.inr (.inr e)))
 have own' := g.own
 rw [hn, hxs] at own'
 have hrl : ∀ v ∈ V.reads cs, ∀ k, v.ownBlock = some k → k < w.heap.size := fun v hv k hk => h.lt k (.inr ⟨v, hv, hk⟩)
 refine ⟨⟨by rw [heap_setCell_eq hbox]; rfl, h.chs, h1, h2, own_same_at own' (fun k hk => Below.heap_setCell w' ⟨rb, 19, none⟩ v' k (show k ≠ rb from fun e => nv (by rw [← e]; exact hk))), own_same_at h.seen (fun k hk => keep k (h.lt k (.inl (.inr (.inr (.inl hk))))) (fun e => own_type_ne h.seen h.box (by decide) (by rw [← e]; exact hk)) (fun e => rows_far h.kept h.seen (by decide) e hk)), own_same_at h.row (fun k hk => keep k (h.lt k (.inl (.inr (.inr (.inr hk))))) (fun e => own_type_ne h.row h.box (by decide) (by rw [← e]; exact hk)) (fun e => rows_far h.kept h.row (by decide) e hk)), h3, fun v hv k hk hwk => ?_, fun k hk => ?_, h.caps⟩, ⟨hg.os, hg.tape, hg.output, hsz, fun k hk ho => hkeep k hk (fun e => ho (.inl e)), fun k hk => ?_⟩⟩
 ·rcases hwr k hwk with e | e
  ·exact h.free v hv k hk e
  ·have := hrl v hv k hk; omega
 ·rw [hz]
  have := hg.size
  rcases hk with hk | ⟨v, hv, hk⟩
  ·rcases hwr k hk with e | e
   ·have := h.lt k (.inl e); omega
   ·exact e.2
  ·have := hrl v hv k hk; omega
 ·rcases hk with hk | ⟨v, hv, hk⟩
  ·rcases hwr k hk with e | e
   ·exact .inl (.inl e)
   ·exact .inr e.1
  ·exact .inl (.inr ⟨v, hv, hk⟩)
theorem RefAt.pushS {w w' : World} {rb : Nat} {st : RSt} {V : RV} {cs : List ChV} (h : RefAt w rb st V cs) {v' : Value} {n : Nat} {xs : List Value} (g : Grew 9 1 w w' V.vS v' n xs) (x : ByteArray) (hn : n = (st.seen ++ [x]).length) (hxs : xs = strV (st.seen ++ [x])) :
  RefAt (w'.setCell ⟨rb, 20, none⟩ v') rb { st with seen := st.seen ++ [x] } { V with vS := v' } cs ∧ Fr w (w'.setCell ⟨rb, 20, none⟩ v') (V.owns cs rb) (RV.owns { V with vS := v' } cs rb) := by
 have hrb : rb < w.heap.size := heap_lt h.box
 have hg := g.grown
 have n1 : V.vS.ownBlock ≠ some rb := own_type_ne h.seen h.box (by decide)
 have hbox := (g.keeps hrb n1).1.trans h.box
 have nv : v'.ownBlock ≠ some rb := (g.keeps hrb n1).2.1
 have hz : (w'.setCell ⟨rb, 20, none⟩ v').heap.size = w'.heap.size := by simp [World.setCell]
 have hsz : w.heap.size ≤ (w'.setCell ⟨rb, 20, none⟩ v').heap.size := by rw [hz]; exact hg.size
 have keep : ∀ k, k < w.heap.size → k ≠ rb → V.vS.ownBlock ≠ some k → (w'.setCell ⟨rb, 20, none⟩ v').heap[k]? = w.heap[k]? := fun k hk n1 n2 => (Below.heap_setCell w' ⟨rb, 20, none⟩ v' k n1).trans (hg.block k hk (fun e => n2 e.symm))
 have hkeep : ∀ k, k < w.heap.size → ¬ V.writes rb k → (w'.setCell ⟨rb, 20, none⟩ v').heap[k]? = w.heap[k]? := fun k hk hn => keep k hk (fun e => hn (.inl e)) (fun e => hn (.inr (.inr (.inl e))))
 obtain ⟨h1, h2, h3⟩ := h.reads_keep hsz hkeep
 have hv : ∀ k, v'.ownBlock = some k → V.vS.ownBlock = some k ∨ w.heap.size ≤ k := fun k hk => by
  rcases g.loc with e | ⟨j, e, hj⟩
  ·exact .inl (e ▸ hk)
  ·rw [hk] at e
   cases e
   exact .inr hj
 have hwr : ∀ k, RV.writes { V with vS := v' } rb k → V.writes rb k ∨ w.heap.size ≤ k ∧ k < w'.heap.size := by
  rintro k (e | e | e | e)
  ·exact .inl (.inl e)
  ·exact .inl (.inr (.inl e))
  ·rcases hv k e with e1 | e1
   ·exact .inl (.inr (.inr (.inl e1)))
   ·exact .inr ⟨e1, (g.own.lt k e).2⟩
  ·exact .inl (.inr (.inr (.inr e)))
 have own' := g.own
 rw [hn, hxs] at own'
 have hrl : ∀ v ∈ V.reads cs, ∀ k, v.ownBlock = some k → k < w.heap.size := fun v hv k hk => h.lt k (.inr ⟨v, hv, hk⟩)
 refine ⟨⟨by rw [heap_setCell_eq hbox]; rfl, h.chs, h1, h2, own_same_at h.kept (fun k hk => keep k (h.lt k (.inl (.inr (.inl hk)))) (fun e => own_type_ne h.kept h.box (by decide) (by rw [← e]; exact hk)) (fun e => rows_far h.seen h.kept (by decide) e hk)), own_same_at own' (fun k hk => Below.heap_setCell w' ⟨rb, 20, none⟩ v' k (show k ≠ rb from fun e => nv (by rw [← e]; exact hk))), own_same_at h.row (fun k hk => keep k (h.lt k (.inl (.inr (.inr (.inr hk))))) (fun e => own_type_ne h.row h.box (by decide) (by rw [← e]; exact hk)) (fun e => rows_far h.seen h.row (by decide) e hk)), h3, fun v hv k hk hwk => ?_, fun k hk => ?_, h.caps⟩, ⟨hg.os, hg.tape, hg.output, hsz, fun k hk ho => hkeep k hk (fun e => ho (.inl e)), fun k hk => ?_⟩⟩
 ·rcases hwr k hwk with e | e
  ·exact h.free v hv k hk e
  ·have := hrl v hv k hk; omega
 ·rw [hz]
  have := hg.size
  rcases hk with hk | ⟨v, hv, hk⟩
  ·rcases hwr k hk with e | e
   ·have := h.lt k (.inl e); omega
   ·exact e.2
  ·have := hrl v hv k hk; omega
 ·rcases hk with hk | ⟨v, hv, hk⟩
  ·rcases hwr k hk with e | e
   ·exact .inl (.inl e)
   ·exact .inr e.1
  ·exact .inl (.inr ⟨v, hv, hk⟩)
end Go.Proofs.YtafoepfhepdcoaaGreat
