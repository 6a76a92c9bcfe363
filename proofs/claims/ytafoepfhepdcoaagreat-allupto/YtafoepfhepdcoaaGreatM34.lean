import Derived.Test.YtafoepfhepdcoaaGreatM25
import Derived.Test.YtafoepfhepdcoaaGreatM27
import Derived.Test.YtafoepfhepdcoaaGreatM31
import Derived.Test.YtafoepfhepdcoaaGreatM33
set_option maxRecDepth 100000
set_option maxHeartbeats 8000000
namespace Go.Proofs.YtafoepfhepdcoaaGreat
open Go.RowKit Go.Trawl
structure ChRel (p c : Ch) : Prop where
 name : p.name = c.name
 kind : p.kind = c.kind
 zone : p.zone = c.zone
 servers : p.servers = c.servers
 sent : p.sent = c.sent
 names : c.servers = [] → p.names = c.names
def Chs : List Ch → List Ch → Prop
 | [], [] => True
 | p :: ps, c :: cs => ChRel p c ∧ Chs ps cs
 | _, _ => False
theorem Chs.len : ∀ {ps cs : List Ch}, Chs ps cs → ps.length = cs.length
 | [], [], _ => rfl
 | _ :: _, _ :: _, h => by simp [Chs.len h.2]
theorem Chs.cons {p : Ch} {ps cs : List Ch} (h : Chs (p :: ps) cs) : ∃ c r, cs = c :: r ∧ ChRel p c ∧ Chs ps r := by
 cases cs with
 | nil => exact h.elim
 | cons c r => exact ⟨c, r, rfl, h.1, h.2⟩
theorem Chs.snoc {c : Ch} {ps cs : List Ch} (h : Chs ps (c :: cs)) : ∃ p r, ps = p :: r ∧ ChRel p c ∧ Chs r cs := by
 cases ps with
 | nil => exact h.elim
 | cons p r => exact ⟨p, r, rfl, h.1, h.2⟩
def replyOf (st : RSt) : Msg := ⟨st.asked.id, true, 0, false, false, st.asked.wanted, true, 0, st.asked.qs, st.kept, [], []⟩
structure Core (s : QSt) (st : RSt) (l : List Ch) : Prop where
 b : s.b = st.b
 d : s.d = st.d
 c : s.c = st.c
 t : s.t = st.t
 roots : s.roots = st.roots
 id : s.id = st.id
 sent : s.sent = st.spent
 reply : s.reply = replyOf st
 chs : Chs s.ch l
 wait : ∀ c ∈ l.tail, c.servers = []
structure Sim (s : QSt) (st : RSt) : Prop where
 b : s.b = st.b
 d : s.d = st.d
 c : s.c = st.c
 t : s.t = st.t
 roots : s.roots = st.roots
 id : s.id = st.id
 idle : st.busy = false → s.ph = .idle ∧ s.ch = [] ∧ s.sent = 0 ∧ s.reply = zMsg
 busy : st.busy = true → s.ph = .send ∧ Core s st st.l.reverse
 last : st.busy = true → ∃ c r, st.l.reverse = c :: r ∧ c.servers ≠ [] ∧ 1 ≤ c.sent ∧ st.to = c.servers.getD ((c.sent - 1) % c.servers.length) 0
 seen : st.busy = true → ∃ q, st.asked.qs = [q] ∧ st.seen = q.name :: st.kept.map Rc.data
 kept : st.busy = true → (st.kept.length : Int) ≤ st.c
theorem replyL_resp (m m' : Msg) (h : asReply m = asReply m') : replyL m = replyL m' := by
 have h2 : asCut m = asCut m' := by
  cases m
  cases m'
  simp only [asReply, Msg.mk.injEq] at h
  simp only [asCut, Msg.mk.injEq]
  simp [h]
 unfold replyL
 rw [h, h2]
structure Both (p : QSt × QOut) (r : RSt × Value) : Prop where
 says : r.2 = stepV p.2.1 p.2.2.1 (str p.2.2.2)
 sim : Sim p.1 r.1
def Runs (s : QSt) (r : RSt × Value) : Prop := ∃ n p, goes n s = some p ∧ Both p r
theorem Runs.step {s : QSt} {r : RSt × Value} (h0 : (stepQ s).2.1 = 0) (h : Runs (stepQ s).1 r) : Runs s r := by
 obtain ⟨n, p, hg, hb⟩ := h
 refine ⟨n + 1, p, ?_, hb⟩
 unfold goes
 rw [if_pos h0]
 exact hg
theorem Runs.last {s : QSt} {r : RSt × Value} (h0 : (stepQ s).2.1 ≠ 0) (h : Both (stepQ s) r) : Runs s r := by
 refine ⟨1, stepQ s, ?_, h⟩
 unfold goes
 rw [if_neg h0]
theorem idle_sim {s : QSt} {st : RSt} (b : s.b = st.b) (d : s.d = st.d) (c : s.c = st.c) (t : s.t = st.t) (roots : s.roots = st.roots) (id : s.id = st.id) (hb : st.busy = false) : Sim (idleQ s) st :=
 ⟨b, d, c, t, roots, id, fun _ => ⟨rfl, rfl, rfl, rfl⟩, (fun e => by rw [hb] at e; cases e), (fun e => by rw [hb] at e; cases e), (fun e => by rw [hb] at e; cases e), fun e => by rw [hb] at e; cases e⟩
theorem settled {s : QSt} {st : RSt} {l : List Ch} (h : Core s st l) (code : Int) (x : List Rc) : Runs (settleQ s code x) ({ st with busy := false }, stepV 2 0 (str (replyL (doneM st code x)))) := by
 refine Runs.last (by show (2 : Int) ≠ 0; decide) ⟨?_, idle_sim h.b h.d h.c h.t h.roots h.id rfl⟩
 have e : replyL (doneM st code x) = replyL (settleQ s code x).reply := by
  refine replyL_resp _ _ ?_
  unfold settleQ doneM asReply
  simp [h.reply, replyOf]
 show stepV 2 0 (str (replyL (doneM st code x))) = stepV 2 0 (str (replyL (settleQ s code x).reply))
 rw [e]
theorem fails {s : QSt} {st : RSt} {l : List Ch} (h : Core s st l) (l' : List Ch) : Runs { s with ph := .failAll } (failP { st with l := l' }) := by
 refine Runs.step rfl ?_
 have := settled (s := { s with ph := .failAll }) (st := { st with l := l' }) (l := l) ⟨h.b, h.d, h.c, h.t, h.roots, h.id, h.sent, h.reply, h.chs, h.wait⟩ 2 []
 exact this
theorem failing {s : QSt} {st : RSt} {c : Ch} (h : Core s st [c]) (l' : List Ch) : Runs { s with ph := .fail } (failP { st with l := l' }) := by
 refine Runs.step rfl ?_
 have e : endQ { s with ph := .fail } 2 [] = settleQ { s with ph := .fail } 2 [] := by
  unfold endQ
  obtain ⟨p, r, e, _, hr⟩ := h.chs.snoc
  have : r = [] := by
   cases r with
   | nil => rfl
   | cons a b => exact hr.elim
  subst this
  rw [show ({ s with ph := .fail } : QSt).ch = s.ch from rfl, e]
 show Runs (endQ { s with ph := .fail } 2 []) _
 rw [e]
 exact settled (s := { s with ph := .fail }) (st := { st with l := l' }) (l := [c]) ⟨h.b, h.d, h.c, h.t, h.roots, h.id, h.sent, h.reply, h.chs, h.wait⟩ 2 []
theorem asks {s : QSt} {st : RSt} {c : Ch} {r : List Ch} (h : Core s st (c :: r)) (hp : s.ph = .send) (hok : QOk s) (hbz : st.busy = true) (ht : (c.sent : Int) < st.t) (hne : c.servers ≠ []) (hsn : ∃ q, st.asked.qs = [q] ∧ st.seen = q.name :: st.kept.map Rc.data) (hkp : (st.kept.length : Int) ≤ st.c) : Runs s (askP st r.reverse c) := by
 obtain ⟨p, ps, ech, hpc, hps⟩ := h.chs.snoc
 have h1 : ¬ (p.sent : Int) = s.t := by rw [hpc.sent, h.t]; omega
 unfold askP
 by_cases hb : st.b ≤ (st.spent : Int)
 ·rw [if_pos hb]
  have h2 : (s.sent : Int) = s.b := by have := hok.sent; rw [h.sent, h.b] at this ⊢; omega
  have e : stepQ s = ({ s with ph := .failAll }, noOut) := by
   unfold stepQ sendQ
   rw [hp, ech]
   simp [h1, h2]
  refine Runs.step (by rw [e]; rfl) ?_
  rw [e]
  exact fails h _
 ·rw [if_neg hb]
  have h2 : ¬ (s.sent : Int) = s.b := by rw [h.sent, h.b]; omega
  have e : stepQ s = ({ s with ch := { p with sent := p.sent + 1 } :: ps, sent := s.sent + 1, id := nextId s.id }, (1, toOf p, packL (askM (nextId s.id) p))) := by
   unfold stepQ sendQ
   rw [hp, ech]
   simp [h1, h2]
  refine Runs.last (by rw [e]; show (1 : Int) ≠ 0; decide) ?_
  rw [e]
  have eto : toOf p = toOf c := by unfold toOf; rw [hpc.servers, hpc.sent]
  have em : askM (nextId s.id) p = askM (nextId st.id) c := by unfold askM; rw [hpc.name, hpc.kind, h.id]
  have hl : (askSt st r.reverse c).l.reverse = { c with sent := c.sent + 1 } :: r := by simp [askSt]
  refine ⟨?_, ⟨h.b, h.d, h.c, h.t, h.roots, ?_, ?_, fun _ => ⟨hp, ?_⟩, fun _ => ⟨{ c with sent := c.sent + 1 }, r, hl, hne, by simp, ?_⟩, fun _ => hsn, fun _ => hkp⟩⟩
  ·show askStep st c = stepV 1 (toOf p) (str (packL (askM (nextId s.id) p)))
   rw [eto, em]
   rfl
  ·show nextId s.id = nextId st.id
   rw [h.id]
  ·intro e
   have : st.busy = false := e
   rw [hbz] at this
   cases this
  ·rw [hl]
   refine ⟨h.b, h.d, h.c, h.t, h.roots, by show nextId s.id = nextId st.id; rw [h.id], by show s.sent + 1 = st.spent + 1; rw [h.sent], h.reply, ⟨⟨hpc.name, hpc.kind, hpc.zone, hpc.servers, by show p.sent + 1 = c.sent + 1; rw [hpc.sent], hpc.names⟩, hps⟩, h.wait⟩
  ·show toOf c = _
   simp [toOf]
theorem seeks (st : RSt) (hbz : st.busy = true) (hsn : ∃ q, st.asked.qs = [q] ∧ st.seen = q.name :: st.kept.map Rc.data) (hkp : (st.kept.length : Int) ≤ st.c) :
  ∀ (l : List Ch) (s : QSt), Core s st l → s.ph = .seek → QOk s → (∀ c ∈ l, c.servers = []) → Runs s (lookP st l)
 | [], s, h, hp, hok, _ => absurd (by
   have := h.chs.len
   exact List.eq_nil_of_length_eq_zero this) (hok.busy (by rw [hp]; simp)).1
 | c :: r, s, h, hp, hok, hsv => by
  obtain ⟨p, ps, ech, hpc, hps⟩ := h.chs.snoc
  have hs0 : p.servers = [] := by rw [hpc.servers]; exact hsv c (by simp)
  have hnm : p.names = c.names := hpc.names (hsv c (by simp))
  have hlen := hps.len
  have hln := hok.len
  rw [ech] at hln
  simp only [List.length_cons] at hln
  have hokf : QOk { s with ph := .fail } := { hok with busy := fun _ => hok.busy (by rw [hp]; simp), an := fun _ => hok.an (by rw [hp]; simp), srv := fun e => by cases e }
  have hf : Runs { s with ph := .fail } (if r = [] then failP { st with l := [c] } else lookP st r) := by
   cases r with
   | nil => exact failing (c := c) h _
   | cons a r' =>
    rw [if_neg (by simp)]
    obtain ⟨pa, ps', e2, ha, hps'⟩ := hps.snoc
    subst e2
    have e3 : endQ { s with ph := .fail } 2 [] = { s with ph := .seek, ch := { pa with servers := [] } :: ps' } := by
     unfold endQ
     rw [show ({ s with ph := .fail } : QSt).ch = s.ch from rfl, ech]
     rfl
    have hok2 := stepQ_ok hokf (by simp)
    have e4 : (stepQ { s with ph := .fail }).1 = endQ { s with ph := .fail } 2 [] := rfl
    refine Runs.step rfl ?_
    rw [e4] at hok2 ⊢
    rw [e3] at hok2 ⊢
    have ha0 := hsv a (by simp)
    exact seeks st hbz hsn hkp (a :: r') _ ⟨h.b, h.d, h.c, h.t, h.roots, h.id, h.sent, h.reply, ⟨⟨ha.name, ha.kind, ha.zone, by show ([] : List Int) = a.servers; rw [ha0], ha.sent, ha.names⟩, hps'⟩, fun x hx => hsv x (by simp at hx; simp [hx])⟩ rfl hok2 (fun x hx => hsv x (List.mem_cons_of_mem _ hx))
  unfold lookP
  cases hn : c.names with
  | nil =>
   have e : stepQ s = ({ s with ph := .fail }, noOut) := by
    unfold stepQ seekQ
    rw [hp, ech]
    simp [hs0, hnm, hn]
   refine Runs.step (by rw [e]; rfl) ?_
   rw [e]
   exact hf
  | cons n ns =>
   by_cases hd : st.d < (r.length : Int) + 1
   ·have hd' : ((ps.length : Nat) : Int) = s.d := by rw [h.d] at hln ⊢; omega
    have e : stepQ s = ({ s with ph := .fail }, noOut) := by
     unfold stepQ seekQ
     rw [hp, ech]
     simp [hs0, hnm, hn, hd']
    refine Runs.step (by rw [e]; rfl) ?_
    rw [e]
    simp only [if_pos hd]
    exact hf
   ·have hd' : ¬ ((ps.length : Nat) : Int) = s.d := by rw [h.d]; omega
    have e : stepQ s = (startQ s (newQ n 1) ({ p with names := ns } :: ps), noOut) := by
     unfold stepQ seekQ
     rw [hp, ech]
     simp [hs0, hnm, hn, hd']
    simp only [if_neg hd]
    refine Runs.step (by rw [e]; rfl) ?_
    have hok2 := stepQ_ok hok (by rw [hp]; simp)
    rw [e] at hok2 ⊢
    have hr : (r.reverse ++ [{ c with names := ns }]) = ({ c with names := ns } :: r).reverse := by simp
    rw [hr]
    refine asks (c := freshCh st n 1) (r := { c with names := ns } :: r) ⟨h.b, h.d, h.c, h.t, h.roots, h.id, h.sent, h.reply, ⟨⟨rfl, rfl, rfl, h.roots, rfl, fun _ => rfl⟩, ⟨hpc.name, hpc.kind, hpc.zone, hpc.servers, hpc.sent, fun _ => rfl⟩, hps⟩, fun x hx => ?_⟩ rfl hok2 hbz ?_ ?_ hsn hkp
    ·simp only [List.tail_cons, List.mem_cons] at hx
     rcases hx with rfl | hx
     ·exact hsv c (by simp)
     ·exact hsv x (List.mem_cons_of_mem _ hx)
    ·have := hok.t0; rw [h.t] at this; show ((0 : Nat) : Int) < st.t; omega
    ·have := hok.r0
     rw [h.roots] at this
     intro e
     have : st.roots = [] := e
     simp [this] at *
theorem sends {s : QSt} {st : RSt} {c : Ch} {r : List Ch} (h : Core s st (c :: r)) (hp : s.ph = .send) (hok : QOk s) (hbz : st.busy = true) (hne : c.servers ≠ []) (hsn : ∃ q, st.asked.qs = [q] ∧ st.seen = q.name :: st.kept.map Rc.data) (hkp : (st.kept.length : Int) ≤ st.c) : Runs s (sendP st r.reverse c) := by
 unfold sendP
 by_cases ht : (c.sent : Int) < st.t
 ·rw [if_pos ht]
  exact asks h hp hok hbz ht hne hsn hkp
 ·rw [if_neg ht, List.reverse_reverse]
  obtain ⟨p, ps, ech, hpc, hps⟩ := h.chs.snoc
  have hpt := (hok.chs p (by rw [ech]; simp)).sent
  have h1 : (p.sent : Int) = s.t := by rw [hpc.sent, h.t] at hpt ⊢; omega
  have e : stepQ s = ({ s with ph := .fail }, noOut) := by
   unfold stepQ sendQ
   rw [hp, ech]
   simp [h1]
  have hokf := stepQ_ok hok (by rw [hp]; simp)
  refine Runs.step (by rw [e]; rfl) ?_
  rw [e] at hokf ⊢
  unfold withoutP
  cases r with
  | nil => exact failing (c := c) h _
  | cons a r' =>
   rw [if_neg (by simp)]
   obtain ⟨pa, ps', e2, ha, hps'⟩ := hps.snoc
   subst e2
   have e3 : endQ { s with ph := .fail } 2 [] = { s with ph := .seek, ch := { pa with servers := [] } :: ps' } := by
    unfold endQ
    rw [show ({ s with ph := .fail } : QSt).ch = s.ch from rfl, ech]
    rfl
   have hok2 := stepQ_ok hokf (by simp)
   have e4 : (stepQ { s with ph := .fail }).1 = endQ { s with ph := .fail } 2 [] := rfl
   refine Runs.step rfl ?_
   rw [e4] at hok2 ⊢
   rw [e3] at hok2 ⊢
   have ha0 := h.wait a (by simp)
   exact seeks st hbz hsn hkp (a :: r') _ ⟨h.b, h.d, h.c, h.t, h.roots, h.id, h.sent, h.reply, ⟨⟨ha.name, ha.kind, ha.zone, by show ([] : List Int) = a.servers; rw [ha0], ha.sent, ha.names⟩, hps'⟩, fun x hx => h.wait x (by simp at hx; simp [hx])⟩ rfl hok2 (fun x hx => h.wait x (by simpa using hx))
theorem unM_none {s : ByteArray} (h : unpack s = none) : unE s = 1 := by
 unfold unE
 rw [h]
 rfl
theorem rAsk_any (w : World) (rb : Nat) (st : RSt) (V : RV) (cs : List ChV) (s : ByteArray) (h : RefAt w rb st V cs) (hok : StOk st) (hsm : s.size ≤ 2097152) :
  Calls Tryz.prog 53 #[.pointer (some ⟨rb, 0, none⟩), .string s] w (Answers w rb V cs (askS st s)) := by
 unfold askS
 cases hb : st.busy with
 | true => rw [if_pos rfl]; exact rAsk_busy w rb st V cs s h hb
 | false =>
  rw [if_neg (by simp)]
  by_cases hs : s.size < 12
  ·rw [if_pos hs]; exact rAsk_short w rb st V cs s h hb hs
  rw [if_neg hs]
  cases hu : unpack s with
  | none => exact rAsk_bad w rb st V cs s h hb hs hsm (.inl (unM_none hu))
  | some m =>
   dsimp only
   cases hr : m.resp with
   | true =>
    rw [if_pos rfl]
    exact rAsk_bad w rb st V cs s h hb hs hsm (.inr ⟨(unM_some hu).2, by rw [(unM_some hu).1]; exact hr⟩)
   | false =>
    rw [if_neg (by simp)]
    match hq : m.qs with
    | [] => exact rAsk_not0 w rb st V cs s m h hb hs hsm hu hr (by rw [hq]; simp)
    | [q] =>
     dsimp only
     by_cases hn : m.op ≠ 0 ∨ q.cls ≠ 1
     ·rw [if_pos hn]
      refine rAsk_not1 w rb st V cs s m q h hb hs hsm hu hr hq ?_
      by_cases h0 : m.op = 0
      ·rcases hn with h1 | h1
       ·exact absurd h0 h1
       ·exact .inr ⟨h0, h1⟩
      ·exact .inl h0
     ·rw [if_neg hn]
      have h0 : m.op = 0 := Classical.byContradiction fun e => hn (.inl e)
      have h1 : q.cls = 1 := Classical.byContradiction fun e => hn (.inr e)
      exact rAsk_go w rb st V cs s m q h hok hb hs hsm hu hr hq h0 h1
    | x :: y :: l => exact rAsk_not0 w rb st V cs s m h hb hs hsm hu hr (by rw [hq]; simp; omega)
theorem first_sends {st : RSt} (h : StOk st) (m : Msg) (q : Qn) : askP (beginSt st m q) [] (freshCh st q.name q.kind) = (askSt (beginSt st m q) [] (freshCh st q.name q.kind), askStep (beginSt st m q) (freshCh st q.name q.kind)) := by
 have := h.b0
 unfold askP
 exact if_neg (show ¬ st.b ≤ ((0 : Nat) : Int) by omega)
theorem neqF (fn : Fn) (x y : Array Value) (w : World) : (binOp .neq 145 (.func fn x y) .nilFunc).run Tryz.prog w = .ok (.bool true) w := by kernel_rfl
theorem neqN (w : World) : (binOp .neq 145 .nilFunc .nilFunc).run Tryz.prog w = .ok (.bool false) w := by kernel_rfl
theorem eqlF (fn : Fn) (x y : Array Value) (w : World) : (binOp .eql 145 (.func fn x y) .nilFunc).run Tryz.prog w = .ok (.bool false) w := by kernel_rfl
theorem eqlN (w : World) : (binOp .eql 145 .nilFunc .nilFunc).run Tryz.prog w = .ok (.bool true) w := by kernel_rfl
attribute [local go_sem] buildX0 buildX1 neqF neqN
theorem reply_ref (id code : Int) (qs : List Qn) : replyL (asReply (refM id code qs)) = replyL (refM id code qs) := replyL_resp _ _ rfl
theorem ask_cases (st : RSt) (s : ByteArray) (hok : StOk st) (hb : st.busy = false) (hs : ¬ s.size < 12) :
  ((unE s = 1 ∨ unE s = 0 ∧ (unM s).resp = true) ∧ askS st s = (st, stepV 2 0 (str (replyL (refM (n2 s 0) 1 []))), 0)) ∨
  (unE s = 0 ∧ (unM s).resp = false ∧ ¬ ((unM s).qs.length : Int) = 1 ∧ askS st s = (st, stepV 2 0 (str (replyL (refM (n2 s 0) 4 []))), 0)) ∨
  ∃ q, unE s = 0 ∧ (unM s).resp = false ∧ (unM s).qs = [q] ∧ NamedQ q ∧
   (((unM s).op ≠ 0 ∨ (unM s).op = 0 ∧ q.cls ≠ 1) ∧ askS st s = (st, stepV 2 0 (str (replyL (refM (n2 s 0) 4 [q]))), 0) ∨
   (unM s).op = 0 ∧ q.cls = 1 ∧ (unM s).id = n2 s 0 ∧ askS st s = (askSt (beginSt st (unM s) q) [] (freshCh st q.name q.kind), askStep (beginSt st (unM s) q) (freshCh st q.name q.kind), 0)) := by
 unfold askS
 rw [if_neg (by rw [hb]; simp), if_neg hs]
 cases hu : unpack s with
 | none => exact .inl ⟨.inl (unM_none hu), rfl⟩
 | some m =>
  obtain ⟨e1, e2⟩ := unM_some hu
  rw [e1, e2]
  have hid := unpack_id hu
  dsimp only
  cases hr : m.resp with
  | true => exact .inl ⟨.inr ⟨rfl, rfl⟩, by rw [if_pos rfl]⟩
  | false =>
   rw [if_neg (by simp)]
   have hn := (unpack_named hu).q
   match hq : m.qs with
   | [] => exact .inr (.inl ⟨rfl, rfl, by simp, by rw [hid]⟩)
   | x :: y :: l => exact .inr (.inl ⟨rfl, rfl, by simp; omega, by dsimp only; rw [hid]⟩)
   | [q] =>
    have hnq := hn q (by rw [hq]; simp)
    refine .inr (.inr ⟨q, rfl, rfl, rfl, hnq, ?_⟩)
    dsimp only
    by_cases hc : m.op ≠ 0 ∨ q.cls ≠ 1
    ·refine .inl ⟨?_, by rw [if_pos hc, hid]⟩
     by_cases h0 : m.op = 0
     ·rcases hc with h1 | h1
      ·exact absurd h0 h1
      ·exact .inr ⟨h0, h1⟩
     ·exact .inl h0
    ·refine .inr ⟨Classical.byContradiction fun e => hc (.inl e), Classical.byContradiction fun e => hc (.inr e), hid, ?_⟩
     rw [if_neg hc, first_sends hok]
structure Told (w w' : World) (sb : Nat) (O : Nat → Prop) (st : RSt) (v : Value) (l : List UInt8) : Prop where
 at_ : ∃ s V cs, QAt w' sb s V cs ∧ QOk s ∧ Sim s st ∧ Fr w w' O (V.owns cs sb) ∧ ∀ k, v.ownBlock = some k → ¬ V.owns cs sb k
 own : w'.ownsRow 0 5 1 v l.length (bytesV l)
 new : ∀ k, v.ownBlock = some k → w.heap.size ≤ k
def Tells (w : World) (sb : Nat) (O : Nat → Prop) (p : RSt × Value × Int) (e : Ending) (w' : World) : Prop :=
 ∃ (k t : Int) (a : Option Addr) (l : List UInt8) (c : Nat), e = .returned (.tuple #[stepX k t (.slice a l.length c), .int .i64 p.2.2]) ∧ Hid (p.2.1 = stepV k t (str l) ∧ Told w w' sb O p.1 (.slice a l.length c) l)
theorem wUnpack2 (w : World) (b c : Nat) (s : ByteArray) (hsm : s.size ≤ 2097152) (hsc : s.size ≤ c) (hbl : b < w.heap.size) (hc : Bytes w b s) :
  Calls Tryz.prog 31 #[.slice (some ⟨b, 0, none⟩) s.size c] w fun e w' => ∃ (aq : Option Addr) (cq : Nat) (aa : Option Addr) (ca : Nat) (au : Option Addr) (cu : Nat) (ax : Option Addr) (cx : Nat),
   e = .returned (.tuple #[.agg (mc_ (unM s) (.slice aq (unM s).qs.length cq) (.slice aa (unM s).an.length ca) (.slice au (unM s).au.length cu) (.slice ax (unM s).ex.length cx)), .int .i64 (unE s)]) ∧
   Hid (Below w.heap.size w w' ∧ MsgAt w' (unM s) (.slice aq (unM s).qs.length cq) (.slice aa (unM s).an.length ca) (.slice au (unM s).au.length cu) (.slice ax (unM s).ex.length cx) ∧ ∀ k, ((Value.slice aq (unM s).qs.length cq).ownBlock = some k ∨ (Value.slice aa (unM s).an.length ca).ownBlock = some k ∨ (Value.slice au (unM s).au.length cu).ownBlock = some k ∨ (Value.slice ax (unM s).ex.length cx).ownBlock = some k) → w.heap.size ≤ k ∧ k < w'.heap.size) := by
 refine (wUnpack_any w b c s hsm hsc hbl hc).mono ?_
 intro e w' H
 obtain ⟨hb, hno, hyes⟩ := H.out
 cases hu : unpack s with
 | none =>
  have e1 : unM s = zMsg := by unfold unM; rw [hu]; rfl
  rw [e1, unM_none hu]
  refine ⟨none, 0, none, 0, none, 0, none, 0, hno hu, hb, ⟨liesNil _ _, liesNil _ _, liesNil _ _, liesNil _ _⟩, fun k hk => ?_⟩
  rcases hk with hk | hk | hk | hk <;> cases hk
 | some m =>
  rw [(unM_some hu).1, (unM_some hu).2]
  obtain ⟨vq, va, vu, vx, rfl, hn4, hr⟩ := hyes m hu
  obtain ⟨aq, cq, rfl⟩ := os_ hr.q
  obtain ⟨aa, ca, rfl⟩ := os_ hr.a
  obtain ⟨au, cu, rfl⟩ := os_ hr.u
  obtain ⟨ax, cx, rfl⟩ := os_ hr.x
  refine ⟨aq, cq, aa, ca, au, cu, ax, cx, rfl, hb, hr.at, fun k hk => ?_⟩
  rcases hk with hk | hk | hk | hk
  ·exact ⟨hr.nq k hk, (hr.q.lt k hk).2⟩
  ·exact ⟨hr.na k hk, (hr.a.lt k hk).2⟩
  ·exact ⟨hr.nu k hk, (hr.u.lt k hk).2⟩
  ·exact ⟨hr.nx k hk, (hr.x.lt k hk).2⟩
theorem told_nil {w : World} {sb : Nat} {s : QSt} {V : QV} {cs : List QC} {st : RSt} (h : QAt w sb s V cs) (hok : QOk s) (hs : Sim s st) (o : Obj) : Told w (w.alloc o) sb (V.owns cs sb) st (.slice none 0 0) [] :=
 ⟨⟨s, V, cs, h.below ((Below.refl _ _).alloc (Nat.le_refl _) _), hok, hs, Fr.of_below ((Below.refl _ _).alloc (Nat.le_refl _) _) _, fun k hk => by cases hk⟩, World.ownsRow_nil _ _ _ _, fun k hk => by cases hk⟩
theorem sAsk_busy (w : World) (sb b c : Nat) (q : QSt) (V : QV) (cs : List QC) (st : RSt) (s : ByteArray) (h : QAt w sb q V cs) (hok : QOk q) (hsm : Sim q st) (hbz : st.busy = true) :
  Calls Tryz.prog 35 #[.pointer (some ⟨sb, 0, none⟩), .slice (some ⟨b, 0, none⟩) s.size c] w (Tells w sb (V.owns cs sb) (askS st s)) := by
 have e : askS st s = (st, stepV 0 0 ⟨#[]⟩, 3) := by unfold askS; rw [if_pos hbz]
 rw [e]
 have H := hide h
 have HK := hide hok
 have HS := hide hsm
 have hc := bc_ (h.below ((Below.refl w.heap.size w).alloc (Nat.le_refl _) (.cells #[.int .i64 0, .int .u32 0, .slice none 0 0] 59))).box
 simp only [qCells, (hsm.busy hbz).1, nextV] at hc
 clear h e hok hsm
 unfold Tells
 go_enter Tryz.func35, Tryz.ntmps35
 go_wp2_with fail
 refine bodyPost_ret (rr_ rfl _ _ w.heap.size _ _ _ _ rfl (hn_ w _) undXs rfl (by kernel_rfl)) rfl ?_
 exact ⟨0, 0, none, [], 0, rfl, rfl, told_nil H.out HK.out HS.out _⟩
theorem sAsk_short (w : World) (sb b c : Nat) (q : QSt) (V : QV) (cs : List QC) (st : RSt) (s : ByteArray) (h : QAt w sb q V cs) (hok : QOk q) (hsm : Sim q st) (hbz : st.busy = false) (hs : s.size < 12) :
  Calls Tryz.prog 35 #[.pointer (some ⟨sb, 0, none⟩), .slice (some ⟨b, 0, none⟩) s.size c] w (Tells w sb (V.owns cs sb) (askS st s)) := by
 have e : askS st s = (st, stepV 2 0 ⟨#[]⟩, 0) := by unfold askS; rw [if_neg (by rw [hbz]; simp), if_pos hs]
 rw [e]
 have H := hide h
 have HK := hide hok
 have HS := hide hsm
 have hc := bc_ (h.below ((Below.refl w.heap.size w).alloc (Nat.le_refl _) (.cells #[.int .i64 0, .int .u32 0, .slice none 0 0] 59))).box
 simp only [qCells, (hsm.idle hbz).1, nextV] at hc
 clear h e hok hsm
 unfold Tells
 go_enter Tryz.func35, Tryz.ntmps35
 go_wp2_with fail
 refine bodyPost_ret (rr_ rfl _ _ w.heap.size _ _ _ _ rfl (hn_ w _) undXs rfl (by kernel_rfl)) rfl ?_
 exact ⟨2, 0, none, [], 0, rfl, rfl, told_nil H.out HK.out HS.out _⟩
end Go.Proofs.YtafoepfhepdcoaaGreat
