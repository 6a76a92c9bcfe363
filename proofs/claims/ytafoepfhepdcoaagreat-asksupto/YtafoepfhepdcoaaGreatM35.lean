import Derived.Test.YtafoepfhepdcoaaGreatM30
import Derived.Test.YtafoepfhepdcoaaGreatM34
/- New and Ask in plain terms. -/
namespace Go.Proofs.YtafoepfhepdcoaaGreat
open Go.RowKit Go.Trawl

def confOk (b d c t : Int) (rs : List Int) : Prop := (1 ≤ b ∧ b ≤ 200) ∧ (0 ≤ d ∧ d ≤ 6) ∧ (0 ≤ c ∧ c ≤ 10) ∧ (1 ≤ t ∧ t ≤ 8) ∧ 1 ≤ rs.length ∧ rs.length ≤ 8
instance (b d c t : Int) (rs : List Int) : Decidable (confOk b d c t rs) := by unfold confOk; infer_instance
def newSt (b d c t : Int) (rs : List Int) : RSt := ⟨b, d, c, t, rs, 0, false, zMsg, [], [], [], 0, 0, ⟨#[]⟩⟩
theorem newSt_ok {b d c t : Int} {rs : List Int} (h : confOk b d c t rs) : StOk (newSt b d c t rs) :=
  ⟨h.1.1, h.1.2, h.2.1.1, h.2.1.2, h.2.2.1.1, h.2.2.1.2, h.2.2.2.1.1, h.2.2.2.1.2, h.2.2.2.2.1, h.2.2.2.2.2, by simp [newSt], by simp [newSt], zMsg_wf, by simp [newSt], by simp [newSt], by simp [newSt], by simp [newSt], by simp [newSt], by simp [newSt], by simp [newSt]⟩

/-- A message that refuses. -/
def refM (id code : Int) (qs : List Qn) : Msg := ⟨id, false, 0, false, false, false, false, code, qs, [], [], []⟩
/-- What a resolver is when a search begins. -/
def beginSt (st : RSt) (m : Msg) (q : Qn) : RSt := { st with busy := true, asked := m, kept := [], seen := [q.name], l := [freshCh st q.name q.kind], spent := 0 }
/-- Ask: the state behind it, the step, the error. -/
def askS (st : RSt) (s : ByteArray) : RSt × Value × Int :=
  if st.busy then (st, stepV 0 0 ⟨#[]⟩, 3)
  else if s.size < 12 then (st, stepV 2 0 ⟨#[]⟩, 0)
  else match unpack s with
    | none => (st, stepV 2 0 (str (replyL (refM (n2 s 0) 1 []))), 0)
    | some m =>
      if m.resp then (st, stepV 2 0 (str (replyL (refM (n2 s 0) 1 []))), 0)
      else match m.qs with
        | [q] => if m.op ≠ 0 ∨ q.cls ≠ 1 then (st, stepV 2 0 (str (replyL (refM m.id 4 [q]))), 0)
          else ((askP (beginSt st m q) [] (freshCh st q.name q.kind)).1, (askP (beginSt st m q) [] (freshCh st q.name q.kind)).2, 0)
        | _ => (st, stepV 2 0 (str (replyL (refM m.id 4 []))), 0)
theorem par_bind {α β : Type} {p : Par α} {f : α → Par β} {a : Nat} {r : β × Nat} (h : p.bind f a = some r) : ∃ q, p a = some q ∧ f q.1 q.2 = some r := by
  unfold Par.bind at h
  cases hp : p a with
  | none => rw [hp] at h; cases h
  | some q => rw [hp] at h; exact ⟨q, rfl, h⟩
theorem unpack_id {s : ByteArray} {m : Msg} (h : unpack s = some m) : m.id = n2 s 0 := by
  unfold unpack at h
  split at h
  · cases hp : pM s 0 with
    | none => simp [hp] at h
    | some r =>
      simp only [hp, Option.bind_some] at h
      split at h
      · cases h
        unfold pM at hp
        obtain ⟨q, h1, h2⟩ := par_bind hp
        have e : q.1 = (n2 s 0 : Int) := by
          unfold num2 at h1
          split at h1
          · cases h1; rfl
          · cases h1
        have key : ∀ id : Int, Always _ fun m : Msg => m.id = id := fun id =>
          (Always.any (num2 s)).bind fun f _ => (Always.any (num2 s)).bind fun q _ => (Always.any (num2 s)).bind fun a _ => (Always.any (num2 s)).bind fun u _ => (Always.any (num2 s)).bind fun x _ =>
            (Always.any ((pQ s).many q.toNat)).bind fun qs _ => (Always.any ((pR s).many a.toNat)).bind fun an _ => (Always.any ((pR s).many u.toNat)).bind fun au _ => (Always.any ((pR s).many x.toNat)).bind fun ex _ => Always.pure (x := flagged id f qs an au ex) rfl
        rw [← e]
        exact key q.1 q.2 r h2
      · cases h
  · cases h
end Go.Proofs.YtafoepfhepdcoaaGreat

/- The program's search in plain terms: what is kept of a question, and what is done next. -/
namespace Go.Proofs.YtafoepfhepdcoaaGreat
open Go.RowKit Go.Trawl

inductive Ph where
  | idle
  | send
  | fail
  | failAll
  | seek
  | finish
structure QSt where
  b : Int
  d : Int
  c : Int
  t : Int
  roots : List Int
  id : Int
  ph : Ph
  ch : List Ch
  sent : Nat
  reply : Msg
abbrev QOut := Int × Int × List UInt8
def noOut : QOut := (0, 0, [])
def newQ (n : ByteArray) (k : Int) : Ch := ⟨n, k, ⟨#[]⟩, [], 0, []⟩
/-- A chase begins, ahead of others that wait. -/
def startQ (s : QSt) (c : Ch) (r : List Ch) : QSt := { s with ph := .send, ch := { c with zone := rootN, servers := s.roots } :: r }
def settleQ (s : QSt) (code : Int) (l : List Rc) : QSt := { s with ph := .finish, reply := { s.reply with code := code, an := if code = 2 then [] else s.reply.an ++ l } }
def endQ (s : QSt) (code : Int) (l : List Rc) : QSt :=
  match s.ch with
  | _ :: a :: r => { s with ph := .seek, ch := { a with servers := addrs l } :: r }
  | _ => settleQ s code l
def sendQ (s : QSt) : QSt × QOut :=
  match s.ch with
  | [] => (s, noOut)
  | c :: r =>
    if (c.sent : Int) = s.t then ({ s with ph := .fail }, noOut)
    else if (s.sent : Int) = s.b then ({ s with ph := .failAll }, noOut)
    else ({ s with ch := { c with sent := c.sent + 1 } :: r, sent := s.sent + 1, id := nextId s.id }, (1, toOf c, packL (askM (nextId s.id) c)))
def seekQ (s : QSt) : QSt :=
  match s.ch with
  | [] => s
  | c :: r =>
    if c.servers ≠ [] then { s with ph := .send, ch := { c with names := [] } :: r }
    else match c.names with
      | [] => { s with ph := .fail }
      | n :: ns => if (r.length : Int) = s.d then { s with ph := .fail } else startQ s (newQ n 1) ({ c with names := ns } :: r)
def idleQ (s : QSt) : QSt := { s with ph := .idle, ch := [], sent := 0, reply := zMsg }
def stepQ (s : QSt) : QSt × QOut :=
  match s.ph with
  | .idle => (s, noOut)
  | .send => sendQ s
  | .fail => (endQ s 2 [], noOut)
  | .failAll => (settleQ s 2 [], noOut)
  | .seek => (seekQ s, noOut)
  | .finish => (idleQ s, (2, 0, replyL s.reply))
/-- What is done until there is something to say. -/
def goes : Nat → QSt → Option (QSt × QOut)
  | 0, _ => none
  | n + 1, s => if (stepQ s).2.1 = 0 then goes n (stepQ s).1 else some (stepQ s)

structure QcOk (t : Int) (c : Ch) : Prop where
  name : nameB c.name = true
  k0 : 0 ≤ c.kind
  k1 : c.kind ≤ 65535
  zone : nameB c.zone = true
  servers : c.servers.length ≤ 8388608
  sent : (c.sent : Int) ≤ t
  names : c.names.length ≤ 2097152
  texts : ∀ x ∈ c.names, nameB x = true
structure QOk (s : QSt) : Prop where
  b0 : 1 ≤ s.b
  b1 : s.b ≤ 200
  d0 : 0 ≤ s.d
  d1 : s.d ≤ 6
  c0 : 0 ≤ s.c
  c1 : s.c ≤ 10
  t0 : 1 ≤ s.t
  t1 : s.t ≤ 8
  r0 : 1 ≤ s.roots.length
  r1 : s.roots.length ≤ 8
  id0 : 0 ≤ s.id
  id1 : s.id ≤ 65535
  sent : (s.sent : Int) ≤ s.b
  chs : ∀ c ∈ s.ch, QcOk s.t c
  len : (s.ch.length : Int) ≤ s.d + 1
  reply : WfM s.reply
  au : s.reply.au = []
  ex : s.reply.ex = []
  few : s.reply.an.length ≤ 1048576
  busy : s.ph ≠ .idle → s.ch ≠ [] ∧ s.reply.resp = true ∧ ∃ q, s.reply.qs = [q] ∧ NamedQ q
  an : s.ph ≠ .finish → (s.reply.an.length : Int) ≤ s.c
  srv : s.ph = .send → ∀ c r, s.ch = c :: r → c.servers ≠ []
theorem rootN_name : nameB rootN = true := by decide
theorem addrs_len (l : List Rc) : (addrs l).length ≤ l.length := by
  unfold addrs
  rw [List.length_map]
  exact List.length_filter_le _ _
theorem startQ_ok {s : QSt} (h : QOk s) (c : Ch) (r : List Ch) (hb : s.reply.resp = true ∧ ∃ q, s.reply.qs = [q] ∧ NamedQ q) (ha : (s.reply.an.length : Int) ≤ s.c) (hn : nameB c.name = true) (k0 : 0 ≤ c.kind) (k1 : c.kind ≤ 65535) (hs : c.sent = 0) (he : c.names = []) (hr : ∀ x ∈ r, QcOk s.t x) (hl : (r.length : Int) ≤ s.d) : QOk (startQ s c r) := by
  have hr0 := h.r0
  have hr1 := h.r1
  have ht := h.t0
  refine { h with chs := fun x hx => ?_, len := by simp only [startQ, List.length_cons]; omega, busy := fun _ => ⟨by simp [startQ], hb⟩, an := fun _ => ha, srv := fun _ x y e => ?_ }
  · simp only [startQ, List.mem_cons] at hx
    rcases hx with rfl | hx
    · exact ⟨hn, k0, k1, rootN_name, by dsimp only; omega, by dsimp only [startQ]; omega, by simp [he], by simp [he]⟩
    · exact hr x hx
  · simp only [startQ] at e
    injection e with e _
    rw [← e]
    intro e
    have : s.roots = [] := e
    rw [this] at hr0
    simp at hr0
theorem settleQ_ok {s : QSt} (h : QOk s) (hp : s.ph ≠ .idle) (code : Int) (hc : -9223372036854775808 ≤ code ∧ code ≤ 9223372036854775807) (l : List Rc) (hl : l.length ≤ 65535) (hw : ∀ r ∈ l, WfR r) (ha : (s.reply.an.length : Int) ≤ s.c) : QOk (settleQ s code l) := by
  have hc1 := h.c1
  have hm := h.reply
  have hlen : (if code = 2 then [] else s.reply.an ++ l).length ≤ 70000 := by
    split
    · simp
    · rw [List.length_append]; omega
  refine { h with reply := ?_, few := by simp only [settleQ]; omega, busy := fun _ => ⟨(h.busy hp).1, (h.busy hp).2⟩, an := fun e => absurd rfl e, srv := fun e => by cases e }
  refine { hm with code0 := hc.1, code1 := hc.2, na := by simp only [settleQ]; omega, rs := fun r hr => ?_ }
  simp only [settleQ, recs, List.mem_append] at hr
  rcases hr with (hr | hr) | hr
  · split at hr
    · cases hr
    · rcases List.mem_append.1 hr with hr | hr
      · exact hm.rs r (by simp [recs, hr])
      · exact hw r hr
  · exact hm.rs r (by simp [recs, hr])
  · exact hm.rs r (by simp [recs, hr])
theorem endQ_ok {s : QSt} (h : QOk s) (hp : s.ph ≠ .idle) (code : Int) (hc : -9223372036854775808 ≤ code ∧ code ≤ 9223372036854775807) (l : List Rc) (hl : l.length ≤ 65535) (hw : ∀ r ∈ l, WfR r) (ha : (s.reply.an.length : Int) ≤ s.c) : QOk (endQ s code l) := by
  unfold endQ
  split
  · rename_i c0 a r e
    have hlen := h.len
    have hch := h.chs
    rw [e] at hlen hch
    have hA := hch a (by simp)
    have := addrs_len l
    refine { h with chs := fun x hx => ?_, len := by simp only [List.length_cons] at hlen ⊢; omega, busy := fun _ => ⟨by simp, (h.busy hp).2⟩, an := fun _ => ha, srv := fun e => by cases e }
    simp only [List.mem_cons] at hx
    rcases hx with rfl | hx
    · exact { hA with servers := by dsimp only; omega }
    · exact hch x (by simp [hx])
  · exact settleQ_ok h hp code hc l hl hw ha
theorem stepQ_ok {s : QSt} (h : QOk s) (hp : s.ph ≠ .idle) : QOk (stepQ s).1 := by
  have hb := h.busy hp
  unfold stepQ
  split
  · rename_i e; exact absurd e hp
  · rename_i e
    have ha := h.an (by rw [e]; simp)
    unfold sendQ
    split
    · exact h
    · rename_i c r ec
      have hch := h.chs
      have hlen := h.len
      rw [ec] at hch hlen
      have hC := hch c (by simp)
      have hs := hC.sent
      have hsb := h.sent
      split
      · exact { h with busy := fun _ => hb, an := fun _ => ha, srv := fun e => by cases e }
      · split
        · exact { h with busy := fun _ => hb, an := fun _ => ha, srv := fun e => by cases e }
        · refine { h with id0 := by show 0 ≤ nextId s.id; unfold nextId; omega, id1 := by show nextId s.id ≤ 65535; unfold nextId; omega, sent := by dsimp only; omega, chs := fun x hx => ?_, len := by simpa using hlen, busy := fun _ => ⟨by simp, hb.2⟩, an := fun _ => ha, srv := fun _ x y exy => ?_ }
          · simp only [List.mem_cons] at hx
            rcases hx with rfl | hx
            · exact { hC with sent := by dsimp only; omega }
            · exact hch x (by simp [hx])
          · injection exy with e1 _
            rw [← e1]
            exact h.srv e c r ec
  · rename_i e
    exact endQ_ok h hp 2 (by decide) [] (by simp) (by simp) (h.an (by rw [e]; simp))
  · rename_i e
    exact settleQ_ok h hp 2 (by decide) [] (by simp) (by simp) (h.an (by rw [e]; simp))
  · rename_i e
    have ha := h.an (by rw [e]; simp)
    show QOk (seekQ s)
    unfold seekQ
    split
    · exact h
    · rename_i c r ec
      have hch := h.chs
      have hlen := h.len
      rw [ec] at hch hlen
      have hC := hch c (by simp)
      split
      · rename_i hne
        refine { h with chs := fun x hx => ?_, len := by simpa using hlen, busy := fun _ => ⟨by simp, hb.2⟩, an := fun _ => ha, srv := fun _ x y exy => ?_ }
        · simp only [List.mem_cons] at hx
          rcases hx with rfl | hx
          · exact { hC with names := by simp, texts := by simp }
          · exact hch x (by simp [hx])
        · injection exy with e1 _
          rw [← e1]
          exact hne
      · split
        · exact { h with busy := fun _ => hb, an := fun _ => ha, srv := fun e => by cases e }
        · rename_i n ns en
          split
          · exact { h with busy := fun _ => hb, an := fun _ => ha, srv := fun e => by cases e }
          · rename_i hd
            have h1 := hC.names
            have h2 := hC.texts
            rw [en] at h1 h2
            refine startQ_ok h _ _ hb.2 ha (h2 n (by simp)) (show (0 : Int) ≤ 1 by decide) (show (1 : Int) ≤ 65535 by decide) rfl rfl (fun x hx => ?_) (by simp only [List.length_cons] at hlen ⊢; omega)
            simp only [List.mem_cons] at hx
            rcases hx with rfl | hx
            · exact { hC with names := by simp only [List.length_cons] at h1; dsimp only; omega, texts := fun x hx => h2 x (by simp [hx]) }
            · exact hch x (by simp [hx])
  · refine { h with sent := by have := h.b0; simp only [idleQ]; omega, chs := by simp [idleQ], len := by have := h.d0; simp only [idleQ, List.length_nil]; omega, reply := zMsg_wf, au := rfl, ex := rfl, few := by simp [idleQ, zMsg], busy := fun e => absurd rfl e, an := fun _ => by have := h.c0; simpa [idleQ, zMsg] using this, srv := fun e => by cases e }
end Go.Proofs.YtafoepfhepdcoaaGreat
