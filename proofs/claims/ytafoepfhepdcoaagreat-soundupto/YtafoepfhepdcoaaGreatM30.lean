import Derived.Test.YtafoepfhepdcoaaGreatM29
import Derived.Deep.CutRange
set_option maxRecDepth 100000
set_option maxHeartbeats 8000000
namespace Go.Proofs.YtafoepfhepdcoaaGreat
open Go.RowKit Go.Trawl
theorem say_ref {t : Tr} {server z d : Nat} {n : ByteArray} (h1 : deepN t n server = some z) (h2 : belN t n z = some d) (m : Msg) (k : Int) : sayM t server m n k = { m with resp := true, au := [⟨nm d, 2, 1, 9, srv (hostN t d)⟩], ex := if hostN t d = d then [⟨srv (hostN t d), 1, 1, 9, adrB (hostN t d)⟩] else m.ex } := by
 unfold sayM
 rw [h1]
 dsimp only
 rw [h2]
theorem say_own {t : Tr} {server z : Nat} {n : ByteArray} (h1 : deepN t n server = some z) (h2 : belN t n z = none) (m : Msg) (k : Int) : sayM t server m n k = { m with resp := true, own := true, an := anL t n k, code := if anL t n k = [] ∧ thereB t n = false then 3 else m.code } := by
 unfold sayM
 rw [h1]
 dsimp only
 rw [h2]
inductive Phs (t : Tr) (k : Int) (x : Nat) : List Ch → Nat → Nat → Nat → Prop
 | main {z : Nat} {c : Ch} (h : Tch t x k z c) (hs : c.servers = [hostA (hostN t z)]) : Phs t k x [c] (3 * dep z) (hostN t z) c.sent
 | root {d h : Nat} {p c : Ch} (hp : Tch t x k d p) (h0 : p.sent = 0) (hh : hostN t d = h) (h1 : 1 ≤ h) (h3 : h ≤ 3) (hz : zoneB t h = true) (ho : hostN t h = h) (hd : 1 ≤ dep d) (hc : Tch t (24 + h) 1 0 c) (hs : c.servers = [hostA 0]) : Phs t k x [p, c] (3 * dep d - 2) 0 c.sent
 | low {d h : Nat} {p c : Ch} (hp : Tch t x k d p) (h0 : p.sent = 0) (hh : hostN t d = h) (h1 : 1 ≤ h) (h3 : h ≤ 3) (hz : zoneB t h = true) (ho : hostN t h = h) (hd : 1 ≤ dep d) (hc : Tch t (24 + h) 1 h c) (hs : c.servers = [hostA h]) : Phs t k x [p, c] (3 * dep d - 1) h c.sent
def Moves (t : Tr) (k : Int) (x rank : Nat) (st : RSt) (p : RSt × Value) : Prop := ∃ r1 c1 rank' host', p = (askSt st r1 c1, askStep st c1) ∧ Phs t k x (r1 ++ [{ c1 with sent := c1.sent + 1 }]) rank' host' 1 ∧ toOf c1 = hostA host' ∧ host' < 12 ∧ rank < rank'
theorem to_one {c : Ch} {a : Int} (h : c.servers = [a]) : toOf c = a := by
 unfold toOf
 rw [h]
 simp [Nat.mod_one]
section
variable {t : Tr} {x z d h : Nat} {k : Int} {c p : Ch} {st : RSt}
theorem ask_yes (hs : (st.spent : Int) < st.b) (r : List Ch) (c : Ch) : askP st r c = (askSt st r c, askStep st c) := by
 unfold askP
 rw [if_neg (by omega)]
theorem send_yes (hs : (st.spent : Int) < st.b) (r : List Ch) {c : Ch} (ht : (c.sent : Int) < st.t) : sendP st r c = (askSt st r c, askStep st c) := by
 unfold sendP
 rw [if_pos ht, ask_yes hs]
theorem main_ref (hc : Tch t x k z c) (hs : (st.spent : Int) < st.b) (ht : 1 ≤ st.t) (hd0 : 1 ≤ st.d) (hro : st.roots = [hostA 0]) {zz : Nat} (h1 : deepN t (nn x) (hostN t z) = some zz) (hzz : (nm z).size ≤ (nm zz).size) (h2 : belN t (nn x) zz = some d) (m : Msg) (hn : m.an = []) (hx : m.ex = []) (h0 : m.code = 0) :
  Moves t k x (3 * dep z) st (followsP st [] c (sayM t (hostN t z) m (nn x) k)) := by
 obtain ⟨c1, c2, c3, c4, c5⟩ := bel_some h2
 have hsz : (nm z).size < (nm d).size := by omega
 have hdz := (size_two hc.z12 c1).1 hsz
 have hh := host_lt t c1
 have hM := say_ref h1 h2 m k
 generalize sayM t (hostN t z) m (nn x) k = M at hM ⊢
 have e1 : M.au = [⟨nm d, 2, 1, 9, srv (hostN t d)⟩] := by rw [hM]
 have e2 : M.an = [] := by rw [hM]; exact hn
 have e3 : M.code = 0 := by rw [hM]; exact h0
 have e4 : M.ex = if hostN t d = d then [⟨srv (hostN t d), 1, 1, 9, adrB (hostN t d)⟩] else [] := by rw [hM, ← hx]
 clear hM
 rw [hc.follows (h := hostN t d) c1 c3 hsz M hh e1 e2 e3]
 unfold downP
 rw [hc.down (h := hostN t d) c1 c3 hsz M hh e1 e4]
 have hd' : d ≠ 0 := fun e => by subst e; rw [dep_zero] at hdz; omega
 rcases host_is t hd' with e | ⟨e1, e2, e3, e4, e5⟩
 ·rw [if_pos e]
  dsimp only
  rw [if_neg (by simp), send_yes (by exact hs) _ (by show ((0 : Nat) : Int) < st.t; omega)]
  refine ⟨[], _, 3 * dep d, hostN t d, rfl, Phs.main (z := d) ⟨hc.name, hc.kind, rfl, hc.x36, c1, c2, c3⟩ (by rw [e]), by rw [to_one rfl, e], hh, by omega⟩
 ·rw [if_neg e3]
  dsimp only
  rw [if_pos rfl]
  unfold lookP
  dsimp only
  rw [if_neg (by simp; omega), ask_yes (by exact hs)]
  refine ⟨[{ c with zone := nm d, sent := 0, servers := [], names := [] }], freshCh st (srv (hostN t d)) 1, 3 * dep d - 2, 0, rfl, Phs.root (h := hostN t d) (d := d) ⟨hc.name, hc.kind, rfl, hc.x36, c1, c2, c3⟩ rfl rfl e1 e2 e4 e5 (by omega) ⟨?_, rfl, rfl, by omega, by omega, by unfold zoneB; simp, lies_root (by omega)⟩ hro, by rw [to_one (c := freshCh st (srv (hostN t d)) 1) hro], by omega, by omega⟩
  exact (nn_srv hh).symm
theorem root_ref (hp : Tch t x k d p) (h0 : p.sent = 0) (hh : hostN t d = h) (h1 : 1 ≤ h) (h3 : h ≤ 3) (hz : zoneB t h = true) (ho : hostN t h = h) (hd : 1 ≤ dep d) (hc : Tch t (24 + h) 1 0 c) (hs : (st.spent : Int) < st.b) (ht : 1 ≤ st.t) (m : Msg) (hn : m.an = []) (hx : m.ex = []) (hcd : m.code = 0) :
  Moves t k x (3 * dep d - 2) st (followsP st [p] c (sayM t 0 m (nn (24 + h)) 1)) := by
 obtain ⟨g1, g2⟩ := root_low (t := t) h1 h3 hz
 obtain ⟨c1, c2, c3, c4, c5⟩ := bel_some g2
 have hM := say_ref g1 g2 m 1
 rw [ho] at hM
 generalize sayM t 0 m (nn (24 + h)) 1 = M at hM ⊢
 have e1 : M.au = [⟨nm h, 2, 1, 9, srv h⟩] := by rw [hM]
 have e2 : M.an = [] := by rw [hM]; exact hn
 have e3 : M.code = 0 := by rw [hM]; exact hcd
 have e4 : M.ex = if h = h then [⟨srv h, 1, 1, 9, adrB h⟩] else [] := by rw [hM, ← hx]
 clear hM
 rw [hc.follows (h := h) c1 c3 c4 M c1 e1 e2 e3]
 unfold downP
 rw [hc.down (h := h) c1 c3 c4 M c1 e1 e4, if_pos rfl]
 dsimp only
 rw [if_neg (by simp), send_yes (by exact hs) _ (by show ((0 : Nat) : Int) < st.t; omega)]
 exact ⟨[p], _, 3 * dep d - 1, h, rfl, Phs.low (h := h) (d := d) hp h0 hh h1 h3 hz ho hd ⟨hc.name, hc.kind, rfl, hc.x36, c1, c2, c3⟩ rfl, by rw [to_one rfl], c1, by omega⟩
theorem low_own (hp : Tch t x k d p) (h0 : p.sent = 0) (hh : hostN t d = h) (h1 : 1 ≤ h) (h3 : h ≤ 3) (hz : zoneB t h = true) (ho : hostN t h = h) (hd : 1 ≤ dep d) (hc : Tch t (24 + h) 1 h c) (hs : (st.spent : Int) < st.b) (ht : 1 ≤ st.t) (m : Msg) (hu : m.au = []) (hcd : m.code = 0) :
  Moves t k x (3 * dep d - 1) st (followsP st [p] c (sayM t h m (nn (24 + h)) 1)) := by
 obtain ⟨g1, g2⟩ := own_low (t := t) h1 h3 hz ho
 have ha : addrs (hasL t (nn (24 + h)) 1) = [hostA h] := by
  rw [has_low h1 h3 hz]
  unfold addrs rcOf
  simp [adrB_size, adr_host (show h < 12 by omega)]
 have hM := say_own g1 g2 m 1
 generalize sayM t h m (nn (24 + h)) 1 = M at hM ⊢
 rw [hc.owns M (by rw [hM]) (by rw [hM]; exact hu) (by rw [hM]) (by rw [hM, hcd]), if_pos (by rw [has_low h1 h3 hz]; simp)]
 clear hM
 simp only [List.reverse_cons, List.reverse_nil, List.nil_append, ha]
 rw [if_neg (by simp), send_yes (by exact hs) _ (by show (p.sent : Int) < st.t; omega)]
 refine ⟨[], { p with servers := [hostA h] }, 3 * dep d, h, rfl, ?_, by rw [to_one rfl], by omega, by omega⟩
 have := Phs.main (c := { p with servers := [hostA h], sent := p.sent + 1 }) (z := d) (t := t) (x := x) (k := k) ⟨hp.name, hp.kind, hp.zone, hp.x36, hp.z12, hp.zn, hp.lies⟩ (by rw [hh])
 rw [hh] at this
 dsimp only at this
 rw [h0] at this
 rw [List.nil_append, h0]
 exact this
end
theorem pack_small {m : Msg} {n : ByteArray} {k : Int} (hq : m.qs = [⟨n, k, 1⟩]) (hn : nameB n = true) (hz : n.size ≤ 20) (ho : 0 ≤ m.op ∧ m.op ≤ 15) (hc : 0 ≤ m.code ∧ m.code ≤ 15) (hr : ∀ r ∈ recs m, SmR r) (hl : (recs m).length ≤ 13) : packOk m = true := by
 have hb : ∀ l : List Rc, (∀ r ∈ l, SmR r) → (l.flatMap rbytes).length ≤ 28 * l.length := by
  intro l
  induction l with
  | nil => intro _; simp
  | cons a l ih =>
   intro h
   have h1 := h a (by simp)
   have h2 := ih fun r hr => h r (by simp [hr])
   have h3 := h1.size
   have h4 := h1.data
   rw [List.flatMap_cons, List.length_append, length_rbytes, List.length_cons]
   omega
 have hb := hb _ hr
 unfold packOk inRange body
 simp only [Bool.and_eq_true, decide_eq_true_eq, List.all_eq_true]
 refine ⟨⟨⟨⟨ho.1, ho.2, hc.1, hc.2⟩, fun q h => ?_⟩, fun r h => ?_⟩, ?_⟩
 ·rw [hq, List.mem_singleton] at h
  subst h
  exact hn
 ·have h1 := hr r h
  unfold okR
  rw [h1.name]
  cases hnm : named r.kind with
  | false => rfl
  | true => rw [h1.named hnm]; rfl
 ·rw [List.length_append, hq]
  simp only [List.flatMap_cons, List.flatMap_nil, List.append_nil, length_qbytes]
  omega
theorem un_small {m : Msg} {n : ByteArray} {k : Int} (hq : m.qs = [⟨n, k, 1⟩]) (hn : nameB n = true) (hz : n.size ≤ 20) (k0 : 0 ≤ k) (k1 : k ≤ 65535) (hi : 0 ≤ m.id ∧ m.id ≤ 65535) (ho : 0 ≤ m.op ∧ m.op ≤ 15) (hc : 0 ≤ m.code ∧ m.code ≤ 15) (hr : ∀ r ∈ recs m, SmR r) (hl : (recs m).length ≤ 13) : packL m = pack m ∧ unpack (str (packL m)) = some m := by
 have hok := pack_small hq hn hz ho hc hr hl
 have e : packL m = pack m := if_pos hok
 refine ⟨e, ?_⟩
 rw [e]
 refine unpack_pack hok hi.1 hi.2 (fun q h => ?_) (fun r h => ?_)
 ·rw [hq, List.mem_singleton] at h
  subst h
  exact ⟨k0, k1, by simp, by simp⟩
 ·have := hr r h
  exact ⟨this.k0, this.k1, this.c0, this.c1, this.t0, this.t1⟩
theorem say_small {t : Tr} {server y : Nat} {id k : Int} (hy : y < 36) (k0 : 0 ≤ k) (k1 : k ≤ 65535) (k2 : k ≠ 2) (m : Msg) (hm : m = ⟨id, false, 0, false, false, false, false, 0, [⟨nn y, k, 1⟩], [], [], []⟩) :
  (sayM t server m (nn y) k).id = id ∧ (sayM t server m (nn y) k).resp = true ∧ (sayM t server m (nn y) k).op = 0 ∧ (sayM t server m (nn y) k).qs = [⟨nn y, k, 1⟩] ∧ (0 ≤ (sayM t server m (nn y) k).code ∧ (sayM t server m (nn y) k).code ≤ 15) ∧ (∀ r ∈ recs (sayM t server m (nn y) k), SmR r) ∧ (recs (sayM t server m (nn y) k)).length ≤ 13 := by
 subst hm
 have hA : (∀ r ∈ anL t (nn y) k, SmR r) ∧ (anL t (nn y) k).length ≤ 3 := by
  unfold anL
  split
  ·exact ⟨fun r hr => (has_sm hy (by decide) (by decide) (by decide) hr).1, has_few hy⟩
  ·exact ⟨fun r hr => (has_sm hy k0 k1 k2 hr).1, has_few hy⟩
 unfold sayM
 cases h1 : deepN t (nn y) server with
 | none => exact ⟨rfl, rfl, rfl, rfl, by simp, by simp [recs], by simp [recs]⟩
 | some z =>
  dsimp only
  cases h2 : belN t (nn y) z with
  | none =>
   refine ⟨rfl, rfl, rfl, rfl, by dsimp only; split <;> simp, ?_, ?_⟩
   ·intro r hr
    unfold recs at hr
    simp at hr
    exact hA.1 r hr
   ·unfold recs
    simp
    have := hA.2
    omega
  | some d =>
   obtain ⟨c1, c2, c3, c4, c5⟩ := bel_some h2
   have hh := host_lt t c1
   have q1 : SmR ⟨nm d, 2, 1, 9, srv (hostN t d)⟩ := by
    rw [← nn_nm c1, ← nn_srv hh]
    exact ⟨nn_name (by omega), nn_size (by omega), nn_size (by omega), fun _ => nn_name (by omega), by simp, by simp, by simp, by simp, by simp, by simp⟩
   have q2 : SmR ⟨srv (hostN t d), 1, 1, 9, adrB (hostN t d)⟩ := by
    rw [← nn_srv hh]
    exact ⟨nn_name (by omega), nn_size (by omega), by show (4 : Nat) ≤ 9; omega, (fun h => by cases h), by simp, by simp, by simp, by simp, by simp, by simp⟩
   refine ⟨rfl, rfl, rfl, rfl, by simp, ?_, ?_⟩
   ·intro r hr
    unfold recs at hr
    simp only [List.nil_append, List.mem_append, List.mem_singleton] at hr
    rcases hr with rfl | hr
    ·exact q1
    ·split at hr
     ·rw [List.mem_singleton.1 hr]; exact q2
     ·cases hr
   ·unfold recs
    simp only [List.nil_append, List.length_append, List.length_singleton]
    split <;> simp
structure Snd (t : Tr) (k : Int) (x0 i : Nat) (st : RSt) : Prop where
 live : Live st
 busy : st.busy = true
 conf : conf st = (200, 6, 10, 8, [hostA 0])
 asked : st.asked = qM1 9 (nn x0) k
 spent : st.spent = i + 1
 sm : ∀ r ∈ st.kept, SmR r
 ph : ∃ x rank host sent f seen, x < 24 ∧ Phs t k x st.l rank host sent ∧ st.to = hostA host ∧ host < 12 ∧ sent ≤ 1 + i % 2 ∧ st.seen = seen ++ [nn x] ∧ nn x ∉ seen ∧ (∀ s ∈ seen, ∃ y, y < 36 ∧ s = nn y) ∧ f + st.kept.length = 12 ∧ lkd t k f seen st.kept (nn x) = lkd t k 12 [] [] (nn x0) ∧ i ≤ 10 * st.kept.length + rank + (min i 30 + 1) / 2
structure Ovr (t : Tr) (k : Int) (x0 : Nat) (st : RSt) (l : List UInt8) : Prop where
 idle : st.busy = false
 says : ∃ code an, lkd t k 12 [] [] (nn x0) = (code, an) ∧ l = replyL ⟨9, false, 0, false, false, true, true, code, [⟨nn x0, k, 1⟩], an, [], []⟩ ∧ (∀ r ∈ an, SmR r) ∧ an.length ≤ 13 ∧ 0 ≤ code ∧ code ≤ 3
inductive Snds (t : Tr) (k : Int) (x0 i : Nat) (st : RSt) : Int → Int → List UInt8 → Prop
 | sent {l : List UInt8} (h : Snd t k x0 i st) (says : ∃ r c, st.l = r ++ [c] ∧ l = packL (askM st.id c)) : Snds t k x0 i st 1 st.to l
 | over {l : List UInt8} (hi : i ≤ 249) (h : Ovr t k x0 st l) : Snds t k x0 i st 2 0 l
theorem next_i {i κ d : Nat} (h : i ≤ 10 * κ + 3 * d + (min i 30 + 1) / 2) (hd : d ≤ 3) : i + 1 ≤ 10 * (κ + 1) + 0 + (min (i + 1) 30 + 1) / 2 := by omega
section
variable {t : Tr} {k : Int} {x0 i : Nat} {st : RSt}
theorem Snd.parts (h : Snd t k x0 i st) : st.b = 200 ∧ st.d = 6 ∧ st.c = 10 ∧ st.t = 8 ∧ st.roots = [hostA 0] := by
 have e := h.conf
 unfold Go.Proofs.YtafoepfhepdcoaaGreat.conf at e
 simp only [Prod.mk.injEq] at e
 exact e
theorem Snd.few (h : Snd t k x0 i st) : st.kept.length ≤ 10 := by
 have h1 := h.live.base.kept
 rw [h.parts.2.2.1] at h1
 omega
theorem Phs.rank_le {x rank host sent : Nat} {l : List Ch} (h : Phs t k x l rank host sent) : rank ≤ 9 := by
 cases h with
 | main h hs => have := dep_le h.z12; omega
 | root hp => have := dep_le hp.z12; omega
 | low hp => have := dep_le hp.z12; omega
theorem Phs.last {x rank host sent : Nat} {l : List Ch} (h : Phs t k x l rank host sent) : ∃ r c y, l = r ++ [c] ∧ c.name = nn y ∧ y < 36 ∧ (c.kind = k ∨ c.kind = 1) ∧ c.servers = [hostA host] ∧ c.sent = sent := by
 cases h with
 | @main z c h hs => exact ⟨[], c, x, rfl, h.name, h.x36, .inl h.kind, hs, rfl⟩
 | @root d hh p c hp h0 e h1 h3 hz ho hd hc hs => exact ⟨[p], c, _, rfl, hc.name, hc.x36, .inr hc.kind, hs, rfl⟩
 | @low d hh p c hp h0 e h1 h3 hz ho hd hc hs => exact ⟨[p], c, _, rfl, hc.name, hc.x36, .inr hc.kind, hs, rfl⟩
theorem Snd.bound (h : Snd t k x0 i st) : i ≤ 124 := by
 obtain ⟨x, rank, host, sent, f, seen, h1, h2, h3, h4, h5, h6, h7, h8, h9, h10, h11⟩ := h.ph
 have := h.few
 have := h2.rank_le
 omega
theorem Snd.budget (h : Snd t k x0 i st) : (st.spent : Int) < st.b := by
 have := h.bound
 rw [h.spent, h.parts.1]
 omega
theorem Snd.at_ (h : Snd t k x0 i st) : ∃ host r c y, st.to = hostA host ∧ host < 12 ∧ st.l = r ++ [c] ∧ c.name = nn y ∧ y < 36 ∧ (c.kind = k ∨ c.kind = 1) := by
 obtain ⟨x, rank, host, sent, f, seen, h1, h2, h3, h4, _⟩ := h.ph
 obtain ⟨r, c, y, e1, e2, e3, e4, _, _⟩ := h2.last
 exact ⟨host, r, c, y, h3, h4, e1, e2, e3, e4⟩
theorem sent_of {st1 : RSt} {p : RSt × Value} {r1 : List Ch} {c1 : Ch} (hc : Comes st p) (hp : p = (askSt st1 r1 c1, askStep st1 c1)) (hb : st1.busy = true) : Sent st p := by
 rcases hc with hc | hc
 ·exact hc
 ·have h1 := hc.busy
  subst hp
  have h2 : (askSt st1 r1 c1).busy = st1.busy := rfl
  rw [show (askSt st1 r1 c1, askStep st1 c1).1.busy = st1.busy from h2, hb] at h1
  cases h1
theorem snds_of {p : RSt × Value} (hs : Sent st p) (hS : Snd t k x0 i p.1) {k' t' : Int} {l : List UInt8} (hv : p.2 = stepV k' t' (str l)) : Snds t k x0 i p.1 k' t' l := by
 obtain ⟨r, c, e1, e2⟩ := hs.says
 rw [e2] at hv
 obtain ⟨rfl, rfl, e3⟩ := stepV_inj hv
 exact .sent hS ⟨r, c, e1, (str_inj e3).symm⟩
theorem moves_snds (h : Snd t k x0 i st) {x rank f : Nat} {seen : List ByteArray} (h1 : x < 24) (h6 : st.seen = seen ++ [nn x]) (h7 : nn x ∉ seen) (h8 : ∀ s ∈ seen, ∃ y, y < 36 ∧ s = nn y) (h9 : f + st.kept.length = 12) (h10 : lkd t k f seen st.kept (nn x) = lkd t k 12 [] [] (nn x0)) (h11 : i ≤ 10 * st.kept.length + rank + (min i 30 + 1) / 2)
  {p : RSt × Value} (hm : Moves t k x rank st p) (hc : Comes st p) {k' t' : Int} {l : List UInt8} (hv : p.2 = stepV k' t' (str l)) : Snds t k x0 (i + 1) p.1 k' t' l := by
 obtain ⟨r1, c1, rank', host', e, q1, q2, q3, q4⟩ := hm
 have hs := sent_of hc e h.busy
 refine snds_of hs ?_ hv
 have e1 : p.1 = askSt st r1 c1 := by rw [e]
 refine ⟨hs.live, hs.busy, hs.conf.trans h.conf, hs.asked.trans h.asked, by rw [hs.spent, h.spent], ?_, ?_⟩
 ·rw [e1]; exact h.sm
 ·rw [e1]
  exact ⟨x, rank', host', 1, f, seen, h1, q1, q2, q3, by omega, h6, h7, h8, h9, h10, by show i + 1 ≤ 10 * st.kept.length + rank' + (min (i + 1) 30 + 1) / 2; omega⟩
theorem over_snds (hi : i ≤ 249) {s2 : RSt} {code : Int} {an : List Rc} (hb : s2.busy = false) {v : Value} (hv2 : v = stepV 2 0 (str (replyL ⟨9, false, 0, false, false, true, true, code, [⟨nn x0, k, 1⟩], an, [], []⟩))) (hw : lkd t k 12 [] [] (nn x0) = (code, an)) (hs : ∀ r ∈ an, SmR r) (hl : an.length ≤ 13) (h0 : 0 ≤ code) (h3 : code ≤ 3) {k' t' : Int} {l : List UInt8} (hv : v = stepV k' t' (str l)) : Snds t k x0 i s2 k' t' l := by
 rw [hv2] at hv
 obtain ⟨rfl, rfl, e3⟩ := stepV_inj hv
 exact .over hi ⟨hb, code, an, hw, (str_inj e3).symm, hs, hl, h0, h3⟩
theorem fail_snds (h : Snd t k x0 i st) (s2 : RSt) (ha : s2.asked = st.asked) (hw : lkd t k 12 [] [] (nn x0) = (2, [])) {k' t' : Int} {l : List UInt8} (hv : (failP s2).2 = stepV k' t' (str l)) : Snds t k x0 (i + 1) (failP s2).1 k' t' l := by
 refine over_snds (code := 2) (an := []) (by have := h.bound; omega) rfl ?_ hw (by simp) (by simp) (by decide) (by decide) hv
 unfold failP doneM
 rw [ha, h.asked, if_pos rfl]
 rfl
theorem found_snds (h : Snd t k x0 i st) (l0 : List Rc) (code : Int) (hc2 : code ≠ 2) (hw : lkd t k 12 [] [] (nn x0) = (code, st.kept ++ l0)) (hs : ∀ r ∈ l0, SmR r) (hl : l0.length ≤ 3) (h0 : 0 ≤ code) (h3 : code ≤ 3) {k' t' : Int} {l : List UInt8} (hv : (foundP st l0 code).2 = stepV k' t' (str l)) : Snds t k x0 (i + 1) (foundP st l0 code).1 k' t' l := by
 have hf := h.few
 refine over_snds (code := code) (an := st.kept ++ l0) (by have := h.bound; omega) rfl ?_ hw ?_ (by rw [List.length_append]; omega) h0 h3 hv
 ·unfold foundP doneM
  rw [h.asked, if_neg hc2]
  rfl
 ·intro r hr
  rcases List.mem_append.1 hr with hr | hr
  ·exact h.sm r hr
  ·exact hs r hr
theorem snd_follows (h : Snd t k x0 i st) (k0 : 0 ≤ k) (k1 : k ≤ 65535) (k2 : k ≠ 2) {r : List Ch} {c : Ch} (hl : st.l = r ++ [c]) {host : Nat} (ht : st.to = hostA host) (m : Msg) (hm : m = askM st.id c) (hcm : Comes st (followsP st r c (sayM t host m c.name c.kind))) {k' t' : Int} {l : List UInt8} (hv : (followsP st r c (sayM t host m c.name c.kind)).2 = stepV k' t' (str l)) :
    Snds t k x0 (i + 1) (followsP st r c (sayM t host m c.name c.kind)).1 k' t' l := by
  obtain ⟨x, rank, host', sent, f, seen, h1, h2, h3, h4, h5, h6, h7, h8, h9, h10, h11⟩ := h.ph
  have hho : host' = host := by
    rw [ht] at h3
    unfold hostA at h3
    omega
  subst hho
  have hbu := h.budget
  obtain ⟨p1, p2, p3, p4, p5⟩ := h.parts
  have hfew := h.few
  generalize hL : st.l = L at h2 hl
  have hd0 : 1 ≤ st.d := by rw [p2]; omega
  have ht0 : 1 ≤ st.t := by rw [p4]; omega
  have m1 : m.an = [] := by rw [hm]; rfl
  have m2 : m.ex = [] := by rw [hm]; rfl
  have m3 : m.code = 0 := by rw [hm]; rfl
  have m4 : m.au = [] := by rw [hm]; rfl
  cases h2 with
  | @root d hh p c' hp h0 e q1 q3 hz ho hd hc hs =>
    have e2 : r = [p] ∧ c = c' := by
      have : [p] ++ [c'] = r ++ [c] := hl
      obtain ⟨a1, a2⟩ := List.append_inj' this rfl
      exact ⟨a1.symm, by simpa using a2.symm⟩
    obtain ⟨rfl, rfl⟩ := e2
    rw [hc.name, hc.kind] at hv hcm ⊢
    exact moves_snds h h1 h6 h7 h8 h9 h10 h11 (root_ref hp h0 e q1 q3 hz ho hd hc hbu ht0 m m1 m2 m3) hcm hv
  | @low d hh p c' hp h0 e q1 q3 hz ho hd hc hs =>
    have e2 : r = [p] ∧ c = c' := by
      have : [p] ++ [c'] = r ++ [c] := hl
      obtain ⟨a1, a2⟩ := List.append_inj' this rfl
      exact ⟨a1.symm, by simpa using a2.symm⟩
    obtain ⟨rfl, rfl⟩ := e2
    rw [hc.name, hc.kind] at hv hcm ⊢
    exact moves_snds h h1 h6 h7 h8 h9 h10 h11 (low_own hp h0 e q1 q3 hz ho hd hc hbu ht0 m m4 m3) hcm hv
  | @main z c' hc hs =>
    have e2 : r = [] ∧ c = c' := by
      have : [] ++ [c'] = r ++ [c] := hl
      obtain ⟨a1, a2⟩ := List.append_inj' this rfl
      exact ⟨a1.symm, by simpa using a2.symm⟩
    obtain ⟨rfl, rfl⟩ := e2
    rw [hc.name, hc.kind] at hv hcm ⊢
    obtain ⟨zz, hzz, c1, c2, c3, c4, c5⟩ := deep_some hc.z12 hc.zn hc.lies rfl
    cases hb : belN t (nn x) zz with
    | some d => exact moves_snds h h1 h6 h7 h8 h9 h10 h11 (main_ref hc hbu ht0 hd0 p5 hzz c5 hb m m1 m2 m3) hcm hv
    | none =>
      have hfo := hc.owns (st := st) (r := []) (sayM t (hostN t z) m (nn x) k) (by rw [say_own hzz hb]) (by rw [say_own hzz hb]; exact m4) (by rw [say_own hzz hb]) (by rw [say_own hzz hb, m3])
      have hkind : (st.asked.qs.map Qn.kind).headD 0 = k := by rw [h.asked]; rfl
      rw [hkind] at hfo
      simp only [List.reverse_nil, if_true] at hfo
      rw [hfo] at hv hcm ⊢
      clear hfo
      obtain ⟨f', rfl⟩ : ∃ f', f = f' + 2 := ⟨f - 2, by omega⟩
      have hlk : lkd t k (f' + 2) seen st.kept (nn x) = if hasL t (nn x) k ≠ [] then (0, st.kept ++ hasL t (nn x) k) else match hasL t (nn x) 5 with
          | [] => (if thereB t (nn x) = true then 0 else 3, st.kept)
          | y :: _ => if 10 ≤ st.kept.length then (2, []) else lkd t k (f' + 1) (seen ++ [nn x]) (st.kept ++ [y]) y.data := by
        conv => lhs; unfold lkd
        rw [if_neg (fun e => h7 (any_mem.1 e))]
        cases hasL t (nn x) 5 with
        | nil => rfl
        | cons => rfl
      rw [h10] at hlk
      by_cases hne : hasL t (nn x) k ≠ []
      · rw [if_pos hne] at hv hcm hlk ⊢
        exact found_snds h _ 0 (by decide) hlk (fun r hr => (has_sm hc.x36 k0 k1 k2 hr).1) (has_few hc.x36) (by decide) (by decide) hv
      · rw [if_neg hne] at hv hcm hlk ⊢
        cases h5' : hasL t (nn x) 5 with
        | nil =>
          rw [h5'] at hv hcm hlk
          dsimp only at hv hcm hlk ⊢
          refine found_snds h [] _ ?_ ?_ (by simp) (by simp) ?_ ?_ hv
          · split <;> decide
          · rw [hlk, List.append_nil]
          · split <;> decide
          · split <;> decide
        | cons y ys =>
          rw [h5'] at hv hcm hlk
          dsimp only at hv hcm hlk ⊢
          have hy : y ∈ hasL t (nn x) 5 := by rw [h5']; simp
          obtain ⟨s1, s2, _⟩ := has_sm hc.x36 (by decide) (by decide) (by decide) hy
          obtain ⟨j, hj, hyj⟩ := s2 rfl
          have hseen : ∀ s ∈ seen ++ [nn x], ∃ y, y < 36 ∧ s = nn y := fun s hs => by
            rcases List.mem_append.1 hs with hs | hs
            · exact h8 s hs
            · exact ⟨x, by omega, List.mem_singleton.1 hs⟩
          unfold standsP at hv hcm ⊢
          by_cases hno : st.c < (st.kept.length : Int) + 1 ∨ (st.seen.any fun s => sameB s y.data) = true
          · rw [if_pos hno] at hv hcm ⊢
            refine fail_snds h { st with kept := st.kept ++ [y] } rfl ?_ hv
            rw [hlk]
            by_cases h10' : 10 ≤ st.kept.length
            · rw [if_pos h10']
            · rw [if_neg h10']
              unfold lkd
              rw [if_pos]
              refine any_mem.2 ?_
              rcases hno with hno | hno
              · omega
              · rw [h6, List.any_eq_true] at hno
                obtain ⟨s, hs1, hs2⟩ := hno
                obtain ⟨a, ha, rfl⟩ := hseen s hs1
                rw [hyj, nn_same ha (by omega)] at hs2
                have : a = j := by simpa using hs2
                rw [hyj, ← this]
                exact hs1
          · rw [if_neg hno] at hv hcm ⊢
            have hc10 : ¬ 10 ≤ st.kept.length := fun e => hno (.inl (by omega))
            rw [if_neg hc10] at hlk
            have hsy := send_yes (st := { st with kept := st.kept ++ [y], seen := st.seen ++ [y.data], l := [freshCh st y.data k] }) (by exact hbu) [] (c := freshCh st y.data k) (by show ((0 : Nat) : Int) < st.t; omega)
            rw [hsy] at hv hcm ⊢
            have hs := sent_of hcm rfl h.busy
            refine snds_of hs ?_ hv
            refine ⟨hs.live, hs.busy, hs.conf.trans h.conf, hs.asked.trans h.asked, by rw [hs.spent, h.spent], ?_, ?_⟩
            · intro r hr
              rcases List.mem_append.1 (show r ∈ st.kept ++ [y] from hr) with hr | hr
              · exact h.sm r hr
              · rw [List.mem_singleton.1 hr]; exact s1
            · have hk : (st.kept ++ [y]).length = st.kept.length + 1 := by simp
              refine ⟨j, 0, 0, 1, f' + 1, seen ++ [nn x], by omega, ?_, by show toOf _ = _; rw [to_one (c := freshCh st y.data k) p5], by omega, by omega, ?_, ?_, hseen, ?_, ?_, ?_⟩
              · have := Phs.main (t := t) (k := k) (x := j) (z := 0) (c := { freshCh st y.data k with sent := 1 }) ⟨hyj, rfl, rfl, by omega, by omega, by unfold zoneB; simp, lies_root (by omega)⟩ (by rw [host_zero]; exact p5)
                rw [host_zero, dep_zero] at this
                exact this
              · show st.seen ++ [y.data] = _
                rw [h6, hyj]
              · intro hin
                refine hno (.inr ?_)
                rw [h6, List.any_eq_true]
                exact ⟨nn j, hin, by rw [hyj, nn_same (by omega) (by omega)]; exact decide_eq_true rfl⟩
              · show f' + 1 + (st.kept ++ [y]).length = 12
                omega
              · show lkd t k (f' + 1) (seen ++ [nn x]) (st.kept ++ [y]) (nn j) = _
                rw [hlk, hyj]
              · show i + 1 ≤ 10 * (st.kept ++ [y]).length + 0 + (min (i + 1) 30 + 1) / 2
                rw [hk]
                exact next_i h11 (dep_le hc.z12)
theorem snd_late (h : Snd t k x0 i st) (he : i % 2 = 0) (hi : i < 30) {k' t' : Int} {l : List UInt8} (hv : (lateS st).2.1 = stepV k' t' (str l)) : (lateS st).2.2 = 0 ∧ Snds t k x0 (i + 1) (lateS st).1 k' t' l := by
 obtain ⟨hc, h0⟩ := comes_late ⟨h.live.ok, fun _ => h.live⟩ h.busy
 refine ⟨h0, ?_⟩
 obtain ⟨x, rank, host, sent, f, seen, h1, h2, h3, h4, h5, h6, h7, h8, h9, h10, h11⟩ := h.ph
 obtain ⟨r, c, y, e1, e2, e3, e4, e5, e6⟩ := h2.last
 obtain ⟨p1, p2, p3, p4, p5⟩ := h.parts
 have el : lateS st = (askSt st r c, askStep st c, 0) := by
  unfold lateS
  rw [if_pos h.busy, e1]
  simp only [List.reverse_append, List.reverse_cons, List.reverse_nil, List.nil_append, List.singleton_append, List.reverse_reverse]
  rw [send_yes h.budget _ (by rw [p4]; omega)]
 rw [el] at hv hc ⊢
 have hs := sent_of hc rfl h.busy
 refine snds_of hs ?_ hv
 refine ⟨hs.live, hs.busy, hs.conf.trans h.conf, hs.asked.trans h.asked, by rw [hs.spent, h.spent], h.sm, ?_⟩
 refine ⟨x, rank, host, sent + 1, f, seen, h1, ?_, by show toOf c = _; exact to_one e5, h4, by omega, h6, h7, h8, h9, h10, by show i + 1 ≤ 10 * st.kept.length + rank + (min (i + 1) 30 + 1) / 2; omega⟩
 show Phs t k x (r ++ [{ c with sent := c.sent + 1 }]) rank host (sent + 1)
 generalize hL : st.l = L at h2 e1
 cases h2 with
 | @root d hh p c' hp h0 e q1 q3 hz ho hd hc hs =>
  have e2 : r = [p] ∧ c = c' := by
   have : [p] ++ [c'] = r ++ [c] := e1
   obtain ⟨a1, a2⟩ := List.append_inj' this rfl
   exact ⟨a1.symm, by simpa using a2.symm⟩
  obtain ⟨rfl, rfl⟩ := e2
  exact Phs.root (c := { c with sent := c.sent + 1 }) hp h0 e q1 q3 hz ho hd ⟨hc.name, hc.kind, hc.zone, hc.x36, hc.z12, hc.zn, hc.lies⟩ hs
 | @low d hh p c' hp h0 e q1 q3 hz ho hd hc hs =>
  have e2 : r = [p] ∧ c = c' := by
   have : [p] ++ [c'] = r ++ [c] := e1
   obtain ⟨a1, a2⟩ := List.append_inj' this rfl
   exact ⟨a1.symm, by simpa using a2.symm⟩
  obtain ⟨rfl, rfl⟩ := e2
  exact Phs.low (c := { c with sent := c.sent + 1 }) hp h0 e q1 q3 hz ho hd ⟨hc.name, hc.kind, hc.zone, hc.x36, hc.z12, hc.zn, hc.lies⟩ hs
 | @main z c' hc hs =>
  have e2 : r = [] ∧ c = c' := by
   have : [] ++ [c'] = r ++ [c] := e1
   obtain ⟨a1, a2⟩ := List.append_inj' this rfl
   exact ⟨a1.symm, by simpa using a2.symm⟩
  obtain ⟨rfl, rfl⟩ := e2
  exact Phs.main (c := { c with sent := c.sent + 1 }) ⟨hc.name, hc.kind, hc.zone, hc.x36, hc.z12, hc.zn, hc.lies⟩ hs
end
structure SaidV where
 an : Int
 au : Int
 ex : Int
 rs : ByteArray
def SaidV.cells (x : SaidV) : List Value := [.int .i64 x.an, .int .i64 x.au, .int .i64 x.ex, .string x.rs]
theorem buildKC5 (x d c y : Int) (a : Option Addr) (n m : Nat) (W : World) : (Instr.build 57 #[(0, .int .i64 x), (1, .int .i64 d), (2, .int .i64 c), (3, .int .i64 y), (4, .slice a n m)]).run Tryz.prog W = .ok (.agg #[.int .i64 x, .int .i64 d, .int .i64 c, .int .i64 y, .slice a n m]) W := run_build W _ _ _ (by kernel_rfl)
attribute [local go_sem] buildKC5 buildKQ equalQ guardQ Stg.upon
theorem cellk_lt {w : World} {b o : Nat} {v : Value} (h : w.cell? ⟨b, o, none⟩ = some v) : b < w.heap.size := by
 unfold World.cell? at h
 dsimp only at h
 split at h
 ·rename_i hh
  exact heap_lt hh
 ·cases h
end Go.Proofs.YtafoepfhepdcoaaGreat
namespace Go.Proofs.YtafoepfhepdcoaaGreat
open Go.RowKit Go.Trawl
structure SB (W0 wr : World) (xb sb X : Nat) (vr : PV) (st : RSt) (k tt : Int) (v : Value) (l : List UInt8) : Prop where
 old : Below W0.heap.size W0 wr
 kb : KB W0.heap.size wr xb sb vr st
 box : wr.heap[X]? = some (.cells #[.int .i64 k, .int .u32 tt, v] 59)
 nx : ¬ pOwns xb sb vr X
 xlo : W0.heap.size ≤ X
 own : wr.ownsRow 0 5 1 v l.length (bytesV l)
 apart : ∀ j, v.ownBlock = some j → ¬ pOwns xb sb vr j ∧ j ≠ X ∧ W0.heap.size ≤ j
structure KA (wr w' : World) (xb sb : Nat) (vr vr' : PV) : Prop where
 size : wr.heap.size ≤ w'.heap.size
 keep : ∀ j, j < wr.heap.size → ¬ pOwns xb sb vr j → w'.heap[j]? = wr.heap[j]? ∧ ¬ pOwns xb sb vr' j
structure By (wr : World) (xb sb : Nat) (vr : PV) (b cap : Nat) (s : ByteArray) : Prop where
 bytes : Bytes wr b s
 cap : s.size ≤ cap
 lt : b < wr.heap.size
 no : ¬ pOwns xb sb vr b
theorem own_stay {w w' : World} {e : TypeId} {sz : Nat} {v : Value} {n : Nat} {x : List Value} (h : w.ownsRow 0 e sz v n x) (hk : ∀ j, v.ownBlock = some j → w'.heap[j]? = w.heap[j]?) : w'.ownsRow 0 e sz v n x := by
 refine ⟨h.1, ?_⟩
 rcases h.2 with h2 | ⟨g, cap, cur, rfl, h0, hg, h3⟩
 ·exact .inl h2
 ·exact .inr ⟨g, cap, cur, rfl, h0, (hk g rfl).trans hg, h3⟩
section
variable {a : Option Addr} {b cap : Nat} {s : ByteArray} {W0 w wr w' w2 : World} {xb sb X : Nat} {vr vr' vr2 : PV} {st st' : RSt} {k tt k' tt' : Int} {v v' : Value} {l l' : List UInt8}
theorem KA.below (hb : Below wr.heap.size wr w') : KA wr w' xb sb vr vr := ⟨hb.size, fun j hj hn => ⟨hb.block j hj, hn⟩⟩
theorem KA.trans (h : KA wr w' xb sb vr vr') (h2 : KA w' w2 xb sb vr' vr2) : KA wr w2 xb sb vr vr2 :=
 ⟨Nat.le_trans h.size h2.size, fun j hj hn => by
  have a := h.keep j hj hn
  have b := h2.keep j (Nat.lt_of_lt_of_le hj h.size) a.2
  exact ⟨b.1.trans a.1, b.2⟩⟩
theorem KA.block (h : KA wr w' xb sb vr vr') {j : Nat} {c : Obj} (hj : wr.heap[j]? = some c) (hn : ¬ pOwns xb sb vr j) : w'.heap[j]? = some c ∧ ¬ pOwns xb sb vr' j := by
 have := h.keep j (Array.getElem?_eq_some_iff.1 hj).1 hn
 exact ⟨this.1.trans hj, this.2⟩
theorem By.ka (h : By wr xb sb vr b cap s) (hk : KA wr w' xb sb vr vr') : By w' xb sb vr' b cap s := by
 have := hk.keep b h.lt h.no
 exact ⟨fun i hi => cell_of_heap this.1 (h.bytes i hi), h.cap, Nat.lt_of_lt_of_le h.lt hk.size, this.2⟩
theorem SB.next (h : SB W0 wr xb sb X vr st k tt v l) (hb : Below wr.heap.size wr w') : SB W0 w' xb sb X vr st k tt v l :=
 ⟨h.old.trans (hb.mono h.old.size), h.kb.below hb, (hb.block _ (heap_lt h.box)).trans h.box, h.nx, h.xlo, own_below h.own hb, h.apart⟩
theorem SB.ka (_h : SB W0 wr xb sb X vr st k tt v l) (hb : Below wr.heap.size wr w') : KA wr w' xb sb vr vr := KA.below hb
theorem SB.fresh (h : SB W0 wr xb sb X vr st k tt v l) {j : Nat} (hj : wr.heap.size ≤ j) : ¬ pOwns xb sb vr j := fun e => by have := h.kb.lt e; omega
theorem ka_spoke (h : SB W0 wr xb sb X vr st k tt v l) (sp : Spoke wr w' xb sb vr vr' st' v' l') : KA wr w' xb sb vr vr' := by
 have S := h.kb.spoke sp
 refine ⟨sp.fr.size, fun j hj hn => ⟨S.keep j hj hn, fun e => ?_⟩⟩
 rcases S.owns j e with e | e
 ·exact hn e
 ·omega
theorem SB.quiet (h : SB W0 wr xb sb X vr st k tt v l) (sp : Spoke wr w' xb sb vr vr' st v' l') : SB W0 w' xb sb X vr' st k tt v l := by
 have S := h.kb.spoke sp
 have ka := ka_spoke h sp
 have hbx := ka.block h.box h.nx
 refine ⟨h.old.trans S.below, S.kb, hbx.1, hbx.2, h.xlo, ?_, fun j hj => ?_⟩
 ·refine own_stay h.own fun j hj => ?_
  exact (ka.keep j (h.own.lt j hj).2 (h.apart j hj).1).1
 ·have h1 := h.apart j hj
  have hlt := (h.own.lt j hj).2
  exact ⟨(ka.keep j hlt h1.1).2, h1.2⟩
theorem SB.turn (h : SB W0 wr xb sb X vr st k tt v l) (sp : Spoke wr w' xb sb vr vr' st' v' l') : w'.heap[X]? = some (.cells #[.int .i64 k, .int .u32 tt, v] 59) ∧ SB W0 (put3 w' X (.int .i64 k') (.int .u32 tt') v') xb sb X vr' st' k' tt' v' l' := by
 have S := h.kb.spoke sp
 have ka := ka_spoke h sp
 have hbx := ka.block h.box h.nx
 have hG := put3_grown w' X (.int .i64 k') (.int .u32 tt') v'
 have hX := heap_lt h.box
 have hz := S.below.size
 have ho := h.old.size
 refine ⟨hbx.1, ⟨(h.old.trans S.below).trans (kb_put hG h.xlo (by omega)), S.kb.aside hG hbx.2, put3_box _ _ _ hbx.1, hbx.2, h.xlo, own_grown S.own hG (fun e => by have := S.new _ e; omega), fun j hj => ?_⟩⟩
 have := S.new j hj
 exact ⟨S.apart j hj, by omega, by omega⟩
theorem By.of {lo cp : Nat} {L : List UInt8} (h : SB W0 wr xb sb X vr st k tt v l) (_hb : Below wr.heap.size wr w') (ho : w'.ownsRow lo 5 1 (.slice a L.length cp) L.length (bytesV L)) (hlo : wr.heap.size ≤ lo) (hne : L ≠ []) : ∃ g, a = some ⟨g, 0, none⟩ ∧ By w' xb sb vr g cp (str L) := by
 obtain ⟨g, rfl, hby, hc, hlt⟩ := own_bytes (own_zero ho) hne
 have := (ho.lt g rfl).1
 exact ⟨g, rfl, hby, hc, hlt, h.fresh (by omega)⟩
end
end Go.Proofs.YtafoepfhepdcoaaGreat
