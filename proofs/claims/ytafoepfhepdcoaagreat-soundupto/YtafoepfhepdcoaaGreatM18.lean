import Derived.Test.YtafoepfhepdcoaaGreatM17
import Derived.Test.YtafoepfhepdcoaaGreatM12
import Derived.Test.YtafoepfhepdcoaaGreatM13
set_option maxRecDepth 100000
set_option maxHeartbeats 8000000
namespace Go.Proofs.YtafoepfhepdcoaaGreat
open Go.RowKit Go.Trawl
def belowB (c : Ch) (r : Rc) : Bool := decide (r.kind = 2) && !sameB r.name c.zone && liesB c.name r.name
def zoneV (o : Option Rc) : Value := match o with
 | some x => .tuple #[.string x.name, .bool true]
 | none => .tuple #[.string ⟨#[]⟩, .bool false]
theorem find_take {α : Type} {P : α → Bool} {l : List α} {k : Nat} {r : α} (h : l[k]? = some r) (hn : (l.take k).find? P = none) : (l.take (k + 1)).find? P = if P r then some r else none := by
 rw [take_snoc l k r h, List.find?_append, hn]
 simp [List.find?]
 split <;> simp_all
theorem find_hit {α : Type} {P : α → Bool} {l : List α} {k : Nat} {r : α} (h : l[k]? = some r) (hn : (l.take k).find? P = none) (hp : P r = true) : l.find? P = some r := by
 have e : l = l.take (k + 1) ++ l.drop (k + 1) := (List.take_append_drop _ _).symm
 rw [e, List.find?_append, find_take h hn, if_pos hp]
 rfl
theorem q_zoneBelow (w : World) (c : QC) (r : List QC) (v : Value) (l : List Rc) (h : Chain w (c :: r)) (hcn : nameB c.ch.name = true) (hl : l.length ≤ 65535) (hnm : ∀ x ∈ l, nameB x.name = true) (hv : Lies w 5 v (l.map Rc.cells)) :
  Calls Tryz.prog 120 #[.pointer (some ⟨c.blk, 0, none⟩), v] w fun e w' => e = .returned (zoneV (l.find? (belowB c.ch))) ∧ Hid (Below w.heap.size w w') := by
 obtain ⟨av, cv, rfl, -, hv⟩ := hv
 rw [List.length_map]
 have HV := hide hv
 have HNM := hide hnm
 have HCN := hide hcn
 have hbx := h.1
 have hbl := heap_lt hbx
 obtain ⟨ch, blk, vs, vn⟩ := c
 obtain ⟨cnm, ckd, czn, csv, csn, cns⟩ := ch
 dsimp only at *
 have HBX := hide hbx
 clear hv hnm hcn h hbx
 obtain ⟨F, hF⟩ : ∃ F, F = l.find? (belowB ⟨cnm, ckd, czn, csv, csn, cns⟩) := ⟨_, rfl⟩
 rw [← hF]
 have HF := hide hF
 clear hF
 go_enter Tryz.func120, Tryz.ntmps120
 go_wp2_with fail
 go_loopw [10] (fun i wr => ∃ (k : Nat), i = .int .i64 k ∧ k ≤ l.length ∧ Hid ((l.take k).find? (belowB ⟨cnm, ckd, czn, csv, csn, cns⟩) = none) ∧ Hid (Below w.heap.size w wr)) (fun i _ => l.length - (intOf i).toNat)
 case atStart => exact ⟨0, rfl, Nat.zero_le _, by simp [Hid], Below.refl _ _⟩
 case round =>
  obtain ⟨k, rfl, hk, HX, HO⟩ := hrel
  by_cases hin : k < l.length
  ·obtain ⟨x, hr⟩ : ∃ x, l[k]? = some x := ⟨_, List.getElem?_eq_getElem hin⟩
   rcases HV.out with he | ⟨b, off, rfl, hbl2, hc⟩
   ·exfalso; have := congrArg List.length he; simp at this; subst this; simp at hin
   obtain ⟨c0, c1, c2, c3, c4⟩ := Lies.rat hc hr
   have HN1 := hide (HNM.out x (List.mem_of_getElem? hr))
   have HTK : Hid ((l.take (k + 1)).find? (belowB ⟨cnm, ckd, czn, csv, csn, cns⟩) = if belowB ⟨cnm, ckd, czn, csv, csn, cns⟩ x then some x else none) := find_take hr HX.out
   have HTH := hide (fun hp => find_hit (P := belowB ⟨cnm, ckd, czn, csv, csn, cns⟩) hr HX.out hp)
   have t1 : ∀ o u, w.cell? ⟨b, o, none⟩ = some u → wr.cell? ⟨b, o, none⟩ = some u := fun o u => cell_of_heap (HO.out.block b hbl2)
   replace c0 := t1 _ _ c0
   replace c1 := t1 _ _ c1
   replace c2 := t1 _ _ c2
   replace c3 := t1 _ _ c3
   replace c4 := t1 _ _ c4
   have hwz := HO.out.size
   have HOa : Hid (Below w.heap.size w (wr.alloc (.cells #[.string x.name, .int .u16 x.kind, .int .u16 x.cls, .int .u32 x.ttl, .string x.data] 69))) := HO.out.alloc hwz _
   have hcr := box_cells (heap_new wr (.cells #[.string x.name, .int .u16 x.kind, .int .u16 x.cls, .int .u32 x.ttl, .string x.data] 69))
   have hcc := box_cells ((HOa.out.block blk hbl).trans HBX.out)
   simp only [qcCells] at hcc
   obtain ⟨nm, kd, cl, tt, dt⟩ := x
   dsimp only at c0 c1 c2 c3 c4 HOa hcr hcc HN1
   have hnz := nameB_size HN1.out
   clear hc hr t1
   go_wp2_with fail
   generalize wr.alloc _ = W1 at HOa hcr hcc ⊢
   by_cases h2 : kd = 2
   ·by_cases hsm : sameB nm czn = true
    ·have HP : Hid (belowB ⟨cnm, ckd, czn, csv, csn, cns⟩ ⟨nm, kd, cl, tt, dt⟩ = false) := by simp [Hid, belowB, hsm]
     subst h2
     go_quiet ((go_at_call 117; exact Calls.quiet_of (q_same nm czn (by omega) _)))
     go_wp2_with fail
     exact ⟨⟨k + 1, by go_num, by omega, by unfold Hid; rw [HTK.out, HP.out]; rfl, below_drewN HOa.out _⟩, by simp [intOf]; omega⟩
    ·have hsm2 : sameB nm czn = false := by simpa using hsm
     subst h2
     go_quiet ((first | (go_at_call 117; exact Calls.quiet_of (q_same nm czn (by omega) _)) | (go_at_call 155; exact Calls.quiet_of (q_liesIn cnm nm HCN.out HN1.out _))))
     by_cases hls : liesB cnm nm = true
     ·have HP : Hid (belowB ⟨cnm, ckd, czn, csv, csn, cns⟩ ⟨nm, 2, cl, tt, dt⟩ = true) := by simp [Hid, belowB, hsm2, hls]
      rw [hls]
      go_wp2_with fail
      refine bodyPost_ret (results_tmp2 rfl _ _ _) rfl ?_
      have e := HTH.out HP.out
      exact ⟨by rw [HF.out, e]; rfl, below_drewN HOa.out _⟩
     ·have hls2 : liesB cnm nm = false := by simpa using hls
      have HP : Hid (belowB ⟨cnm, ckd, czn, csv, csn, cns⟩ ⟨nm, 2, cl, tt, dt⟩ = false) := by simp [Hid, belowB, hls2]
      rw [hls2]
      go_wp2_with fail
      exact ⟨⟨k + 1, by go_num, by omega, by unfold Hid; rw [HTK.out, HP.out]; rfl, below_drewN HOa.out _⟩, by simp [intOf]; omega⟩
   ·have HP : Hid (belowB ⟨cnm, ckd, czn, csv, csn, cns⟩ ⟨nm, kd, cl, tt, dt⟩ = false) := by simp [Hid, belowB, h2]
    have hb : ((kd : Int) == 2) = false := by simp; exact h2
    go_quiet (fail)
    go_wp2_with fail
    exact ⟨⟨k + 1, by go_num, by omega, by unfold Hid; rw [HTK.out, HP.out]; rfl, below_drewN HOa.out _⟩, by simp [intOf]; omega⟩
  ·go_wp2_with fail
   refine bodyPost_ret (results_tmp2 rfl _ _ _) rfl ?_
   have e : F = none := by rw [HF.out]; have := HX.out; rw [List.take_of_length_le (by omega)] at this; exact this
   exact ⟨by rw [e]; rfl, HO.out⟩
attribute [local go_sem] mf
theorem enter1_any (W : World) (n dt : ByteArray) (rb : Nat) (hrb : W.cell? ⟨rb, 4, none⟩ = some (.string dt)) (hn : n.size ≤ 2097152) :
  Calls Tryz.prog 161 #[.string n, .pointer (some ⟨rb, 0, none⟩)] W fun e w' => e = .returned (.bool (sameB n dt)) ∧ ∃ m, w' = W.drewN m := by
 go_enter Tryz.func161, Tryz.ntmps161
 go_wp2_with fail
 refine (q_same n dt hn W).mono ?_
 rintro e w1 ⟨rfl, m, hw⟩
 have HW : Hid (∃ m, w1 = W.drewN m) := ⟨m, hw⟩
 clear hw
 go_wp2_with fail
 go_ret
 exact ⟨rfl, HW.out⟩
theorem ent_enter : Enters Tryz.prog 161 := enters_of Tryz.func161 (by kernel_rfl) rfl
theorem any_snoc {α : Type} {P : α → Bool} {l : List α} {k : Nat} {x : α} (h : l[k]? = some x) (hn : (l.take k).any P = false) : (l.take (k + 1)).any P = P x := by
 rw [take_snoc l k x h, List.any_append, hn]
 simp
theorem any_hit {α : Type} {P : α → Bool} {l : List α} {k : Nat} {x : α} (h : l[k]? = some x) (hp : P x = true) : l.any P = true := List.any_eq_true.2 ⟨x, List.mem_of_getElem? h, hp⟩
theorem index_texts (w : World) (v : Value) (l : List ByteArray) (dt : ByteArray) (rb : Nat) (hrb : w.cell? ⟨rb, 4, none⟩ = some (.string dt)) (hn : ∀ n ∈ l, n.size ≤ 2097152) (hl : l.length ≤ 65535) (hv : Lies w 1 v (textsV l)) :
  Calls Tryz.prog 174 #[v, .func (.func 161) #[] #[.pointer (some ⟨rb, 0, none⟩)]] w fun e w' => ∃ i : Int, e = .returned (.int .i64 i) ∧ Hid (decide (0 ≤ i) = l.any (fun n => sameB n dt)) ∧ ∃ m, w' = w.drewN m := by
 obtain ⟨av, cv, rfl, -, hv⟩ := hv
 have hlen : (textsV l).length = l.length := by simp [textsV]
 rw [hlen]
 have HV := hide hv
 have HN := hide hn
 have hent := ent_enter
 unfold Enters at hent
 clear hv hn hlen
 go_enter Tryz.func174, Tryz.ntmps174
 go_wp2_with fail
 go_loopw [8] (fun i wr => ∃ (k : Nat), i = .int .i64 k ∧ k ≤ l.length ∧ Hid ((l.take k).any (fun n => sameB n dt) = false) ∧ Hid (∃ m, wr = w.drewN m)) (fun i _ => l.length - (intOf i).toNat)
 case atStart => exact ⟨0, rfl, Nat.zero_le _, by simp [Hid], 0, rfl⟩
 case round =>
  obtain ⟨k, rfl, hk, HX, HO⟩ := hrel
  have hcw : ∀ p, wr.cell? p = w.cell? p := by obtain ⟨m, rfl⟩ := HO.out; intro p; rfl
  by_cases hin : k < l.length
  ·obtain ⟨x, hr⟩ : ∃ x, l[k]? = some x := ⟨_, List.getElem?_eq_getElem hin⟩
   rcases HV.out with he | ⟨b, off, rfl, hbl2, hc⟩
   ·exfalso; have := congrArg List.length he; simp [textsV] at this; subst this; simp at hin
   have hcx : wr.cell? ⟨b, off + k, none⟩ = some (.string x) := by
    rw [hcw]
    have := hc k [.string x] (by simp [textsV, hr]) 0 (.string x) rfl
    simpa using this
   have hrb' : wr.cell? ⟨rb, 4, none⟩ = some (.string dt) := by rw [hcw]; exact hrb
   have hxs := HN.out x (List.mem_of_getElem? hr)
   have HTK : Hid ((l.take (k + 1)).any (fun n => sameB n dt) = sameB x dt) := any_snoc hr HX.out
   have HTH : Hid (sameB x dt = true → l.any (fun n => sameB n dt) = true) := fun hp => any_hit hr hp
   clear hc hr hcw
   go_wp2_with fail
   refine (enter1_any wr x dt rb hrb' hxs).mono ?_
   rintro e w1 ⟨rfl, m, hw⟩
   have HW : Hid (∃ m, w1 = w.drewN m) := by
    obtain ⟨m0, h0⟩ := HO.out
    exact ⟨m0 + m, by rw [hw, h0, World.drewN_drewN]⟩
   clear hw hcx hrb'
   by_cases hp : sameB x dt = true
   ·rw [hp]
    go_wp2_with fail
    go_ret
    exact ⟨k, rfl, by unfold Hid; rw [HTH.out hp]; simp, HW.out⟩
   ·have hp2 : sameB x dt = false := by simpa using hp
    rw [hp2]
    go_wp2_with fail
    exact ⟨⟨k + 1, by go_num, by omega, by unfold Hid; rw [HTK.out, hp2], HW.out⟩, by simp [intOf]; omega⟩
  ·go_wp2_with fail
   go_ret
   have e : l.any (fun n => sameB n dt) = false := by have := HX.out; rw [List.take_of_length_le (by omega)] at this; exact this
   exact ⟨-1, rfl, by unfold Hid; rw [e]; decide, HO.out⟩
theorem has_texts (w : World) (v : Value) (l : List ByteArray) (dt : ByteArray) (rb : Nat) (hrb : w.cell? ⟨rb, 4, none⟩ = some (.string dt)) (hn : ∀ n ∈ l, n.size ≤ 2097152) (hl : l.length ≤ 65535) (hv : Lies w 1 v (textsV l)) :
  Calls Tryz.prog 160 #[v, .func (.func 161) #[] #[.pointer (some ⟨rb, 0, none⟩)]] w fun e w' => e = .returned (.bool (l.any (fun n => sameB n dt))) ∧ ∃ m, w' = w.drewN m := by
 have HV := hide hv
 have HN := hide hn
 clear hv hn
 go_enter Tryz.func160, Tryz.ntmps160
 go_wp2_with fail
 refine (index_texts w v l dt rb hrb HN.out hl HV.out).mono ?_
 rintro e w1 ⟨i, rfl, HI, HW⟩
 go_wp2_with fail
 go_ret
 exact ⟨ret_bool HI.out, HW⟩
end Go.Proofs.YtafoepfhepdcoaaGreat
namespace Go.Proofs.YtafoepfhepdcoaaGreat
open Go.RowKit Go.Trawl
attribute [local go_sem] mf
theorem ahead1_any (W : World) (r : Rc) (n : ByteArray) (nb : Nat) (hnb : W.cell? ⟨nb, 0, none⟩ = some (.string n)) (hbl : nb < W.heap.size) (hn : n.size ≤ 2097152) :
  Calls Tryz.prog 173 #[.agg #[.string r.name, .int .u16 r.kind, .int .u16 r.cls, .int .u32 r.ttl, .string r.data], .pointer (some ⟨nb, 0, none⟩)] W fun e w' => e = .returned (.bool (sameB n r.data)) ∧ Hid (Below W.heap.size W w') := by
 have hb1 := (Below.refl W.heap.size W).alloc (Nat.le_refl _) (.cells #[.string r.name, .int .u16 r.kind, .int .u16 r.cls, .int .u32 r.ttl, .string r.data] 69)
 have hnb1 := cell_of_heap (hb1.block nb hbl) hnb
 have HB := hide hb1
 obtain ⟨nm, kd, cl, tt, dt⟩ := r
 dsimp only at *
 clear hb1 hnb
 go_enter Tryz.func173, Tryz.ntmps173
 go_wp2_with fail
 refine (q_same n dt hn _).mono ?_
 rintro e w5 ⟨rfl, n5, hw5⟩
 have HB5 : Hid (Below W.heap.size W w5) := by rw [hw5]; exact below_drewN HB.out n5
 clear hw5
 go_wp2_with fail
 go_ret
 exact ⟨rfl, HB5.out⟩
theorem ent_ahead : Enters Tryz.prog 173 := enters_of Tryz.func173 (by kernel_rfl) rfl
theorem index_recs (w : World) (v : Value) (l : List Rc) (n : ByteArray) (nb : Nat) (hnb : w.cell? ⟨nb, 0, none⟩ = some (.string n)) (hbl : nb < w.heap.size) (hn : n.size ≤ 2097152) (hl : l.length ≤ 65535) (hv : Lies w 5 v (l.map Rc.cells)) :
  Calls Tryz.prog 177 #[v, .func (.func 173) #[] #[.pointer (some ⟨nb, 0, none⟩)]] w fun e w' => ∃ i : Int, e = .returned (.int .i64 i) ∧ Hid (decide (0 ≤ i) = l.any (fun r => sameB n r.data)) ∧ Hid (Below w.heap.size w w') := by
 obtain ⟨av, cv, rfl, -, hv⟩ := hv
 rw [List.length_map]
 have HV := hide hv
 have hent := ent_ahead
 unfold Enters at hent
 clear hv
 go_enter Tryz.func177, Tryz.ntmps177
 go_wp2_with fail
 go_loopw [8] (fun i wr => ∃ (k : Nat), i = .int .i64 k ∧ k ≤ l.length ∧ Hid ((l.take k).any (fun r => sameB n r.data) = false) ∧ Hid (Below w.heap.size w wr)) (fun i _ => l.length - (intOf i).toNat)
 case atStart => exact ⟨0, rfl, Nat.zero_le _, by simp [Hid], Below.refl _ _⟩
 case round =>
  obtain ⟨k, rfl, hk, HX, HO⟩ := hrel
  by_cases hin : k < l.length
  ·obtain ⟨x, hr⟩ : ∃ x, l[k]? = some x := ⟨_, List.getElem?_eq_getElem hin⟩
   rcases HV.out with he | ⟨b, off, rfl, hbl2, hc⟩
   ·exfalso; have := congrArg List.length he; simp at this; subst this; simp at hin
   obtain ⟨c0, c1, c2, c3, c4⟩ := Lies.rat hc hr
   have t1 : ∀ o u, w.cell? ⟨b, o, none⟩ = some u → wr.cell? ⟨b, o, none⟩ = some u := fun o u => cell_of_heap (HO.out.block b hbl2)
   replace c0 := t1 _ _ c0
   replace c1 := t1 _ _ c1
   replace c2 := t1 _ _ c2
   replace c3 := t1 _ _ c3
   replace c4 := t1 _ _ c4
   have hnb' := cell_of_heap (HO.out.block nb hbl) hnb
   have hwz := HO.out.size
   have HTK : Hid ((l.take (k + 1)).any (fun r => sameB n r.data) = sameB n x.data) := any_snoc hr HX.out
   have HTH : Hid (sameB n x.data = true → l.any (fun r => sameB n r.data) = true) := fun hp => any_hit hr hp
   obtain ⟨nm, kd, cl, tt, dt⟩ := x
   dsimp only at c0 c1 c2 c3 c4 HTK HTH
   clear hc hr t1
   go_wp2_with fail
   refine (ahead1_any wr ⟨nm, kd, cl, tt, dt⟩ n nb hnb' (by omega) hn).mono ?_
   rintro e w1 ⟨rfl, HB1⟩
   have HW := hide (HO.out.trans (HB1.out.mono HO.out.size))
   clear c0 c1 c2 c3 c4 hnb' HB1
   dsimp only
   by_cases hp : sameB n dt = true
   ·rw [hp]
    go_wp2_with fail
    go_ret
    exact ⟨k, rfl, by unfold Hid; rw [HTH.out hp]; simp, HW.out⟩
   ·have hp2 : sameB n dt = false := by simpa using hp
    rw [hp2]
    go_wp2_with fail
    exact ⟨⟨k + 1, by go_num, by omega, by unfold Hid; rw [HTK.out, hp2], HW.out⟩, by simp [intOf]; omega⟩
  ·go_wp2_with fail
   go_ret
   have e : l.any (fun r => sameB n r.data) = false := by have := HX.out; rw [List.take_of_length_le (by omega)] at this; exact this
   exact ⟨-1, rfl, by unfold Hid; rw [e]; decide, HO.out⟩
theorem has_recs (w : World) (v : Value) (l : List Rc) (n : ByteArray) (nb : Nat) (hnb : w.cell? ⟨nb, 0, none⟩ = some (.string n)) (hbl : nb < w.heap.size) (hn : n.size ≤ 2097152) (hl : l.length ≤ 65535) (hv : Lies w 5 v (l.map Rc.cells)) :
  Calls Tryz.prog 172 #[v, .func (.func 173) #[] #[.pointer (some ⟨nb, 0, none⟩)]] w fun e w' => e = .returned (.bool (l.any (fun r => sameB n r.data))) ∧ Hid (Below w.heap.size w w') := by
 have HV := hide hv
 clear hv
 go_enter Tryz.func172, Tryz.ntmps172
 go_wp2_with fail
 refine (index_recs w v l n nb hnb hbl hn hl HV.out).mono ?_
 rintro e w1 ⟨i, rfl, HI, HW⟩
 go_wp2_with fail
 go_ret
 exact ⟨ret_bool HI.out, HW.out⟩
end Go.Proofs.YtafoepfhepdcoaaGreat
namespace Go.Proofs.YtafoepfhepdcoaaGreat
open Go.RowKit Go.Trawl
theorem buildMb (i : Int) (wt : Bool) (a : Option Addr) (n c : Nat) (W : World) : (Instr.build 30 #[(0, .int .u16 i), (1, .bool true), (5, .bool wt), (6, .bool true), (8, .slice a n c)]).run Tryz.prog W = .ok (.agg #[.int .u16 i, .bool true, .int .i64 0, .bool false, .bool false, .bool wt, .bool true, .int .i64 0, .slice a n c, .slice none 0 0, .slice none 0 0, .slice none 0 0]) W := run_build W _ _ _ (by kernel_rfl)
attribute [local go_sem] mf buildMb fieldQ0
def replyM (m : Msg) (q : Qn) : Msg := ⟨m.id, true, 0, false, false, m.wanted, true, 0, [q], [], [], []⟩
def beginQ (s : QSt) (m : Msg) (q : Qn) : QSt := startQ { s with reply := replyM m q } (newQ q.name q.kind) []
def repL (m : Msg) (vq : Value) : List Value := [.int .u16 m.id, .bool true, .int .i64 0, .bool false, .bool false, .bool m.wanted, .bool true, .int .i64 0, vq, .slice none 0 0, .slice none 0 0, .slice none 0 0]
theorem QAt.reply {w : World} {sb : Nat} {s : QSt} {V : QV} {cs : List QC} (h : QAt w sb s V cs) (m : Msg) (q : Qn) (vq : Value) (hq : Lies w 3 vq [q.cells]) (hk : ∀ k, vq.ownBlock = some k → k < w.heap.size ∧ ¬ V.owns cs sb k) :
  QAt (putN sb w 9 (repL m vq)) sb { s with reply := replyM m q } ⟨V.vR, vq, .slice none 0 0⟩ cs ∧ ∀ i, QV.owns ⟨V.vR, vq, .slice none 0 0⟩ cs sb i → V.owns cs sb i ∨ vq.ownBlock = some i := by
 have hwr : ∀ i, QV.writes ⟨V.vR, vq, .slice none 0 0⟩ cs sb i → V.writes cs sb i := by
  rintro i (e | e | e)
  ·exact .inl e
  ·cases e
  ·exact .inr (.inr e)
 have how : ∀ i, QV.owns ⟨V.vR, vq, .slice none 0 0⟩ cs sb i → V.owns cs sb i ∨ vq.ownBlock = some i := by
  rintro i (e | ⟨v, hv, e⟩)
  ·exact .inl (.inl (hwr i e))
  ·rcases mem_reads.1 hv with rfl | rfl | e1
   ·exact .inl (.inr ⟨_, mem_reads.2 (.inl rfl), e⟩)
   ·exact .inr e
   ·exact .inl (.inr ⟨v, mem_reads.2 (.inr (.inr e1)), e⟩)
 have hbx := putN_box sb (repL m vq) w 9 _ h.box
 have he : setN (qCells s V sb cs) 9 (repL m vq) = qCells { s with reply := replyM m q } ⟨V.vR, vq, .slice none 0 0⟩ sb cs := by simp [setN, repL, qCells, replyM]
 rw [he] at hbx
 refine ⟨h.turn (putN_grown sb _ w 9) hbx rfl rfl hq (World.ownsRow_nil _ _ _ _) h.chs h.chain h.nod (fun v hv k e hw => ?_) (fun k e => ?_), how⟩
 ·rcases mem_reads.1 hv with rfl | rfl | e1
  ·exact h.free _ (mem_reads.2 (.inl rfl)) k e (hwr k hw)
  ·exact (hk k e).2 (.inl (hwr k hw))
  ·exact h.free v (mem_reads.2 (.inr (.inr e1))) k e (hwr k hw)
 ·rcases how k e with e | e
  ·exact h.lt k e
  ·exact (hk k e).1
theorem q_begin (w : World) (sb : Nat) (s : QSt) (V : QV) (cs : List QC) (m : Msg) (q : Qn) (vq va vu vx : Value) (h : QAt w sb s V cs) (hq : Lies w 3 vq [q.cells]) (hk : ∀ k, vq.ownBlock = some k → k < w.heap.size ∧ ¬ V.owns cs sb k) :
  Calls Tryz.prog 77 #[.pointer (some ⟨sb, 0, none⟩), .agg (msgCells m vq va vu vx)] w fun e w' => e = .returned (.tuple #[]) ∧ Hid (∃ V' cs', QAt w' sb (beginQ s m q) V' cs' ∧ Fr w w' (fun i => V.owns cs sb i ∨ vq.ownBlock = some i) (V'.owns cs' sb)) := by
 have hb1 := (Below.refl w.heap.size w).alloc (Nat.le_refl _) (.cells (msgCells m vq va vu vx) 30)
 have HB1 := hide hb1
 have h1 := h.below hb1
 have HR := hide (h1.reply m q vq (hq.below hb1) (fun k e => ⟨Nat.lt_of_lt_of_le (hk k e).1 hb1.size, (hk k e).2⟩))
 have hc := box_cells h1.box
 have hf := frozen_of_block h1.box
 simp only [qCells] at hc
 have hx := heap_new w (.cells (msgCells m vq va vu vx) 30)
 have hcx := box_cells hx
 have hl1 := h.slt
 have n1 : ¬ w.heap.size = sb := by omega
 have n2 : ¬ sb = w.heap.size := by omega
 obtain ⟨aq, cq, hvq, _⟩ := hq
 subst hvq
 unfold msgCells at hcx hc hf HR HB1 ⊢
 clear h h1 hb1 hx
 go_enter Tryz.func77, Tryz.ntmps77
 go_wp2_with (with_reducible refine stop_load _ (.tmp 5) rfl ?_)
 unfold Stopped
 have hz1 := alloc_size w (.cells #[.int .u16 m.id, .bool m.resp, .int .i64 m.op, .bool m.own, .bool m.cut, .bool m.wanted, .bool m.able, .int .i64 m.code, .slice aq [q.cells].length cq, va, vu, vx] 30)
 generalize w.alloc _ = W1 at HB1 HR hc hf hcx hz1 ⊢
 simp only [putN, repL, Nat.reduceAdd] at HR
 have HG : Hid (W1.grownBy (putN sb W1 9 (repL m (.slice aq [q.cells].length cq))) (some sb)) := putN_grown sb _ W1 9
 simp only [putN, repL, Nat.reduceAdd] at HG
 go_wp2_with fail
 generalize (World.setCell _ ⟨sb, 20, none⟩ (Value.slice none 0 0)) = W2 at HR HG ⊢
 clear hc hf hcx
 refine (q_asked W2 sb _ _ _ q HR.out.1 rfl).mono ?_
 rintro e w3 ⟨rfl, HB3⟩
 go_wp2_with fail
 refine (q_lookUp w3 sb _ _ _ q.name q (HR.out.1.below HB3.out) rfl).mono ?_
 rintro e w4 ⟨rfl, H4⟩
 go_wp2_with fail
 go_end0
 obtain ⟨cs', h4, f4⟩ := H4.out
 refine ⟨rfl, _, cs', h4, ?_⟩
 have f2 : Fr w W2 (fun i => V.owns cs sb i ∨ (Value.slice aq [q.cells].length cq).ownBlock = some i) (QV.owns ⟨V.vR, .slice aq [q.cells].length cq, .slice none 0 0⟩ cs sb) := (Fr.of_below HB1.out _).turn HG.out (.inl (.inl (.inl (.inl rfl)))) (fun i hi => .inl (HR.out.2 i hi))
 exact (f2.trans (Fr.of_below HB3.out _)).trans f4
end Go.Proofs.YtafoepfhepdcoaaGreat
namespace Go.Proofs.YtafoepfhepdcoaaGreat
open Go.RowKit Go.Trawl
attribute [local go_sem] mf fieldQ0 Stg.upon
def aheadB (s : QSt) (q : Qn) (n : ByteArray) : Bool := sameB n q.name || s.reply.an.any (fun r => sameB n r.data)
theorem q_isAhead (w : World) (sb : Nat) (s : QSt) (V : QV) (cs : List QC) (q : Qn) (n : ByteArray) (h : QAt w sb s V cs) (hq : s.reply.qs = [q]) (hn : n.size ≤ 2097152) (hl : s.reply.an.length ≤ 65535) :
  Calls Tryz.prog 159 #[.pointer (some ⟨sb, 0, none⟩), .string n] w fun e w' => e = .returned (.bool (aheadB s q n)) ∧ Hid (Below w.heap.size w w') := by
 have hb1 := (Below.refl w.heap.size w).alloc (Nat.le_refl _) (.cells #[.string n] 9)
 have h1 := h.below hb1
 have HX := hide (heap_new w (.cells #[.string n] 9))
 have HB := hide hb1
 have HQ := hide hq
 obtain ⟨vR, vq, vK⟩ := V
 obtain ⟨aK, cK, rfl⟩ := own_slice (show w.ownsRow 0 69 5 vK s.reply.an.length ((s.reply.an.map Rc.cells).flatten) from h.kept)
 have H1 := hide h1
 clear hb1 h1 h hq
 go_enter Tryz.func159, Tryz.ntmps159
 go_wp2_with fail
 generalize w.alloc _ = W1 at HX HB H1 ⊢
 have HC : Hid (∀ w', Below W1.heap.size W1 w' → w'.cell? ⟨w.heap.size, 0, none⟩ = some (.string n) ∧ w'.cell? ⟨sb, 18, none⟩ = some (.slice aK s.reply.an.length cK)) := fun w' hb => ⟨(box_cells ((hb.block _ (heap_lt HX.out)).trans HX.out) 0).trans rfl, (box_cells (H1.out.below hb).box 18).trans rfl⟩
 obtain ⟨hc1, hc2⟩ := HC.out W1 (Below.refl _ _)
 have HA1 : Hid (∀ w5, Below W1.heap.size W1 w5 → Calls Tryz.prog 114 #[.pointer (some ⟨sb, 0, none⟩)] w5 fun e w' => e = .returned (.agg #[.string q.name, .int .u16 q.kind, .int .u16 q.cls]) ∧ Hid (Below W1.heap.size W1 w') ∧ w'.cell? ⟨w.heap.size, 0, none⟩ = some (.string n) ∧ w'.cell? ⟨sb, 18, none⟩ = some (.slice aK s.reply.an.length cK)) := fun w5 hb => by
  refine (q_asked w5 sb s _ cs q (H1.out.below hb) HQ.out).mono ?_
  rintro e w6 ⟨rfl, HB6⟩
  have hb6 := hb.trans (HB6.out.mono hb.size)
  exact ⟨rfl, hb6, HC.out w6 hb6⟩
 have HA2 : Hid (∀ w5, Below W1.heap.size W1 w5 → Calls Tryz.prog 117 #[.string n, .string q.name] w5 fun e w' => e = .returned (.bool (sameB n q.name)) ∧ Hid (Below W1.heap.size W1 w') ∧ w'.cell? ⟨w.heap.size, 0, none⟩ = some (.string n) ∧ w'.cell? ⟨sb, 18, none⟩ = some (.slice aK s.reply.an.length cK)) := fun w5 hb => by
  refine (q_same n q.name hn w5).mono ?_
  rintro e w6 ⟨rfl, n6, rfl⟩
  have hb6 := below_drewN hb n6
  exact ⟨rfl, hb6, HC.out _ hb6⟩
 have HA3 : Hid (∀ w5, Below W1.heap.size W1 w5 → Calls Tryz.prog 172 #[.slice aK s.reply.an.length cK, .func (.func 173) #[] #[.pointer (some ⟨w.heap.size, 0, none⟩)]] w5 fun e w' => e = .returned (.bool (s.reply.an.any (fun r => sameB n r.data))) ∧ Hid (Below W1.heap.size W1 w') ∧ w'.cell? ⟨w.heap.size, 0, none⟩ = some (.string n) ∧ w'.cell? ⟨sb, 18, none⟩ = some (.slice aK s.reply.an.length cK)) := fun w5 hb => by
  refine (has_recs w5 (.slice aK s.reply.an.length cK) s.reply.an n w.heap.size (HC.out w5 hb).1 (by have := heap_lt HX.out; have := hb.size; omega) hn hl (own_lies (H1.out.below hb).kept (rcells_len' _) (by simp))).mono ?_
  rintro e w6 ⟨rfl, HB6⟩
  have hb6 := hb.trans (HB6.out.mono hb.size)
  exact ⟨rfl, hb6, HC.out w6 hb6⟩
 have HDR : Hid (Below W1.heap.size W1 W1.drew) := below_drewN (Below.refl _ _) 1
 by_cases hs : sameB n q.name = true
 ·have HA : Hid (aheadB s q n = true) := by simp [Hid, aheadB, hs]
  rw [hs] at HA2
  refine Stg.wp_region_stage [2, 4] (fun _ w' => Below W1.heap.size W1 w') (by kernel_rfl) (by kernel_rfl) HDR.out ?_
  refine lex_at (by kernel_rfl) (.string n) (fun j w' hw' => by have hc := (HC.out w' hw').1; go_simp) ?_
  refine lex_at (by kernel_rfl) (.pointer (some ⟨sb, 0, none⟩)) (fun _ w' _ => by go_simp) ?_
  refine Stg.lex_move 0 (by kernel_rfl) (.agg #[.string q.name, .int .u16 q.kind, .int .u16 q.cls]) ?_ ?_
  ·intro w' hw'
   have hk := HA1.out w' hw'
   go_simp
   refine hk.mono ?_
   rintro e w5 ⟨h1, h2, _⟩
   exact ⟨h1, h2.out⟩
  refine lex_at (by kernel_rfl) (.string q.name) (fun _ w' _ => by go_simp) ?_
  refine Stg.lex_move 1 (by kernel_rfl) (.bool true) ?_ ?_
  ·intro w' hw'
   have hk := HA2.out w' hw'
   go_simp
   refine hk.mono ?_
   rintro e w5 ⟨h1, h2, _⟩
   exact ⟨h1, h2.out⟩
  refine lex_at (by kernel_rfl) (.bool true) (fun _ w' _ => by go_simp) ?_
  iterate 8 refine Stg.lex_skip (by kernel_rfl) (by kernel_rfl) ?_
  refine lex_at (by kernel_rfl) (.bool true) (fun _ w' _ => by go_simp) ?_
  refine lex_at (by kernel_rfl) (.bool true) (fun _ w' _ => by go_simp) ?_
  refine Stg.lex_nil ?_
  intro w' hw'
  replace hw' : Below W1.heap.size W1 w' := hw'
  have HW := hide (HB.out.trans (hw'.mono HB.out.size))
  clear hw' HA1 HA2 HA3 hc1 hc2
  dsimp only [Act.put]
  simp only [List.setIfInBounds_toArray, List.set_cons_zero, List.set_cons_succ]
  go_wp2_with fail
  go_ret
  refine ⟨?_, HW.out⟩
  rw [HA.out]
  rfl
 ·have hs2 : sameB n q.name = false := by simpa using hs
  have HA : Hid (aheadB s q n = s.reply.an.any (fun r => sameB n r.data)) := by simp [Hid, aheadB, hs2]
  rw [hs2] at HA2
  go_region_held3 (fun w' => w'.cell? ⟨w.heap.size, 0, none⟩ = some (.string n) ∧ w'.cell? ⟨sb, 18, none⟩ = some (.slice aK s.reply.an.length cK)) (first | (go_keep; done) | exact hs5 | exact hs6 | exact hs7) (first | (go_at_call 114; refine (HA1.out _ HDR.out).mono ?_; rintro e w5 ⟨rfl, HB5, hs5⟩) | (go_at_call 117; refine (HA2.out w5 HB5.out).mono ?_; rintro e w6 ⟨rfl, HB6, hs6⟩) | (go_at_call 172; refine (HA3.out w6 HB6.out).mono ?_; rintro e w7 ⟨rfl, HB7, hs7⟩))
  clear hs5 hs6 hs7 hc1 hc2
  have HW := hide (HB.out.trans (HB7.out.mono HB.out.size))
  go_wp2_with fail
  go_ret
  exact ⟨ret_bool HA.out.symm, HW.out⟩
end Go.Proofs.YtafoepfhepdcoaaGreat
namespace Go.Proofs.YtafoepfhepdcoaaGreat
open Go.RowKit Go.Trawl
attribute [local go_sem] Stg.upon
def standsP (st : RSt) (x : Rc) (k : Int) : RSt × Value :=
 if st.c < (st.kept.length : Int) + 1 ∨ (st.seen.any fun s => sameB s x.data) = true then failP { st with kept := st.kept ++ [x] }
 else sendP { st with kept := st.kept ++ [x], seen := st.seen ++ [x.data], l := [freshCh st x.data k] } [] (freshCh st x.data k)
theorem seen_at {w : World} {a : Option Addr} {n c : Nat} {l : List ByteArray} (h : w.ownsRow 0 9 1 (.slice a n c) l.length (strV l)) {i : Nat} {x : ByteArray} (hi : l[i]? = some x) : ∃ g, a = some ⟨g, 0, none⟩ ∧ w.cell? ⟨g, i, none⟩ = some (.string x) := by
 rcases h.2 with ⟨_, h0⟩ | ⟨g, cap, cur, e, _⟩
 ·have : l = [] := List.eq_nil_of_length_eq_zero h0
  subst this
  simp at hi
 ·cases e
  have := h.cells (g := g) rfl i (.string x) (by unfold strV; rw [List.getElem?_map, hi]; rfl)
  refine ⟨g, rfl, ?_⟩
  have e : (⟨g, 0, none⟩ : Addr).add i = ⟨g, i, none⟩ := by
   unfold Addr.add
   by_cases h : i = 0
   ·rw [h]; rfl
   ·rw [if_neg h]; simp
  rw [e] at this
  exact this
theorem one_rc (x : Rc) : ∀ u ∈ x.cells, u.oneCell' = true := by
 intro u hu
 simp only [Rc.cells, List.mem_cons, List.not_mem_nil, or_false] at hu
 rcases hu with rfl | rfl | rfl | rfl | rfl <;> rfl
theorem sI1 : (Tryz.prog.info? 9).map (fun i => (i.zero, i.size, i.bytes)) = some (some (.string ⟨#[]⟩), 1, 16) := by kernel_rfl
theorem uS1 : Tryz.prog.underlying 39 = some (.slice 9) := by kernel_rfl
end Go.Proofs.YtafoepfhepdcoaaGreat
namespace Go.Proofs.YtafoepfhepdcoaaGreat
open Go.RowKit Go.Trawl
attribute [local go_sem] mf Stg.upon
theorem lex_le (m : Nat) {P : Program} {ops : Array Oper} {C : Nat → World → Prop} {S : List Nat} {Q : Act → Prop} {i : Nat} {o : Oper} {l : List Oper} {a : Act} (hS : (!S.contains i && decide (Stg.hi ops S i ≤ m) && o.guard.isNone) = true) (v : Value)
  (h : ∀ j w, j ≤ m → C j w → (execOp a.eval o).run P w = .ok (.value v) w) (hn : Stg.lex P ops C S Q l (i + 1) (a.put o.dst v)) : Stg.lex P ops C S Q (o :: l) i a := by
 simp only [Bool.and_eq_true, decide_eq_true_eq, Option.isNone_iff_eq_none, Bool.not_eq_true'] at hS
 obtain ⟨⟨h1, h3⟩, h4⟩ := hS
 refine ⟨v, .inl ⟨by simp [Region.wanted, h4], fun j w hj hj' hC => ?_⟩, hn⟩
 have hi : Stg.inc S i = 0 := by unfold Stg.inc; rw [if_neg (by rw [h1]; exact Bool.false_ne_true)]
 rw [hi, h j w (by omega) hC]
 exact ⟨rfl, hC⟩
def standsQ (s : QSt) (q : Qn) (x : Rc) : QSt :=
 match s.ch with
 | _ :: _ :: _ => endQ s 2 []
 | _ => if (s.reply.an.length : Int) = s.c ∨ aheadB s q x.data = true then settleQ s 2 [] else startQ { s with reply := { s.reply with an := s.reply.an ++ [x] } } (newQ x.data q.kind) []
theorem stands_deep (w : World) (sb : Nat) (s : QSt) (V : QV) (c a : QC) (r : List QC) (q : Qn) (x : Rc) (h : QAt w sb s V (c :: a :: r)) (hle : s.reply.an.length ≤ 1000000) :
  Calls Tryz.prog 122 #[.pointer (some ⟨sb, 0, none⟩), .agg #[.string x.name, .int .u16 x.kind, .int .u16 x.cls, .int .u32 x.ttl, .string x.data]] w (QSays w sb V (c :: a :: r) (standsQ s q x)) := by
 have hch : s.ch = c.ch :: a.ch :: r.map QC.ch := h.chs.symm
 have e : standsQ s q x = endQ s 2 [] := by unfold standsQ; rw [hch]
 rw [e]
 have hb1 := (Below.refl w.heap.size w).alloc (Nat.le_refl _) (.cells #[.string x.name, .int .u16 x.kind, .int .u16 x.cls, .int .u32 x.ttl, .string x.data] 69)
 have h1 := h.below hb1
 have hc := box_cells h1.box
 simp only [qCells, chPtr] at hc
 have hcc := box_cells h1.chain.1
 simp only [qcCells, chPtr] at hcc
 have H1 := hide h1
 have HF := hide (Fr.of_below hb1 (V.owns (c :: a :: r) sb))
 clear h h1 hb1 hch e
 unfold QSays
 go_enter Tryz.func122, Tryz.ntmps122
 go_wp2_with fail
 refine (q_end _ sb s V c (a :: r) 2 (.slice none 0 0) [] H1.out (liesNil _ _) (fun k e => by cases e) hle (by simp) (by simp)).mono ?_
 rintro e w1 ⟨rfl, H2⟩
 clear hc hcc
 go_wp2_with fail
 go_end0
 obtain ⟨V', cs', h2, f2⟩ := H2.out
 exact ⟨rfl, V', cs', h2, HF.out.trans f2⟩
theorem stands_fails (w : World) (sb : Nat) (s : QSt) (V : QV) (c : QC) (q : Qn) (x : Rc) (h : QAt w sb s V [c]) (hle : s.reply.an.length ≤ 65535) (hq : s.reply.qs = [q]) (hx : x.data.size ≤ 2097152) (hs : (s.reply.an.length : Int) = s.c ∨ (¬ (s.reply.an.length : Int) = s.c ∧ aheadB s q x.data = true)) :
  Calls Tryz.prog 122 #[.pointer (some ⟨sb, 0, none⟩), .agg #[.string x.name, .int .u16 x.kind, .int .u16 x.cls, .int .u32 x.ttl, .string x.data]] w (QSays w sb V [c] (standsQ s q x)) := by
 have hch : s.ch = [c.ch] := h.chs.symm
 have e : standsQ s q x = settleQ s 2 [] := by
  unfold standsQ
  rw [hch]
  refine if_pos ?_
  rcases hs with h | h
  ·exact .inl h
  ·exact .inr h.2
 rw [e]
 have hb1 := (Below.refl w.heap.size w).alloc (Nat.le_refl _) (.cells #[.string x.name, .int .u16 x.kind, .int .u16 x.cls, .int .u32 x.ttl, .string x.data] 69)
 have h1 := h.below hb1
 have hc := box_cells h1.box
 simp only [qCells, chPtr] at hc
 have hcc := box_cells h1.chain.1
 simp only [qcCells, chPtr] at hcc
 have hcx := box_cells (heap_new w (.cells #[.string x.name, .int .u16 x.kind, .int .u16 x.cls, .int .u32 x.ttl, .string x.data] 69))
 have HX := hide (heap_new w (.cells #[.string x.name, .int .u16 x.kind, .int .u16 x.cls, .int .u32 x.ttl, .string x.data] 69))
 have H1 := hide h1
 have HF := hide (Fr.of_below hb1 (V.owns [c] sb))
 have HQ := hide hq
 obtain ⟨vR, vq, vK⟩ := V
 obtain ⟨aK, cK, rfl⟩ := own_slice (show w.ownsRow 0 69 5 vK s.reply.an.length ((s.reply.an.map Rc.cells).flatten) from h.kept)
 clear h h1 hb1 hch e hq
 unfold QSays
 go_enter Tryz.func122, Tryz.ntmps122
 go_wp2_with fail
 generalize w.alloc _ = W1 at hc hcc hcx HX H1 HF ⊢
 rcases hs with hs | ⟨hs, ha⟩
 ·have hz : ((s.reply.an.length : Int) == s.c) = true := by simp; exact hs
  go_quiet (fail)
  go_wp2_with fail
  have hb2 : Below W1.heap.size W1 (W1.drewN nq) := below_drewN (Below.refl _ _) _
  have H2 := hide (H1.out.below hb2)
  have HF2 := hide (HF.out.trans (Fr.of_below hb2 _))
  clear hb2 hc hcc hcx
  refine (q_settle _ sb s _ [c] 2 (.slice none 0 0) [] H2.out (liesNil _ _) (fun k e => by cases e) (by simp; omega)).mono ?_
  rintro e w1 ⟨rfl, H3⟩
  go_wp2_with fail
  go_end0
  obtain ⟨V', cs', h2, f2⟩ := H3.out
  exact ⟨rfl, V', cs', h2, HF2.out.trans f2⟩
 ·have hz : ((s.reply.an.length : Int) == s.c) = false := by simp; exact hs
  have HC : Hid (∀ w', Below W1.heap.size W1 w' → w'.cell? ⟨w.heap.size, 4, none⟩ = some (.string x.data) ∧ w'.cell? ⟨sb, 18, none⟩ = some (.slice aK s.reply.an.length cK) ∧ w'.cell? ⟨sb, 2, none⟩ = some (.int .i64 s.c)) := fun w' hb => ⟨(box_cells ((hb.block _ (heap_lt HX.out)).trans HX.out) 4).trans rfl, (box_cells (H1.out.below hb).box 18).trans rfl, (box_cells (H1.out.below hb).box 2).trans rfl⟩
  have HDR : Hid (Below W1.heap.size W1 W1.drew) := below_drewN (Below.refl _ _) 1
  have HA1 : Hid (Calls Tryz.prog 159 #[.pointer (some ⟨sb, 0, none⟩), .string x.data] W1.drew fun e w' => e = .returned (.bool true) ∧ Hid (Below W1.heap.size W1 w') ∧ w'.cell? ⟨w.heap.size, 4, none⟩ = some (.string x.data) ∧ w'.cell? ⟨sb, 18, none⟩ = some (.slice aK s.reply.an.length cK) ∧ w'.cell? ⟨sb, 2, none⟩ = some (.int .i64 s.c)) := by
   refine (q_isAhead W1.drew sb s _ [c] q x.data (H1.out.below HDR.out) HQ.out hx hle).mono ?_
   rintro e w6 ⟨rfl, HB6⟩
   have hb6 := HDR.out.trans (HB6.out.mono HDR.out.size)
   exact ⟨by rw [ha], hb6, HC.out w6 hb6⟩
  obtain ⟨k1, k2, k3⟩ := HC.out W1 (Below.refl _ _)
  clear hc hcc hcx
  go_region_held3 (fun w' => w'.cell? ⟨w.heap.size, 4, none⟩ = some (.string x.data) ∧ w'.cell? ⟨sb, 18, none⟩ = some (.slice aK s.reply.an.length cK) ∧ w'.cell? ⟨sb, 2, none⟩ = some (.int .i64 s.c)) (first | (go_keep; done) | exact hs5) (first | (go_at_call 159; refine HA1.out.mono ?_; rintro e w5 ⟨rfl, HB5, hs5⟩))
  clear hs5 k1 k2 k3 HA1
  have H2 := hide (H1.out.below HB5.out)
  have HF2 := hide (HF.out.trans (Fr.of_below HB5.out _))
  go_wp2_with fail
  refine (q_settle _ sb s _ [c] 2 (.slice none 0 0) [] H2.out (liesNil _ _) (fun k e => by cases e) (by simp; omega)).mono ?_
  rintro e w1 ⟨rfl, H3⟩
  go_wp2_with fail
  go_end0
  obtain ⟨V', cs', h2, f2⟩ := H3.out
  exact ⟨rfl, V', cs', h2, HF2.out.trans f2⟩
end Go.Proofs.YtafoepfhepdcoaaGreat
