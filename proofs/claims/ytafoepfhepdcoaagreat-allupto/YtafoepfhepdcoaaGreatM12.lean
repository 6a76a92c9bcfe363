import Derived.Test.YtafoepfhepdcoaaGreatM7
import Derived.Test.YtafoepfhepdcoaaGreatM10
import Derived.Test.YtafoepfhepdcoaaGreatM11
set_option maxRecDepth 100000
set_option maxHeartbeats 8000000
namespace Go.Proofs.YtafoepfhepdcoaaGreat
open Go.RowKit Go.Trawl
theorem buildH0 (a : Option Addr) (n c : Nat) (W : World) : (Instr.build 121 #[(0, .slice a n c)]).run Tryz.prog W = .ok (.agg #[.slice a n c, .slice none 0 0, .slice none 0 0, .slice none 0 0, .int .i64 0]) W := run_build W _ _ _ (by kernel_rfl)
theorem buildH2 (a : Option Addr) (n c : Nat) (W : World) : (Instr.build 121 #[(2, .slice a n c)]).run Tryz.prog W = .ok (.agg #[.slice none 0 0, .slice none 0 0, .slice a n c, .slice none 0 0, .int .i64 0]) W := run_build W _ _ _ (by kernel_rfl)
theorem buildH3 (a : Option Addr) (n c : Nat) (W : World) : (Instr.build 121 #[(3, .slice a n c)]).run Tryz.prog W = .ok (.agg #[.slice none 0 0, .slice none 0 0, .slice none 0 0, .slice a n c, .int .i64 0]) W := run_build W _ _ _ (by kernel_rfl)
attribute [local go_sem] selfQ selfR guardQ guardR buildQ0 buildR0 buildH0 buildH2 buildH3
theorem Kept.not {B : Nat} {U : Nat → Prop} {w w' : World} {ws : Nat} {vps : Value} {hs : List Nat} {vb vr vq vc : Value} {U' : Nat → Prop} {hs' : List Nat} {vh vh' : Value} (K : Kept B U w w' ws vps hs vb vr vq vc U' hs' vh vh') {k : Nat} (h : ¬ U k)
  (n1 : vb.ownBlock ≠ some k) (n2 : vr.ownBlock ≠ some k) (n3 : vq.ownBlock ≠ some k) (n4 : vc.ownBlock ≠ some k) (hlt : k < w.heap.size) : ¬ U' k := by
 intro hu
 rcases K.use k hu with e | e | e | e | e | e
 ·exact h e
 ·exact n1 e
 ·exact n2 e
 ·exact n3 e
 ·exact n4 e
 ·omega
theorem nb_ (k : Nat) : (Value.slice none 0 0).ownBlock ≠ some k := by simp [Value.ownBlock]
theorem nf_ {p : Nat → Prop} : ∀ k, (Value.slice none 0 0).ownBlock = some k → p k := by intro k hk; cases hk
theorem own_nilx (w : World) (e : TypeId) (sz : Nat) : ∃ x, w.ownsRow 0 e sz (.slice none 0 0) 0 x := ⟨[], World.ownsRow_nil _ _ _ _⟩
theorem new_ne {g n c k : Nat} (h : g ≠ k) : (Value.slice (some ⟨g, 0, none⟩) n c).ownBlock ≠ some k := by simp [Value.ownBlock, h]
theorem new_free {p : Nat → Prop} {g n c : Nat} (h : p g) : ∀ k, (Value.slice (some ⟨g, 0, none⟩) n c).ownBlock = some k → p k := by
 intro k hk; have : g = k := Option.some.inj hk; subst this; exact h
structure PS (w0 w : World) (m : Msg) (vq va vu vx : Value) (q a u e : Nat) : Prop where
 below : Below w0.heap.size w0 w
 box : w.heap[w0.heap.size]? = some (.cells (mc_ m vq va vu vx) 30)
 rq : w.ownsRow 0 41 3 (newV q (m.qs.length + 8)) (m.qs.length + 8) ((lentQ m.qs).map Qn.cells).flatten
 ra : w.ownsRow 0 69 5 (newV a (m.an.length + 8)) (m.an.length + 8) ((lentR m.an).map Rc.cells).flatten
 ru : w.ownsRow 0 69 5 (newV u (m.au.length + 8)) (m.au.length + 8) ((lentR m.au).map Rc.cells).flatten
 rx : w.ownsRow 0 69 5 (newV e (m.ex.length + 8)) (m.ex.length + 8) ((lentR m.ex).map Rc.cells).flatten
 lq : w0.heap.size < q
 la : q < a
 lu : a < u
 lx : u < e
 le : e < w.heap.size
theorem PS.move {w0 w w' : World} {m : Msg} {vq va vu vx : Value} {q a u e : Nat} (h : PS w0 w m vq va vu vx q a u e) (hb : Below w.heap.size w w') : PS w0 w' m vq va vu vx q a u e := by
 have hs := h.below.size
 have h1 := h.lq
 have h2 := h.la
 have h3 := h.lu
 have h4 := h.lx
 have h5 := h.le
 exact ⟨h.below.trans (hb.mono hs), by rw [hb.block _ (hl_ h.box)]; exact h.box, own_below h.rq hb, own_below h.ra hb, own_below h.ru hb, own_below h.rx hb, h1, h2, h3, h4, Nat.lt_of_lt_of_le h5 hb.size⟩
theorem lentQ_split (L : List Qn) : ((lentQ L).map Qn.cells).flatten = (L.map Qn.cells).flatten ++ ((List.replicate 8 zQ).map Qn.cells).flatten := by
 unfold lentQ; rw [List.map_append, List.flatten_append]
theorem lentR_split (L : List Rc) : ((lentR L).map Rc.cells).flatten = (L.map Rc.cells).flatten ++ ((List.replicate 8 zR).map Rc.cells).flatten := by
 unfold lentR; rw [List.map_append, List.flatten_append]
theorem liesQ {w : World} {e : TypeId} {g : Nat} {L : List Qn} (h : w.ownsRow 0 e 3 (newV g (L.length + 8)) (L.length + 8) ((lentQ L).map Qn.cells).flatten) : Lies w 3 (.slice (some ⟨g, 0, none⟩) L.length (L.length + 8)) (L.map Qn.cells) := by
 rw [lentQ_split] at h
 exact own_lies (own_shorter (n := L.length) (m := 8) h (by rw [flat_length (sz := 3) _ (fun x hx => (qcells_ok L x hx).1), List.length_map])) (fun x hx => (qcells_ok L x hx).1) (by rw [List.length_map])
theorem liesR {w : World} {e : TypeId} {g : Nat} {L : List Rc} (h : w.ownsRow 0 e 5 (newV g (L.length + 8)) (L.length + 8) ((lentR L).map Rc.cells).flatten) : Lies w 5 (.slice (some ⟨g, 0, none⟩) L.length (L.length + 8)) (L.map Rc.cells) := by
 rw [lentR_split] at h
 exact own_lies (own_shorter (n := L.length) (m := 8) h (by rw [flat_length (sz := 5) _ (fun x hx => (rcells_ok L x hx).1), List.length_map])) (fun x hx => (rcells_ok L x hx).1) (by rw [List.length_map])
theorem liesQ' {w : World} {e : TypeId} {g : Nat} {L : List Qn} (h : w.ownsRow 0 e 3 (newV g (L.length + 8)) (L.length + 8) ((lentQ L).map Qn.cells).flatten) : Lies w 3 (newV g (L.length + 8)) ((lentQ L).map Qn.cells) :=
 own_lies h (fun x hx => (qcells_ok _ x hx).1) (by rw [List.length_map, lentQ_length])
theorem liesR' {w : World} {e : TypeId} {g : Nat} {L : List Rc} (h : w.ownsRow 0 e 5 (newV g (L.length + 8)) (L.length + 8) ((lentR L).map Rc.cells).flatten) : Lies w 5 (newV g (L.length + 8)) ((lentR L).map Rc.cells) :=
 own_lies h (fun x hx => (rcells_ok _ x hx).1) (by rw [List.length_map, lentR_length])
theorem PS.msgAt {w0 w : World} {m : Msg} {vq va vu vx : Value} {q a u e : Nat} (h : PS w0 w m vq va vu vx q a u e) :
  MsgAt w m (.slice (some ⟨q, 0, none⟩) m.qs.length (m.qs.length + 8)) (.slice (some ⟨a, 0, none⟩) m.an.length (m.an.length + 8)) (.slice (some ⟨u, 0, none⟩) m.au.length (m.au.length + 8)) (.slice (some ⟨e, 0, none⟩) m.ex.length (m.ex.length + 8)) :=
 ⟨liesQ h.rq, liesR h.ra, liesR h.ru, liesR h.rx⟩
theorem PS.qcell {w0 w : World} {m : Msg} {vq va vu vx : Value} {q a u e : Nat} (h : PS w0 w m vq va vu vx q a u e) {k : Nat} {r : Qn} (hr : (lentQ m.qs)[k]? = some r) :
  w.cell? ⟨q, k * 3, none⟩ = some (.string r.name) ∧ w.cell? ⟨q, k * 3 + 1, none⟩ = some (.int .u16 r.kind) ∧ w.cell? ⟨q, k * 3 + 2, none⟩ = some (.int .u16 r.cls) := by
 obtain ⟨_, _, hv, _, hc⟩ := liesQ' h.rq
 rcases hc with he | ⟨b, off, he, _, hc⟩
 ·exfalso; have := congrArg List.length he; simp [lentQ_length] at this
 ·subst he
  unfold newV at hv
  injection hv with hv
  injection hv with hv
  injection hv with h1 h2
  subst h1 h2
  have := Lies.qat hc hr
  simpa only [Nat.zero_add] using this
theorem _root_.Go.Trawl.MsgAt.qcell {w : World} {m : Msg} {a : Option Addr} {n c : Nat} {va vu vx : Value} (h : MsgAt w m (.slice a n c) va vu vx) {k : Nat} {r : Qn} (hr : m.qs[k]? = some r) :
  ∃ b off, a = some ⟨b, off, none⟩ ∧ w.cell? ⟨b, off + k * 3, none⟩ = some (.string r.name) ∧ w.cell? ⟨b, off + k * 3 + 1, none⟩ = some (.int .u16 r.kind) ∧ w.cell? ⟨b, off + k * 3 + 2, none⟩ = some (.int .u16 r.cls) := by
 obtain ⟨_, _, hv, _, hc⟩ := h.q
 rcases hc with he | ⟨b, off, he, _, hc⟩
 ·exfalso
  have h1 := congrArg List.length he
  simp at h1
  rw [h1] at hr
  simp at hr
 ·subst he
  injection hv with hv
  exact ⟨b, off, hv, Lies.qat hc hr⟩
theorem own_zero {w : World} {base : Nat} {e : TypeId} {sz : Nat} {v : Value} {n : Nat} {x : List Value} (h : w.ownsRow base e sz v n x) : w.ownsRow 0 e sz v n x := by
 refine ⟨h.1, ?_⟩
 rcases h.2 with h2 | ⟨g, cap, cur, h3, _, r⟩
 ·exact .inl h2
 ·exact .inr ⟨g, cap, cur, h3, Nat.zero_le _, r⟩
def packL (m : Msg) : List UInt8 := if packOk m then pack m else []
def packE (m : Msg) : Int := if packOk m then 0 else 1
theorem tpack2 (m : Msg) (vq va vu vx : Value) (w : World) (hwf : WfM m) (hat : MsgAt w m vq va vu vx) :
  Calls Tryz.prog 15 #[.agg (mc_ m vq va vu vx)] w fun e w' => Below w.heap.size w w' ∧ ∃ a c, e = .returned (.tuple #[.slice a (packL m).length c, .int .i64 (packE m)]) ∧ w'.ownsRow w.heap.size 5 1 (.slice a (packL m).length c) (packL m).length (bytesV (packL m)) := by
 refine (tpack_any m vq va vu vx w hwf hat).mono ?_
 rintro e w' ⟨hb, hno, hyes⟩
 refine ⟨hb, ?_⟩
 unfold packL packE
 by_cases hp : packOk m = true
 ·obtain ⟨v, rfl, ho⟩ := hyes hp
  obtain ⟨a, c, rfl⟩ := os_ ho
  simp only [hp, if_true]
  exact ⟨a, c, rfl, ho⟩
 ·have hp' : packOk m = false := by simpa using hp
  rw [hno hp']
  simp only [hp']
  exact ⟨none, 0, rfl, World.ownsRow_nil _ _ _ _⟩
theorem rpack2 (m : Msg) (vq va vu vx : Value) (w : World) (hwf : WfM m) (hat : MsgAt w m vq va vu vx) :
  Calls Tryz.prog 27 #[.agg (mc_ m vq va vu vx)] w fun e w' => Below w.heap.size w w' ∧ e = .returned (.tuple #[.string (str (packL m)), .int .i64 (packE m)]) := by
 refine (refPack_any m vq va vu vx w hwf hat).mono ?_
 rintro e w' ⟨hb, hno, hyes⟩
 refine ⟨hb, ?_⟩
 unfold packL packE
 by_cases hp : packOk m = true
 ·rw [hyes hp]; simp only [hp, if_true]
 ·have hp' : packOk m = false := by simpa using hp
  rw [hno hp']; simp only [hp']; rfl
theorem packL_length (m : Msg) : (packL m).length ≤ 512 := by
 unfold packL
 split
 ·rename_i h
  unfold packOk at h
  simp only [Bool.and_eq_true, decide_eq_true_eq] at h
  unfold pack
  rw [List.length_append, ← shorts_head, two_length]
  simp only [shorts, List.length_cons, List.length_nil]
  omega
 ·simp
theorem conv_own (w : World) (base : Nat) (a : Option Addr) (c : Nat) (l : List UInt8) (h : w.ownsRow base 5 1 (.slice a l.length c) l.length (bytesV l)) :
  (convert 32 9 (.slice a l.length c)).run Tryz.prog w = .ok (.string (str l)) w := by
 rw [run_convert_bytes_string _ _ _ 5 _ _ _ und_bytes' und_u8' und_string']
 rcases h.2 with ⟨h1, h2⟩ | ⟨g, cap, cur, h1, _, hg, _, _, _, htake⟩
 ·have hl : l = [] := List.eq_nil_of_length_eq_zero h2
  subst hl
  injection h1 with h1 _ h3
  subst h1 h3
  rfl
 ·injection h1 with h1 _ h3
  subst h1 h3
  have hload := run_loadCells_list (P := Tryz.prog) w ⟨g, 0, none⟩ (bytesV l) (fun j u hj => h.cells (g := g) rfl j u hj)
  rw [bytesV_length] at hload
  have e1 : bytesV l = (l.map fun b => (b.toNat : Int)).map (Value.int .u8) := by simp [bytesV]
  rw [e1] at hload
  rw [run_bytesToString w ⟨g, 0, none⟩ l.length c _ hload]
  congr 2
  have key : ∀ (l : List UInt8) (r : ByteArray), (l.map fun b => (b.toNat : Int)).foldl (fun r n => r.push (UInt8.ofNat n.toNat)) r = ⟨r.data ++ l.toArray⟩ := by
   intro l
   induction l with
   | nil => intro r; simp
   | cons b l ih =>
    intro r
    rw [List.map_cons, List.foldl_cons, ih]
    simp [ByteArray.push]
  rw [key]
  simp [str]
theorem packed_any (w : World) (B ws : Nat) (U : Nat → Prop) (vps : Value) (hs : List Nat) (vh : Value) (m : Msg) (vq va vu vx : Value) (hl : hs.length ≤ 99999960) (hst : St B U w ws vps hs vh) (hwf : WfM m) (hat : MsgAt w m vq va vu vx) :
  Calls Tryz.prog 83 #[ptrV ws, .agg (mc_ m vq va vu vx)] w fun e w' => e = .returned (.bool true) ∧ Below B w w' ∧ ∃ U' hs' vh', St B U' w' ws vps hs' vh' ∧ hs'.length = hs.length + 20 ∧ Went w w' ws (fun _ => False) U U' vh vh' := by
 obtain ⟨iq, iq0, iq1, iq2, iq3⟩ := info_parts qI
 have hnq := hwf.nq
 have hna := hwf.na
 have hnu := hwf.nu
 have hnx := hwf.nx
 have HST := hide hst
 have HAT := hide hat
 have HWF := hide hwf
 obtain ⟨aq, cq, hvq, -⟩ := hat.q
 obtain ⟨aa, ca, hva, -⟩ := hat.a
 obtain ⟨au, cu, hvu, -⟩ := hat.u
 obtain ⟨ax, cx, hvx, -⟩ := hat.x
 rw [List.length_map] at hvq hva hvu hvx
 clear hst hat hwf
 subst hvq hva hvu hvx
 unfold ptrV mc_
 go_enter Tryz.func83, Tryz.ntmps83
 go_wp2_with (at_make; refine wpList_make_full _ rfl _ _ 27 rfl 0 41 iq _ 3 uQ iq0 iq1 iq2 _ _ _ _ (m.qs.length + 8) rfl rfl (by omega) (by omega) (by rw [iq3]; omega) (by unfold maxLen; omega) (Nat.zero_le _) ?_; intro w2 ho2 hg2; have HO2 := hide ho2; have HG2 := hide hg2; have bx2 := (hg2.block w.heap.size (by rw [as_]; omega) (by simp)).trans (hn_ w _); have hcm := bc_ bx2; have BX2 := hide bx2; clear ho2 hg2 bx2)
 have ho2 := HO2.out
 rw [as_] at ho2
 have hm := made_flat zQ.cells (by decide) (m.qs.length + 8)
 rw [show zQ.cells.length = 3 from rfl] at hm
 have e0 : (Value.agg #[Value.string { data := #[] }, Value.int IntKind.u16 0, Value.int IntKind.u16 0]).cells = zQ.cells.toArray := rfl
 rw [e0, hm] at ho2
 have hb2 : Below w.heap.size w w2 := by
  have h1 : Below w.heap.size w (w.alloc (.cells (mc_ m (Value.slice aq m.qs.length cq) (Value.slice aa m.an.length ca) (Value.slice au m.au.length cu) (Value.slice ax m.ex.length cx)) 30)) := (Below.refl _ _).alloc (Nat.le_refl _) _
  exact h1.trans ((below_grownBy HG2.out).mono (by rw [as_]; omega))
 have hs2 : w.heap.size + 1 < w2.heap.size := by
  have := ho2.lt (w.heap.size + 1) rfl
  omega
 have hat2 := HAT.out.q.below hb2
 obtain ⟨w3, hr, ho3, hg3⟩ := copy_lies (P := Tryz.prog) w2 27 27 3 41 iq 3 uQ iq0 iq2 _ _ _ _ ho2 _ _ hat2 (qcells_ok m.qs) (by rw [List.length_map]; omega)
 rw [hr]
 rw [lentQ_flat] at ho3
 have hb3 : Below w.heap.size w w3 := hb2.trans ⟨hg3.os, hg3.tape, hg3.output, hg3.size, fun k hk => hg3.block k (by omega) (by simp; omega)⟩
 have bx3 := (hg3.block w.heap.size (by omega) (by simp)).trans BX2.out
 have hs3 : w.heap.size + 1 < w3.heap.size := Nat.lt_of_lt_of_le hs2 hg3.size
 have BX3 := hide bx3
 have HB3 := hide hb3
 have HO3 := hide ho3
 clear hcm
 have hcm := bc_ bx3
 clear ho3 hg3 hr ho2 hat2 hm e0 hs2 hb2 HO2 HG2 BX2 bx3 hb3
 go_wp2_with fail
 refine (records_any w3 _ m.an hna (HAT.out.a.below HB3.out)).mono ?_
 unfold newV
 rintro e w4 ⟨rfl, ho4, hb4⟩
 have HO4 := hide ho4
 have HQ4 := hide (own_below HO3.out hb4)
 have bx4 := (hb4.block _ (by omega)).trans BX3.out
 have BX4 := hide bx4
 have HB4 := hide (HB3.out.trans (hb4.mono (by omega)))
 have hs4 : w3.heap.size < w4.heap.size := by have := ho4.lt w3.heap.size rfl; omega
 clear hcm
 have hcm := bc_ bx4
 clear ho4 hb4 bx4 BX3 HO3 HB3
 go_wp2_with fail
 refine (records_any w4 _ m.au hnu (HAT.out.u.below HB4.out)).mono ?_
 unfold newV
 rintro e w5 ⟨rfl, ho5, hb5⟩
 have HO5 := hide ho5
 have HQ5 := hide (own_below HQ4.out hb5)
 have HA5 := hide (own_below HO4.out hb5)
 have bx5 := (hb5.block _ (by omega)).trans BX4.out
 have BX5 := hide bx5
 have HB5 := hide (HB4.out.trans (hb5.mono (by omega)))
 have hs5 : w4.heap.size < w5.heap.size := by have := ho5.lt w4.heap.size rfl; omega
 clear hcm
 have hcm := bc_ bx5
 clear ho5 hb5 bx5 BX4 HO4 HQ4 HB4
 go_wp2_with fail
 refine (records_any w5 _ m.ex hnx (HAT.out.x.below HB5.out)).mono ?_
 unfold newV
 rintro e w6 ⟨rfl, ho6, hb6⟩
 have hs6 : w5.heap.size < w6.heap.size := by have := ho6.lt w5.heap.size rfl; omega
 have P6 : PS w w6 m (Value.slice aq m.qs.length cq) (Value.slice aa m.an.length ca) (Value.slice au m.au.length cu) (Value.slice ax m.ex.length cx) (w.heap.size + 1) w3.heap.size w4.heap.size w5.heap.size :=
  ⟨HB5.out.trans (hb6.mono (by omega)), (hb6.block _ (by omega)).trans BX5.out, own_below HQ5.out hb6, own_below HA5.out hb6, own_below HO5.out hb6, ho6, by omega, by omega, by omega, by omega, by omega⟩
 clear hcm
 have hcm := bc_ P6.box
 have HP6 := hide P6
 simp only [mc_] at hcm
 clear ho6 hb6 BX5 HQ5 HA5 HO5 HB5 P6
 have hw6 : w.heap.size < w6.heap.size := by omega
 have hw6' : w.heap.size ≠ w6.heap.size := by omega
 go_wp2_with fail
 have P7 := HP6.out.move ((Below.refl w6.heap.size w6).alloc (Nat.le_refl _) (.cells (mc_ m (.slice (some ⟨w.heap.size + 1, 0, none⟩) m.qs.length (m.qs.length + 8)) (.slice (some ⟨w3.heap.size, 0, none⟩) m.an.length (m.an.length + 8)) (.slice (some ⟨w4.heap.size, 0, none⟩) m.au.length (m.au.length + 8)) (.slice (some ⟨w5.heap.size, 0, none⟩) m.ex.length (m.ex.length + 8))) 30))
 refine (tpack2 m _ _ _ _ _ HWF.out P7.msgAt).mono ?_
 rintro e w8 ⟨hb8, ag, cg, rfl, og8⟩
 have P8 := P7.move hb8
 have HP8 := hide P8
 have HG8 := hide (own_zero og8)
 have HGB := hide (fun k hk => (show w6.heap.size < k from by have := (og8.lt k hk).1; rw [as_] at this; omega))
 have hs8 : w6.heap.size < w8.heap.size := by have := hb8.size; rw [as_] at this; omega
 clear hcm hw6 hw6'
 have hcm := bc_ P8.box
 simp only [mc_] at hcm
 clear HP6 P7 P8 og8 hb8
 go_wp2_with fail
 refine (rpack2 m _ _ _ _ _ HWF.out (HAT.out.below HP8.out.below)).mono ?_
 rintro e w9 ⟨hb9, rfl⟩
 have P9 := HP8.out.move hb9
 have HP9 := hide P9
 have og9 := own_below HG8.out hb9
 have HG9 := hide og9
 have hconv := conv_own w9 0 ag cg (packL m) og9
 have hs9 : w8.heap.size ≤ w9.heap.size := hb9.size
 have hpe : packL m = packL m := rfl
 obtain ⟨pl, hpl⟩ : ∃ pl, pl = packL m := ⟨_, rfl⟩
 obtain ⟨pe, hpe⟩ : ∃ pe, pe = packE m := ⟨_, rfl⟩
 have hpn : pl.length ≤ 512 := by rw [hpl]; exact packL_length m
 rw [← hpl] at HG9 hconv ⊢
 rw [← hpe]
 clear hcm
 have hcm := bc_ P9.box
 simp only [mc_] at hcm
 clear HP8 HG8 P9 og9 hb9 hpl hpe
 go_wp2_with fail
 have HW0 : Hid (∃ n, w9 = w9.drewN n) := ⟨0, rfl⟩
 clear hcm hconv
 generalize hvm : Value.agg #[Value.int IntKind.u16 m.id, Value.bool m.resp, Value.int IntKind.i64 m.op, Value.bool m.own, Value.bool m.cut, Value.bool m.wanted, Value.bool m.able, Value.int IntKind.i64 m.code, Value.slice aq m.qs.length cq, Value.slice aa m.an.length ca, Value.slice au m.au.length cu, Value.slice ax m.ex.length cx] = vm
 generalize hxm : Value.agg #[Value.int IntKind.u16 m.id, Value.bool m.resp, Value.int IntKind.i64 m.op, Value.bool m.own, Value.bool m.cut, Value.bool m.wanted, Value.bool m.able, Value.int IntKind.i64 m.code, _, _, _, _] = xm
 generalize hv6 : Value.slice (some { block := w3.heap.size, off := 0 }) (m.an.length + 8) (m.an.length + 8) = v6
 generalize hv7 : Value.slice (some { block := w4.heap.size, off := 0 }) (m.au.length + 8) (m.au.length + 8) = v7
 generalize hv8 : Value.slice (some { block := w5.heap.size, off := 0 }) (m.ex.length + 8) (m.ex.length + 8) = v8
 generalize hv10 : Value.slice ag pl.length cg = v10
 clear hvm hxm
 have HV6 := hide hv6
 have HV7 := hide hv7
 have HV8 := hide hv8
 have HV10 := hide hv10
 clear hv6 hv7 hv8 hv10
 go_loopw [14, 15] (fun ok i wr => ∃ k : Nat, ok = .bool true ∧ i = .int .i64 k ∧ k ≤ m.qs.length + 8 ∧ Hid (∃ n, wr = w9.drewN n)) (fun _ i _ => m.qs.length + 8 - (intOf i).toNat)
 case atStart => exact ⟨0, rfl, rfl, Nat.zero_le _, HW0.out⟩
 case round =>
  obtain ⟨k, rfl, rfl, hk, HW⟩ := hrel
  have hcw : ∀ p, wr.cell? p = w9.cell? p := by obtain ⟨n, rfl⟩ := HW.out; intro p; rfl
  have hcm9 := bc_ HP9.out.box
  have hcm : ∀ o, wr.cell? ⟨w.heap.size, o, none⟩ = _ := fun o => (hcw ⟨w.heap.size, o, none⟩).trans (hcm9 o)
  simp only [mc_] at hcm
  clear hcm9
  by_cases hlt : k < m.qs.length + 8
  ·by_cases hin : k < m.qs.length
   ·obtain ⟨r, hr⟩ : ∃ r, m.qs[k]? = some r := ⟨_, List.getElem?_eq_getElem hin⟩
    obtain ⟨c0, c1, c2⟩ := HP9.out.qcell (show (lentQ m.qs)[k]? = some r from (lentQ_lt hin).trans hr)
    obtain ⟨bv, offv, rfl, d0, d1, d2⟩ := (HAT.out.below HP9.out.below).qcell hr
    rw [← hcw] at c0 c1 c2 d0 d1 d2
    obtain ⟨nm, kd, cl⟩ := r
    dsimp only at c0 c1 c2 d0 d1 d2
    have hd1 : decide (k < m.qs.length) = true := by simp; omega
    have hd2 : decide (m.qs.length ≤ k) = false := by simp; omega
    clear hcw hr
    go_wp2_with fail
    go_quiet (fail)
    go_wp2_with fail
    exact ⟨⟨k + 1, rfl, by go_num, by omega, by obtain ⟨n, hn⟩ := HW.out; exact ⟨n + nq, by rw [hn, World.drewN_drewN]⟩⟩, by simp [intOf]; omega⟩
   ·obtain ⟨c0, c1, c2⟩ := HP9.out.qcell (lentQ_ge (L := m.qs) (by omega) hlt)
    unfold zQ at c0 c1 c2
    rw [← hcw] at c0 c1 c2
    dsimp only at c0 c1 c2
    have hd1 : decide (k < m.qs.length) = false := by simp; omega
    have hd2 : decide (m.qs.length ≤ k) = true := by simp; omega
    clear hcw
    go_wp2_with fail
    go_quiet (fail)
    go_wp2_with fail
    exact ⟨⟨k + 1, rfl, by go_num, by omega, by obtain ⟨n, hn⟩ := HW.out; exact ⟨n + nq, by rw [hn, World.drewN_drewN]⟩⟩, by simp [intOf]; omega⟩
  ·clear hcw
   obtain ⟨wa, rfl⟩ : ∃ wa : World, wa = wr := ⟨_, rfl⟩
   have hv6 := HV6.out
   have hv7 := HV7.out
   have hv8 := HV8.out
   have hv10 := HV10.out
   subst hv6 hv7 hv8 hv10
   have PA : PS w wa m (Value.slice aq m.qs.length cq) (Value.slice aa m.an.length ca) (Value.slice au m.au.length cu) (Value.slice ax m.ex.length cx) (w.heap.size + 1) w3.heap.size w4.heap.size w5.heap.size := by
    obtain ⟨n, hn⟩ := HW.out
    rw [hn]
    exact HP9.out.move (below_drewN (Below.refl _ _) n)
   have ga : wa.ownsRow 0 5 1 (.slice ag pl.length cg) pl.length (bytesV pl) := by
    obtain ⟨n, hn⟩ := HW.out
    rw [hn]
    exact HG9.out
   have hsa : w8.heap.size ≤ wa.heap.size := by
    obtain ⟨n, hn⟩ := HW.out
    rw [hn]
    exact hs9
   have HPA := hide PA
   have HGA := hide ga
   clear HV6 HV7 HV8 HV10 HP9 HG9 PA ga HW HW0
   go_wp2_with fail
   clear hlt hk
   refine (kept_any wa _ _ m.an hna (liesR' HPA.out.ra) (HAT.out.a.below HPA.out.below)).mono ?_
   rintro e wb ⟨rfl, nb, hwb⟩
   have hcb : ∀ p, wb.cell? p = wa.cell? p := by rw [hwb]; intro p; rfl
   have hcm2 : ∀ o, wb.cell? ⟨w.heap.size, o, none⟩ = _ := fun o => (hcb ⟨w.heap.size, o, none⟩).trans (hcm o)
   have HPB := hide (HPA.out.move (w' := wb) (by rw [hwb]; exact below_drewN (Below.refl _ _) nb))
   have HGB2 : Hid (wb.ownsRow 0 5 1 (.slice ag pl.length cg) pl.length (bytesV pl)) := by rw [hwb]; exact HGA.out
   have hsb : wb.heap.size = wa.heap.size := by rw [hwb]; rfl
   clear hcm hcb hwb HPA HGA
   go_wp2_with fail
   refine (kept_any wb _ _ m.au hnu (liesR' HPB.out.ru) (HAT.out.u.below HPB.out.below)).mono ?_
   rintro e wc ⟨rfl, nc, hwc⟩
   have hcc : ∀ p, wc.cell? p = wb.cell? p := by rw [hwc]; intro p; rfl
   have hcm : ∀ o, wc.cell? ⟨w.heap.size, o, none⟩ = _ := fun o => (hcc ⟨w.heap.size, o, none⟩).trans (hcm2 o)
   have HPC := hide (HPB.out.move (w' := wc) (by rw [hwc]; exact below_drewN (Below.refl _ _) nc))
   have HGC : Hid (wc.ownsRow 0 5 1 (.slice ag pl.length cg) pl.length (bytesV pl)) := by rw [hwc]; exact HGB2.out
   have hsc : wc.heap.size = wb.heap.size := by rw [hwc]; rfl
   clear hcm2 hcc hwc HPB HGB2
   go_wp2_with fail
   refine (kept_any wc _ _ m.ex hnx (liesR' HPC.out.rx) (HAT.out.x.below HPC.out.below)).mono ?_
   rintro e wd ⟨rfl, nd, hwd⟩
   have HPD := hide (HPC.out.move (w' := wd) (by rw [hwd]; exact below_drewN (Below.refl _ _) nd))
   have HGD : Hid (wd.ownsRow 0 5 1 (.slice ag pl.length cg) pl.length (bytesV pl)) := by rw [hwd]; exact HGC.out
   have hsd : w6.heap.size < wd.heap.size := by rw [hwd]; show w6.heap.size < wc.heap.size; omega
   clear hcm hwd HPC HGC hsc hsb hsa hs9
   have hsw : B ≤ w.heap.size := HST.out.sz
   have HU : Hid (∀ k, w.heap.size ≤ k → ¬ U k) := fun k hk hu => by have := HST.out.lt k hu; omega
   have HG1 : Hid (∀ k, (Value.slice ag pl.length cg).ownBlock = some k → w6.heap.size < k) := by
    intro k hk
    cases ag with
    | none => cases hk
    | some a => exact HGB.out k hk
   go_wp2_with fail
   refine (keepBox wd B ws U vps hs _ _ _ _ vh pl.length 0 0 0 (by omega) (by omega) (by omega) (by omega) (by omega) (HST.out.below HPD.out.below) (.inl ⟨rfl, rfl, rfl⟩) ⟨_, HGD.out⟩ (own_nilx _ _ _) (own_nilx _ _ _) (own_nilx _ _ _) (fun k hk => ⟨by have := HG1.out k hk; omega, HU.out k (by have := HG1.out k hk; omega)⟩) nf_ nf_ nf_).mono ?_
   rintro e y1 ⟨rfl, U1, hs1, vh1, K1⟩
   have H1 := hide K1
   clear K1
   have gne : Hid (∀ k, k < w6.heap.size → (Value.slice ag pl.length cg).ownBlock ≠ some k) := fun k hk e => by have := HG1.out k e; omega
   have Q1 : Hid (y1.ownsRow 0 41 3 (newV (w.heap.size + 1) (m.qs.length + 8)) (m.qs.length + 8) ((lentQ m.qs).map Qn.cells).flatten) := H1.out.own _ _ _ _ _ HPD.out.rq (by decide) (by decide) (new_free ⟨gne.out _ (by omega), nb_ _, nb_ _, nb_ _⟩)
   have A1 : Hid (y1.ownsRow 0 69 5 (newV w3.heap.size (m.an.length + 8)) (m.an.length + 8) ((lentR m.an).map Rc.cells).flatten) := H1.out.own _ _ _ _ _ HPD.out.ra (by decide) (by decide) (new_free ⟨gne.out _ (by omega), nb_ _, nb_ _, nb_ _⟩)
   have E1 : Hid (y1.ownsRow 0 69 5 (newV w4.heap.size (m.au.length + 8)) (m.au.length + 8) ((lentR m.au).map Rc.cells).flatten) := H1.out.own _ _ _ _ _ HPD.out.ru (by decide) (by decide) (new_free ⟨gne.out _ (by omega), nb_ _, nb_ _, nb_ _⟩)
   have X1 : Hid (y1.ownsRow 0 69 5 (newV w5.heap.size (m.ex.length + 8)) (m.ex.length + 8) ((lentR m.ex).map Rc.cells).flatten) := H1.out.own _ _ _ _ _ HPD.out.rx (by decide) (by decide) (new_free ⟨gne.out _ (by omega), nb_ _, nb_ _, nb_ _⟩)
   have N1 : Hid (∀ k, w.heap.size ≤ k → k < w6.heap.size → ¬ U1 k) := fun k h1 h2 => H1.out.not (HU.out k h1) (gne.out k h2) (nb_ _) (nb_ _) (nb_ _) (by omega)
   have z1 : wd.heap.size ≤ y1.heap.size := H1.out.below.size
   have l1 : hs1.length = hs.length + 4 := H1.out.len
   clear gne
   go_wp2_with fail
   refine (keepBox y1 B ws U1 vps hs1 _ _ _ _ vh1 0 0 (m.qs.length + 8) 0 (by omega) (by omega) (by omega) (by omega) (by omega) H1.out.st (.inr (.inr (.inl ⟨rfl, rfl, rfl⟩))) (own_nilx _ _ _) (own_nilx _ _ _) ⟨_, Q1.out⟩ (own_nilx _ _ _) nf_ nf_ (new_free ⟨by omega, N1.out _ (by omega) (by omega)⟩) nf_).mono ?_
   rintro e y2 ⟨rfl, U2, hs2, vh2, K2⟩
   have H2 := hide K2
   clear K2
   have A2 : Hid (y2.ownsRow 0 69 5 (newV w3.heap.size (m.an.length + 8)) (m.an.length + 8) ((lentR m.an).map Rc.cells).flatten) := H2.out.own _ _ _ _ _ A1.out (by decide) (by decide) (new_free ⟨nb_ _, nb_ _, new_ne (by omega), nb_ _⟩)
   have E2 : Hid (y2.ownsRow 0 69 5 (newV w4.heap.size (m.au.length + 8)) (m.au.length + 8) ((lentR m.au).map Rc.cells).flatten) := H2.out.own _ _ _ _ _ E1.out (by decide) (by decide) (new_free ⟨nb_ _, nb_ _, new_ne (by omega), nb_ _⟩)
   have X2 : Hid (y2.ownsRow 0 69 5 (newV w5.heap.size (m.ex.length + 8)) (m.ex.length + 8) ((lentR m.ex).map Rc.cells).flatten) := H2.out.own _ _ _ _ _ X1.out (by decide) (by decide) (new_free ⟨nb_ _, nb_ _, new_ne (by omega), nb_ _⟩)
   have N2 : Hid (∀ k, w3.heap.size ≤ k → k < w6.heap.size → ¬ U2 k) := fun k h1 h2 => H2.out.not (N1.out k (by omega) h2) (nb_ _) (nb_ _) (new_ne (by omega)) (nb_ _) (by omega)
   have z2 : y1.heap.size ≤ y2.heap.size := H2.out.below.size
   have l2 : hs2.length = hs1.length + 4 := H2.out.len
   clear Q1 A1 E1 X1 N1
   go_wp2_with fail
   refine (keepBox y2 B ws U2 vps hs2 _ _ _ _ vh2 0 0 0 (m.an.length + 8) (by omega) (by omega) (by omega) (by omega) (by omega) H2.out.st (.inr (.inr (.inr ⟨rfl, rfl, rfl⟩))) (own_nilx _ _ _) (own_nilx _ _ _) (own_nilx _ _ _) ⟨_, A2.out⟩ nf_ nf_ nf_ (new_free ⟨by omega, N2.out _ (by omega) (by omega)⟩)).mono ?_
   rintro e y3 ⟨rfl, U3, hs3', vh3, K3⟩
   have H3 := hide K3
   clear K3
   have E3 : Hid (y3.ownsRow 0 69 5 (newV w4.heap.size (m.au.length + 8)) (m.au.length + 8) ((lentR m.au).map Rc.cells).flatten) := H3.out.own _ _ _ _ _ E2.out (by decide) (by decide) (new_free ⟨nb_ _, nb_ _, nb_ _, new_ne (by omega)⟩)
   have X3 : Hid (y3.ownsRow 0 69 5 (newV w5.heap.size (m.ex.length + 8)) (m.ex.length + 8) ((lentR m.ex).map Rc.cells).flatten) := H3.out.own _ _ _ _ _ X2.out (by decide) (by decide) (new_free ⟨nb_ _, nb_ _, nb_ _, new_ne (by omega)⟩)
   have N3 : Hid (∀ k, w4.heap.size ≤ k → k < w6.heap.size → ¬ U3 k) := fun k h1 h2 => H3.out.not (N2.out k (by omega) h2) (nb_ _) (nb_ _) (nb_ _) (new_ne (by omega)) (by omega)
   have z3 : y2.heap.size ≤ y3.heap.size := H3.out.below.size
   have l3 : hs3'.length = hs2.length + 4 := H3.out.len
   clear A2 E2 X2 N2
   go_wp2_with fail
   refine (keepBox y3 B ws U3 vps hs3' _ _ _ _ vh3 0 0 0 (m.au.length + 8) (by omega) (by omega) (by omega) (by omega) (by omega) H3.out.st (.inr (.inr (.inr ⟨rfl, rfl, rfl⟩))) (own_nilx _ _ _) (own_nilx _ _ _) (own_nilx _ _ _) ⟨_, E3.out⟩ nf_ nf_ nf_ (new_free ⟨by omega, N3.out _ (by omega) (by omega)⟩)).mono ?_
   rintro e y4 ⟨rfl, U4, hs4', vh4, K4⟩
   have H4 := hide K4
   clear K4
   have X4 : Hid (y4.ownsRow 0 69 5 (newV w5.heap.size (m.ex.length + 8)) (m.ex.length + 8) ((lentR m.ex).map Rc.cells).flatten) := H4.out.own _ _ _ _ _ X3.out (by decide) (by decide) (new_free ⟨nb_ _, nb_ _, nb_ _, new_ne (by omega)⟩)
   have N4 : Hid (∀ k, w5.heap.size ≤ k → k < w6.heap.size → ¬ U4 k) := fun k h1 h2 => H4.out.not (N3.out k (by omega) h2) (nb_ _) (nb_ _) (nb_ _) (new_ne (by omega)) (by omega)
   have z4 : y3.heap.size ≤ y4.heap.size := H4.out.below.size
   have l4 : hs4'.length = hs3'.length + 4 := H4.out.len
   clear E3 X3 N3
   go_wp2_with fail
   refine (keepBox y4 B ws U4 vps hs4' _ _ _ _ vh4 0 0 0 (m.ex.length + 8) (by omega) (by omega) (by omega) (by omega) (by omega) H4.out.st (.inr (.inr (.inr ⟨rfl, rfl, rfl⟩))) (own_nilx _ _ _) (own_nilx _ _ _) (own_nilx _ _ _) ⟨_, X4.out⟩ nf_ nf_ nf_ (new_free ⟨by omega, N4.out _ (by omega) (by omega)⟩)).mono ?_
   rintro e y5 ⟨rfl, U5, hs5', vh5, K5⟩
   have H5 := hide K5
   have l5 : hs5'.length = hs4'.length + 4 := H5.out.len
   clear K5 X4 N4
   go_wp2_with fail
   go_ret
   exact ⟨rfl, (HPD.out.below.mono hsw).trans (H1.out.below.trans (H2.out.below.trans (H3.out.below.trans (H4.out.below.trans H5.out.below)))), U5, hs5', vh5, H5.out.st, by omega, (((((Went.of_below HPD.out.below).keep H1.out (fun k hk => by have := HG1.out k hk; omega) nf_ nf_ nf_).keep H2.out nf_ nf_ (new_free (by omega)) nf_).keep H3.out nf_ nf_ nf_ (new_free (by omega))).keep H4.out nf_ nf_ nf_ (new_free (by omega))).keep H5.out nf_ nf_ nf_ (new_free (by omega))⟩
end Go.Proofs.YtafoepfhepdcoaaGreat
namespace Go.Proofs.YtafoepfhepdcoaaGreat
open Go.RowKit Go.Trawl
structure OpV where
 kind : Int
 n : Int
 m : Msg
 vq : Value
 va : Value
 vu : Value
 vx : Value
 s : ByteArray
 frm : Int
 b : Int
 d : Int
 c : Int
 t : Int
 vr : Value
 rs : List Int
def OpV.arr (o : OpV) : Array Value :=
 #[.int .i64 o.kind, .int .i64 o.n, .int .u16 o.m.id, .bool o.m.resp, .int .i64 o.m.op, .bool o.m.own, .bool o.m.cut, .bool o.m.wanted, .bool o.m.able, .int .i64 o.m.code, o.vq, o.va, o.vu, o.vx,
  .string o.s, .int .u32 o.frm, .int .i64 o.b, .int .i64 o.d, .int .i64 o.c, .int .i64 o.t, o.vr]
def OpV.cells (o : OpV) : List Value := o.arr.toList
structure OpAt (w : World) (o : OpV) : Prop where
 k0 : -9223372036854775808 ≤ o.kind
 k1 : o.kind ≤ 9223372036854775807
 n0 : -9223372036854775808 ≤ o.n
 n1 : o.n ≤ 9223372036854775807
 wf : WfM o.m
 msg : MsgAt w o.m o.vq o.va o.vu o.vx
 s : o.s.size ≤ 2097152
 f0 : 0 ≤ o.frm
 f1 : o.frm ≤ 4294967295
 r : Lies w 1 o.vr (o.rs.map fun x => [.int .u32 x])
 rn : o.rs.length ≤ 2097152
 b0 : -9223372036854775808 ≤ o.b
 b1 : o.b ≤ 9223372036854775807
 d0 : -9223372036854775808 ≤ o.d
 d1 : o.d ≤ 9223372036854775807
 c0 : -9223372036854775808 ≤ o.c
 c1 : o.c ≤ 9223372036854775807
 t0 : -9223372036854775808 ≤ o.t
 t1 : o.t ≤ 9223372036854775807
 rs : ∀ x ∈ o.rs, 0 ≤ x ∧ x ≤ 4294967295
theorem OpAt.below {w w' : World} {o : OpV} (h : OpAt w o) (hb : Below w.heap.size w w') : OpAt w' o :=
 { h with msg := h.msg.below hb, r := h.r.below hb }
theorem wpList_load_cells {P : Program} (w : World) {ops : Array Oper} {rest : List Oper} {o : Oper} {a : Act} {Q : Exit → Act → World → Prop} (hgd : o.guard = none) (ty : TypeId) (x : Operand) (ho : o.op = .load ty x)
  (ad : Addr) (hx : a.eval x = .pointer (some ad)) (cs : Array Value) (d : TypeDesc) (hu : P.underlying ty = some d) (hd : (match d with | .struct _ | .array _ _ => true | _ => false) = true) (hi : (P.info? ty).map (·.size) = some cs.size)
  (hc : ∀ j v, cs.toList[j]? = some v → w.cell? (ad.add j) = some v)
  (h : wpList P ops Q rest (a.put o.dst (.agg cs)) w) : wpList P ops Q (o :: rest) a w := by
 refine wpList_plain hgd fun K hK => ?_
 have hl := run_loadCells_list (P := P) w ad cs.toList hc
 have hr : (loadVar ty ad).run P w = .ok (.agg cs) w := by
  cases hq : P.info? ty with
  | none => simp [hq] at hi
  | some i =>
   have hs : i.size = cs.size := by simpa [hq] using hi
   have hagg : (isAgg ty).run P w = .ok true w := by
    unfold isAgg
    rw [Sem.run_bind, run_underlying hu w]
    cases d <;> simp_all
   simp only [Array.length_toList, Array.toArray_toList] at hl
   simp [loadVar, Sem.run_bind, hagg, sizeOf, typeInfo, hq, hs, hl]
 unfold Oper.wp execOp
 simp only [ho, hx, Instr.loadAt, Instr.sureAddr, Sem.run_bind, Sem.run_pure, Result.andThen_ok, hr]
 exact hK _ _ h
theorem undO : Tryz.prog.underlying 79 = some (.struct (Tryz.prog.fieldsOf 79)) := by kernel_rfl
theorem oI : (Tryz.prog.info? 79).map (·.size) = some 21 := by kernel_rfl
theorem free1 (w : World) (B ws : Nat) (U : Nat → Prop) (vps : Value) (hs : List Nat) (vh : Value) (o : OpV) (hk : o.kind = 1) (hl : hs.length ≤ 99999960) (hst : St B U w ws vps hs vh) (ho : OpAt w o) :
  Calls Tryz.prog 50 #[ptrV ws, .agg o.arr] w fun e w' => e = .returned (.bool true) ∧ Below B w w' ∧ ∃ U' hs' vh', St B U' w' ws vps hs' vh' ∧ hs'.length = hs.length + 20 ∧ Went w w' ws (fun _ => False) U U' vh vh' := by
 have HST := hide hst
 have HO := hide ho
 clear hst ho
 unfold ptrV OpV.arr
 rw [hk]
 go_enter Tryz.func50, Tryz.ntmps50
 go_wp2_with fail
 have hbl : Below w.heap.size w (w.alloc (.cells o.arr 79)) := (Below.refl _ _).alloc (Nat.le_refl _) _
 unfold OpV.arr at hbl
 rw [hk] at hbl
 refine (packed_any _ B ws U vps hs vh o.m o.vq o.va o.vu o.vx hl (HST.out.below hbl) HO.out.wf (HO.out.msg.below hbl)).mono ?_
 rintro e w2 ⟨rfl, hb2, U2, hs2, vh2, hex1, hex2, hex3⟩
 have hex := (⟨U2, hs2, vh2, hex1, hex2, Went.after hbl hex3⟩ : ∃ U' hs' vh', St B U' w2 ws vps hs' vh' ∧ hs'.length = hs.length + 20 ∧ Went w w2 ws (fun _ => False) U U' vh vh')
 have HB2 := hide ((hbl.mono HST.out.sz).trans hb2)
 have HE := hide hex
 clear hb2 hex hex1 hex2 hex3 hbl
 go_wp2_with fail
 go_ret
 exact ⟨rfl, HB2.out, HE.out⟩
theorem step1 (w : World) (B ws : Nat) (U : Nat → Prop) (vps : Value) (hs : List Nat) (vh : Value) (o : OpV) (hk : o.kind = 1) (hl : hs.length ≤ 99999960) (hst : St B U w ws vps hs vh) (ho : OpAt w o) :
  Calls Tryz.prog 28 #[ptrV ws, .agg o.arr] w fun e w' => e = .returned (.bool true) ∧ Below B w w' ∧ ∃ U' hs' vh', St B U' w' ws vps hs' vh' ∧ hs'.length = hs.length + 20 ∧ Went w w' ws (fun _ => False) U U' vh vh' := by
 obtain ⟨kind, n, m, vq, va, vu, vx, s, frm, b, d, c, t, vr, rs⟩ := o
 dsimp only at hk
 subst hk
 have HST := hide hst
 have HO := hide ho
 clear hst ho
 unfold ptrV OpV.arr
 dsimp only
 go_enter Tryz.func28, Tryz.ntmps28
 go_wp2_with (refine wpList_load_cells _ rfl 79 _ rfl ⟨w.heap.size, 0, none⟩ rfl (OpV.arr ⟨1, n, m, vq, va, vu, vx, s, frm, b, d, c, t, vr, rs⟩) _ undO rfl oI (cells_new w (OpV.arr ⟨1, n, m, vq, va, vu, vx, s, frm, b, d, c, t, vr, rs⟩) 79) ?_)
 have hbl : Below w.heap.size w (w.alloc (.cells (OpV.arr ⟨1, n, m, vq, va, vu, vx, s, frm, b, d, c, t, vr, rs⟩) 79)) := (Below.refl _ _).alloc (Nat.le_refl _) _
 refine (free1 _ B ws U vps hs vh ⟨1, n, m, vq, va, vu, vx, s, frm, b, d, c, t, vr, rs⟩ rfl hl (HST.out.below hbl) (HO.out.below hbl)).mono ?_
 rintro e w2 ⟨rfl, hb2, U2, hs2, vh2, hex1, hex2, hex3⟩
 have hex := (⟨U2, hs2, vh2, hex1, hex2, Went.after hbl hex3⟩ : ∃ U' hs' vh', St B U' w2 ws vps hs' vh' ∧ hs'.length = hs.length + 20 ∧ Went w w2 ws (fun _ => False) U U' vh vh')
 have HB2 := hide ((hbl.mono HST.out.sz).trans hb2)
 have HE := hide hex
 clear hb2 hex hex1 hex2 hex3 hbl
 go_wp2_with fail
 go_ret
 exact ⟨rfl, HB2.out, HE.out⟩
end Go.Proofs.YtafoepfhepdcoaaGreat
