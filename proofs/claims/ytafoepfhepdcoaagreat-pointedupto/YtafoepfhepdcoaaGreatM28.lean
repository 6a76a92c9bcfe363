import Derived.Test.YtafoepfhepdcoaaGreatM27
import Derived.Deep.CutRange
set_option maxRecDepth 100000
set_option maxHeartbeats 8000000
namespace Go.Proofs.YtafoepfhepdcoaaGreat
open Go.RowKit Go.Trawl
attribute [local go_sem] buildKQ equalQ guardQ
def lbl (s : ByteArray) : List UInt8 := if s.data.toList.take 20 = [] then [120] else s.data.toList.take 20
theorem lbl_len (s : ByteArray) : 1 ≤ (lbl s).length ∧ (lbl s).length ≤ 20 := by
 unfold lbl
 split
 ·simp
 ·rename_i h
  have := List.length_pos_iff.2 h
  rw [List.length_take] at this ⊢
  omega
def namesV (l : List (List UInt8)) : List Value := l.map fun n => .string (str n)
theorem sI0 : (Tryz.prog.info? 9).map (fun i => (i.zero, i.size, i.bytes)) = some (some (.string ⟨#[]⟩), 1, 16) := by kernel_rfl
theorem uSs : Tryz.prog.underlying 39 = some (.slice 9) := by kernel_rfl
structure PM (w wr : World) (n : Nat) (p : PtS) (vb vw : Value) : Prop where
 below : Below w.heap.size w wr
 bytes : wr.ownsRow 0 5 1 vb (12 + p.body.length) (bytesV (headB 0 ++ p.body))
 names : wr.ownsRow 0 9 1 vw p.names.length (namesV p.names)
 blo : ∀ k, vb.ownBlock = some k → w.heap.size ≤ k
 wlo : ∀ k, vw.ownBlock = some k → w.heap.size ≤ k
 few : p.names.length ≤ 20 ∧ p.names.length ≤ n
 size : 12 + p.body.length ≤ 512
 last : p.last.length ≤ 255
 atl : p.at_ ≤ 12 + p.body.length
 reads : ∀ s, At s 12 p.body → Reads s p
theorem PM.next {w wr wr' : World} {n : Nat} {p : PtS} {vb vw : Value} (h : PM w wr n p vb vw) (hb : Below wr.heap.size wr wr') : PM w wr' n p vb vw :=
 { h with below := h.below.trans (hb.mono h.below.size), bytes := own_below h.bytes hb, names := own_below h.names hb }
structure PR (w W : World) (v vw : Value) (X : List UInt8) (nm : List (List UInt8)) : Prop where
 below : Below w.heap.size w W
 bytes : W.ownsRow 0 5 1 v X.length (bytesV X)
 names : W.ownsRow 0 9 1 vw nm.length (namesV nm)
 blo : ∀ k, v.ownBlock = some k → w.heap.size ≤ k
 wlo : ∀ k, vw.ownBlock = some k → w.heap.size ≤ k
theorem PR.grew {w W Wa W' : World} {v vw v' : Value} {X Y : List UInt8} {nm : List (List UInt8)} {k : Nat} {cells : List Value} (h : PR w W v vw X nm) (hb : Below W.heap.size W Wa) (g : Grew 5 1 Wa W' v v' (X.length + k) (bytesV X ++ cells)) (hc : cells = bytesV Y) (hk : k = Y.length) : PR w W' v' vw (X ++ Y) nm := by
 subst hc hk
 have hn := own_below h.names hb
 have hx := own_below h.bytes hb
 have gb := g.below (B := w.heap.size) (Nat.le_trans h.below.size hb.size) h.blo
 refine ⟨(h.below.trans (hb.mono h.below.size)).trans gb.1, ?_, ?_, gb.2, h.wlo⟩
 ·rw [List.length_append, bytesV_append]
  exact g.own
 ·cases hv : v.ownBlock with
  | none => exact own_below hn (below_grownBy (by have := g.grown; rw [hv] at this; exact this))
  | some r => exact own_grown hn (by have := g.grown; rw [hv] at this; exact this) (fun e => k_apart hn hx (by decide) e hv)
theorem PR.next {w W W' : World} {v vw : Value} {X : List UInt8} {nm : List (List UInt8)} (h : PR w W v vw X nm) (hb : Below W.heap.size W W') : PR w W' v vw X nm :=
 { h with below := h.below.trans (hb.mono h.below.size), bytes := own_below h.bytes hb, names := own_below h.names hb }
theorem one_s {x : ByteArray} : ∀ u ∈ [Value.string x], u.oneCell' = true := by
 intro u hu
 simp at hu
 subst hu
 rfl
theorem one_u4 {a b c d : Int} : ∀ u ∈ [Value.int .u8 a, .int .u8 b, .int .u8 c, .int .u8 d], u.oneCell' = true := by
 intro u hu
 simp at hu
 rcases hu with rfl | rfl | rfl | rfl <;> rfl
theorem head_len (k : Nat) : (headB k).length = 12 := rfl
theorem lies_q {w : World} {a : Option Addr} {n c : Nat} {l : List Qn} (h : Lies w 3 (.slice a n c) (l.map Qn.cells)) {k : Nat} {q : Qn} (hk : l[k]? = some q) : ∃ b off, a = some ⟨b, off, none⟩ ∧ w.cell? ⟨b, off + k * 3, none⟩ = some (.string q.name) ∧ w.cell? ⟨b, off + k * 3 + 1, none⟩ = some (.int .u16 q.kind) ∧ w.cell? ⟨b, off + k * 3 + 2, none⟩ = some (.int .u16 q.cls) := by
 obtain ⟨_, _, hv, _, hc⟩ := h
 rcases hc with he | ⟨b, off, he, _, hc⟩
 ·have : l = [] := by simpa using he
  rw [this] at hk
  simp at hk
 ·rw [he] at hv
  injection hv with hv
  refine ⟨b, off, hv, ?_, ?_, ?_⟩
  ·have := hc k q.cells (by rw [List.getElem?_map, hk]; rfl) 0 _ rfl; rwa [Nat.add_zero] at this
  ·exact hc k q.cells (by rw [List.getElem?_map, hk]; rfl) 1 _ rfl
  ·exact hc k q.cells (by rw [List.getElem?_map, hk]; rfl) 2 _ rfl
theorem row_text {w : World} {a : Option Addr} {n c : Nat} {l : List (List UInt8)} (h : w.ownsRow 0 9 1 (.slice a n c) l.length (namesV l)) {k : Nat} {x : List UInt8} (hk : l[k]? = some x) : ∃ g, a = some ⟨g, 0, none⟩ ∧ w.cell? ⟨g, k, none⟩ = some (.string (str x)) := by
 rcases h.2 with ⟨_, h0⟩ | ⟨g, cap, cur, e, _⟩
 ·have : l = [] := List.eq_nil_of_length_eq_zero h0
  rw [this] at hk
  simp at hk
 ·cases e
  have := h.cells (g := g) rfl k (.string (str x)) (by unfold namesV; rw [List.getElem?_map, hk]; rfl)
  refine ⟨g, rfl, ?_⟩
  have e1 : (⟨g, 0, none⟩ : Addr).add k = ⟨g, k, none⟩ := by
   unfold Addr.add
   by_cases h : k = 0
   ·rw [h]; rfl
   ·rw [if_neg h]; simp
  rwa [e1] at this
theorem put_count {w : World} {g cap : Nat} {cur : Array Value} {t : TypeId} {body : List UInt8} {k : Nat} (hk : k < 256) (hg : w.heap[g]? = some (.cells cur t)) (htk : cur.toList.take ((12 + body.length) * 1) = bytesV (headB 0 ++ body)) (hcs : cur.size = cap * 1) (hcap : 12 + body.length ≤ cap) :
  Bytes (w.setCell ⟨g, 5, none⟩ (.int .u8 (k : Int))) g (str (headB k ++ body)) := by
 intro j hj
 have hj' : j < (headB k ++ body).length := hj
 rw [List.length_append, head_len] at hj'
 have h1 := heap_setCell_eq (j := 5) hg (.int .u8 (k : Int))
 rw [box_cells h1 j]
 have hat : at8 (str (headB k ++ body)) j = ((headB k ++ body).getD j 0).toNat := at8_lst _ _
 rw [hat]
 by_cases h5 : j = 5
 ·subst h5
  rw [Array.getElem?_setIfInBounds_self_of_lt (by omega)]
  have : (headB k ++ body).getD 5 0 = UInt8.ofNat k := rfl
  rw [this, u8n hk]
 ·rw [Array.getElem?_setIfInBounds_ne (Ne.symm h5)]
  have e1 : cur[j]? = (cur.toList.take ((12 + body.length) * 1))[j]? := by
   rw [List.getElem?_take, if_pos (by omega)]
   simp
  rw [e1, htk]
  unfold bytesV
  have hl : j < (headB 0 ++ body).length := by rw [List.length_append, head_len]; omega
  rw [List.getElem?_map, List.getElem?_eq_getElem hl]
  have e2 : (headB k ++ body).getD j 0 = (headB 0 ++ body)[j] := by
   rw [List.getD_eq_getElem?_getD]
   by_cases hj12 : j < 12
   ·rw [List.getElem?_append_left (by rw [head_len]; exact hj12), List.getElem_append_left (by rw [head_len]; exact hj12)]
    have : ∀ j : Fin 12, j.val ≠ 5 → ((headB k)[j.val]?.getD 0) = (headB 0)[j.val]'(by rw [head_len]; exact j.isLt) := by
     intro j hj
     match j, hj with
     | ⟨0, _⟩, _ => rfl
     | ⟨1, _⟩, _ => rfl
     | ⟨2, _⟩, _ => rfl
     | ⟨3, _⟩, _ => rfl
     | ⟨4, _⟩, _ => rfl
     | ⟨5, _⟩, h => exact absurd rfl h
     | ⟨6, _⟩, _ => rfl
     | ⟨7, _⟩, _ => rfl
     | ⟨8, _⟩, _ => rfl
     | ⟨9, _⟩, _ => rfl
     | ⟨10, _⟩, _ => rfl
     | ⟨11, _⟩, _ => rfl
    exact this ⟨j, hj12⟩ h5
   ·rw [List.getElem?_append_right (by rw [head_len]; omega), List.getElem_append_right (by rw [head_len]; omega), List.getElem?_eq_getElem (by rw [head_len]; omega)]
    rfl
  rw [e2]
  rfl
theorem pointed_any (w : World) (v : Value) (ls : List ByteArray) (hv : Lies w 1 v (textsV ls)) (_hn : ls.length ≤ 2097152) (hs : ∀ s ∈ ls, s.size ≤ 2097152) :
  Calls Tryz.prog 8 #[v] w fun e w' => e = .returned (.bool true) ∧ Below w.heap.size w w' := by
 obtain ⟨i0, hi, hz0, hz1, hz2⟩ := info_parts u8_info
 obtain ⟨i1, hi1, hy0, hy1, hy2⟩ := info_parts sI0
 obtain ⟨a, c, rfl, _⟩ := (show Lies w 1 v (textsV ls) from hv)
 have hlen : (textsV ls).length = ls.length := by simp [textsV]
 rw [hlen] at hv ⊢
 have HV := hide hv
 have HS := hide hs
 clear hv hs
 go_enter Tryz.func8, Tryz.ntmps8
 go_wp2_with fail
 refine (known_any w).mono ?_
 rintro e w1 ⟨rfl, H1⟩
 have HB1 := hide H1.out
 have hz1' := HB1.out.size
 clear H1
 go_wp2_with fail
 have HP0 : Hid (PM w (w1.alloc (.cells #[.int .u8 0, .int .u8 5, .int .u8 128, .int .u8 0, .int .u8 0, .int .u8 0, .int .u8 0, .int .u8 0, .int .u8 0, .int .u8 0, .int .u8 0, .int .u8 0] 5)) ls.length PtS.start (.slice (some ⟨w1.heap.size, 0, none⟩) 12 12) (.slice none 0 0)) := by
  have hb := (Below.refl w1.heap.size w1).alloc (Nat.le_refl _) (.cells #[.int .u8 0, .int .u8 5, .int .u8 128, .int .u8 0, .int .u8 0, .int .u8 0, .int .u8 0, .int .u8 0, .int .u8 0, .int .u8 0, .int .u8 0, .int .u8 0] 5)
  refine ⟨HB1.out.trans (hb.mono hz1'), ?_, World.ownsRow_nil _ _ _ _, fun k hk => ?_, (fun k hk => by cases hk), ⟨by simp [PtS.start], by simp [PtS.start]⟩, by simp [PtS.start], by simp [PtS.start], by simp [PtS.start], fun s _ => Reads.start s⟩
  ·exact own_block (n := 12) (heap_new w1 _) rfl rfl (by decide)
  ·have := Option.some.inj hk; simp at this; omega
 generalize w1.alloc _ = W2 at HP0 ⊢
 go_loopw [4, 5, 6, 7, 8] (fun vb vw va vl vi wr => ∃ p : PtS, vi = .int .i64 p.names.length ∧ va = .int .i64 p.at_ ∧ vl = .string (str p.last) ∧ Hid (PM w wr ls.length p vb vw)) (fun _ _ _ _ vi _ => ls.length - (intOf vi).toNat)
 case atStart => exact ⟨PtS.start, rfl, rfl, rfl, HP0.out⟩
 case round =>
  obtain ⟨p, rfl, rfl, rfl, HM⟩ := hrel
  obtain ⟨ab, cb, rfl⟩ := own_slice HM.out.bytes
  obtain ⟨aw, cw, rfl⟩ := own_slice HM.out.names
  have hf1 := HM.out.few.1
  have hsb := HM.out.size
  have hla := HM.out.last
  have hf2 := HM.out.few.2
  by_cases hin : p.names.length < ls.length ∧ p.names.length < 20
  ·obtain ⟨hin1, hin2⟩ := hin
   obtain ⟨s, hs⟩ : ∃ s, ls[p.names.length]? = some s := ⟨_, List.getElem?_eq_getElem hin1⟩
   obtain ⟨a', c', hva, -, hlie⟩ := HV.out.below HM.out.below
   rw [hlen] at hva
   cases hva
   rcases hlie with he | ⟨b, off, rfl, hbl, hc⟩
   ·exfalso; have := congrArg List.length he; rw [hlen] at this; simp at this; rw [this] at hin1; simp at hin1
   have c0 := hc p.names.length [.string s] (by simp [textsV, hs]) 0 _ rfl
   rw [Nat.mul_one, Nat.add_zero] at c0
   have hss := HS.out s (List.mem_of_getElem? hs)
   clear hc hs
   have HSZ := hide hss
   rcases (show 20 < s.size ∨ s.size = 0 ∨ (1 ≤ s.size ∧ s.size ≤ 20) by omega) with h20 | h0 | ⟨h1, h2⟩
   ·have hd1 : decide ((20 : Int) < (s.size : Int)) = true := by simp; omega
    have hd2 : (s.extract 0 20).toList.isEmpty = false := isEmpty_no (by rw [ByteArray.size_extract]; omega)
    go_upto_region 16 with fail
    have hLl := lbl_len s
    have HL : Hid (str (lbl s) = (s.extract 0 20)) := by unfold Hid lbl; rw [extract_eq, if_neg (fun e => by have := congrArg List.length e; simp at this; rw [this] at h20; simp at h20)]; rfl
    rw [← HL.out]
    generalize hLg : lbl s = L at hLl HL ⊢
    have hL1 := hLl.1
    have hL2 := hLl.2
    have hw1 : IntKind.u8.wrap (L.length : Int) = (L.length : Int) := by rw [IntKind.wrap_u8]; omega
    have hcv : (convert 32 9 (.slice (some ⟨wr.heap.size, 0, none⟩) 1 1)).run Tryz.prog (wr.alloc (.cells #[.int .u8 (L.length : Int)] 5)) = .ok (.string (str [UInt8.ofNat L.length])) (wr.alloc (.cells #[.int .u8 (L.length : Int)] 5)) := conv_own _ 0 (some ⟨wr.heap.size, 0, none⟩) 1 [UInt8.ofNat L.length] (own_block (n := 1) (heap_new wr _) (by simp [bytesV, u8n (show L.length < 256 by omega)]) rfl (by decide))
    have hszL : (str L).size = L.length := rfl
    obtain ⟨N, hN⟩ : ∃ N, N = [UInt8.ofNat L.length] ++ L ++ p.last := ⟨_, rfl⟩
    have hNl : N.length = 1 + L.length + p.last.length := by rw [hN]; simp; omega
    obtain ⟨N1, hN1⟩ : ∃ N1, N1 = [UInt8.ofNat L.length] ++ L := ⟨_, rfl⟩
    have hc1 : str [UInt8.ofNat L.length] ++ str L = str N1 := by rw [str_append, hN1]
    have hc2 : str N1 ++ str p.last = str N := by rw [str_append, hN, hN1]
    have hs0 : (str [UInt8.ofNat L.length]).size = 1 := rfl
    have hs1 : (str N1).size = 1 + L.length := by show N1.length = _; rw [hN1]; simp; omega
    clear hN1
    have hs2 : (str p.last).size = p.last.length := rfl
    have hs3 : (str N).size = N.length := rfl
    have HN := hide hN
    clear hN
    have HMA := hide (HM.out.next ((Below.refl wr.heap.size wr).alloc (Nat.le_refl _) (.cells #[.int .u8 (L.length : Int)] 5)))
    by_cases hb1 : 255 < N.length
    ·have hb1' : decide ((255 : Int) < (N.length : Int)) = true := by simp; omega
     go_upto_region 28 with fail
     generalize wr.alloc _ = WB at HMA ⊢
     rcases (HMA).out.bytes.2 with ⟨_, h0⟩ | ⟨g, cap, cur, e, _, hg, hcap, _, hcs, htk⟩
     ·omega
     cases e
     have hcg : (WB).cell? ⟨g, 5, none⟩ = some (cur[5]'(by omega)) := by rw [box_cells hg 5]; exact Array.getElem?_eq_getElem _
     have hfg := frozen_of_block hg
     have hgsz : g < (WB).heap.size := heap_lt hg
     have hw5 : IntKind.u8.wrap (p.names.length : Int) = (p.names.length : Int) := by rw [IntKind.wrap_u8]; omega
     have HBY := hide (put_count (k := p.names.length) (by omega) hg htk hcs hcap)
     have HU : Hid (unpack (str (headB p.names.length ++ p.body)) = some ⟨5, true, 0, false, false, false, false, 0, qsOf p.names, [], [], []⟩) := unpack_points (HMA).out.few.1 (HMA).out.size (HMA).out.reads
     have hG := grownBy_setCell (WB) g 5 (.int .u8 (p.names.length : Int))
     have HB2 := hide ((HMA).out.below.trans (kb_put hG ((HMA).out.blo g rfl) (HMA).out.below.size))
     have HW2 := hide (own_grown (HMA).out.names hG (fun e => k_apart (HMA).out.names (HMA).out.bytes (by decide) e rfl))
     have hz2' := hG.size
     clear hG
     go_wp2_with fail
     generalize (WB).setCell ⟨g, 5, none⟩ (.int .u8 (p.names.length : Int)) = W2 at HBY HB2 HW2 hz2' ⊢
     have hun := tUnpack2 W2 g cb (str (headB p.names.length ++ p.body)) (by show (headB p.names.length ++ p.body).length ≤ _; rw [List.length_append, head_len]; omega) (by show (headB p.names.length ++ p.body).length ≤ _; rw [List.length_append, head_len]; omega) (by omega) HBY.out
     have hszh : (str (headB p.names.length ++ p.body)).size = 12 + p.body.length := by show (headB p.names.length ++ p.body).length = _; rw [List.length_append, head_len]
     rw [(unM_of HU.out).1, (unM_of HU.out).2, hszh] at hun
     refine hun.mono ?_
     clear hun hszh HBY hcg hfg hw5
     rintro e w3 ⟨aq3, cq3, aa3, ca3, au3, cu3, ax3, cx3, rfl, H3⟩
     dsimp only [msgCells]
     have hql : (qsOf p.names).length = p.names.length := by unfold qsOf; rw [List.length_mapIdx]
     rw [hql]
     have hb4 := H3.out.1.trans (((Below.refl w3.heap.size w3).alloc (Nat.le_refl _) (.cells #[.int .u16 5, .bool true, .int .i64 0, .bool false, .bool false, .bool false, .bool false, .int .i64 0, .slice aq3 p.names.length cq3, .slice aa3 0 ca3, .slice au3 0 cu3, .slice ax3 0 cx3] 30)).mono H3.out.1.size)
     have HM4 := hide (heap_new w3 (.cells #[.int .u16 5, .bool true, .int .i64 0, .bool false, .bool false, .bool false, .bool false, .int .i64 0, .slice aq3 p.names.length cq3, .slice aa3 0 ca3, .slice au3 0 cu3, .slice ax3 0 cx3] 30))
     have hq4 := (Rows4.at H3.out.2.2).q
     dsimp only at hq4
     rw [hql] at hq4
     have HQ4 := hide (hq4.below ((Below.refl w3.heap.size w3).alloc (Nat.le_refl _) (.cells #[.int .u16 5, .bool true, .int .i64 0, .bool false, .bool false, .bool false, .bool false, .int .i64 0, .slice aq3 p.names.length cq3, .slice aa3 0 ca3, .slice au3 0 cu3, .slice ax3 0 cx3] 30)))
     have HB4 := hide (HB2.out.trans (hb4.mono HB2.out.size))
     have HW4 := hide (own_below HW2.out hb4)
     clear hb4 H3 HB2 HW2 hq4
     have hcm := box_cells HM4.out
     go_wp2_with fail
     clear hcm
     generalize w3.alloc _ = W4 at HM4 HQ4 HB4 HW4 ⊢
     generalize w3.heap.size = M at HM4 ⊢
     have HW0 : Hid (∃ n, W4 = W4.drewN n) := ⟨0, rfl⟩
     go_loopw [14] (fun vi wr2 => ∃ k : Nat, vi = .int .i64 k ∧ k ≤ p.names.length ∧ Hid (∃ n, wr2 = W4.drewN n)) (fun vi _ => p.names.length - (intOf vi).toNat)
     case atStart => exact ⟨0, rfl, Nat.zero_le _, HW0.out⟩
     case round =>
      obtain ⟨k, rfl, hk, HWR⟩ := hrel
      by_cases hlt : k < p.names.length
      ·obtain ⟨nm, hnm⟩ : ∃ nm, p.names[k]? = some nm := ⟨_, List.getElem?_eq_getElem hlt⟩
       have hq : (qsOf p.names)[k]? = some ⟨str nm, (k : Int), 1⟩ := by unfold qsOf; rw [List.getElem?_mapIdx, hnm]; rfl
       obtain ⟨bq, offq, eq_, q0, q1, q2⟩ := lies_q HQ4.out hq
       cases eq_
       obtain ⟨gw, ew, w0⟩ := row_text HW4.out hnm
       cases ew
       have hcw : ∀ p, wr.cell? p = W4.cell? p := by obtain ⟨n, hn⟩ := HWR.out; rw [hn]; intro p; rfl
       have hcm8 : wr.cell? ⟨M, 8, none⟩ = some (.slice (some ⟨bq, offq, none⟩) p.names.length cq3) := (hcw _).trans ((box_cells HM4.out 8).trans rfl)
       rw [← hcw] at q0 q1 q2 w0
       have hw16 : IntKind.u16.wrap (k : Int) = (k : Int) := by rw [IntKind.wrap_u16]; omega
       clear hcw hq hnm
       go_wp2_with fail
       go_quiet (fail)
       go_wp2_with fail
       go_roundw
       case rel =>
        obtain ⟨n, hn⟩ := HWR.out
        have HX : Hid (∃ m, wr.drewN nq = W4.drewN m) := ⟨n + nq, by rw [hn, World.drewN_drewN]⟩
        (repeat apply Exists.intro)
        exact ⟨⟨k + 1, by go_num, by omega, HX⟩, rfl⟩
       case measure => simp [intOf]; omega
      ·go_wp2_with fail
       go_ret
       obtain ⟨n, hn⟩ := HWR.out
       exact ⟨rfl, by rw [hn]; exact below_drewN HB4.out n⟩
    by_cases hb2 : 512 < 12 + p.body.length + L.length + 8
    ·have hb2' : decide ((512 : Int) < 12 + (p.body.length : Int) + (L.length : Int) + 8) = true := by simp; omega
     go_upto_region 28 with fail
     generalize wr.alloc _ = WB at HMA ⊢
     rcases (HMA).out.bytes.2 with ⟨_, h0⟩ | ⟨g, cap, cur, e, _, hg, hcap, _, hcs, htk⟩
     ·omega
     cases e
     have hcg : (WB).cell? ⟨g, 5, none⟩ = some (cur[5]'(by omega)) := by rw [box_cells hg 5]; exact Array.getElem?_eq_getElem _
     have hfg := frozen_of_block hg
     have hgsz : g < (WB).heap.size := heap_lt hg
     have hw5 : IntKind.u8.wrap (p.names.length : Int) = (p.names.length : Int) := by rw [IntKind.wrap_u8]; omega
     have HBY := hide (put_count (k := p.names.length) (by omega) hg htk hcs hcap)
     have HU : Hid (unpack (str (headB p.names.length ++ p.body)) = some ⟨5, true, 0, false, false, false, false, 0, qsOf p.names, [], [], []⟩) := unpack_points (HMA).out.few.1 (HMA).out.size (HMA).out.reads
     have hG := grownBy_setCell (WB) g 5 (.int .u8 (p.names.length : Int))
     have HB2 := hide ((HMA).out.below.trans (kb_put hG ((HMA).out.blo g rfl) (HMA).out.below.size))
     have HW2 := hide (own_grown (HMA).out.names hG (fun e => k_apart (HMA).out.names (HMA).out.bytes (by decide) e rfl))
     have hz2' := hG.size
     clear hG
     go_wp2_with fail
     generalize (WB).setCell ⟨g, 5, none⟩ (.int .u8 (p.names.length : Int)) = W2 at HBY HB2 HW2 hz2' ⊢
     have hun := tUnpack2 W2 g cb (str (headB p.names.length ++ p.body)) (by show (headB p.names.length ++ p.body).length ≤ _; rw [List.length_append, head_len]; omega) (by show (headB p.names.length ++ p.body).length ≤ _; rw [List.length_append, head_len]; omega) (by omega) HBY.out
     have hszh : (str (headB p.names.length ++ p.body)).size = 12 + p.body.length := by show (headB p.names.length ++ p.body).length = _; rw [List.length_append, head_len]
     rw [(unM_of HU.out).1, (unM_of HU.out).2, hszh] at hun
     refine hun.mono ?_
     clear hun hszh HBY hcg hfg hw5
     rintro e w3 ⟨aq3, cq3, aa3, ca3, au3, cu3, ax3, cx3, rfl, H3⟩
     dsimp only [msgCells]
     have hql : (qsOf p.names).length = p.names.length := by unfold qsOf; rw [List.length_mapIdx]
     rw [hql]
     have hb4 := H3.out.1.trans (((Below.refl w3.heap.size w3).alloc (Nat.le_refl _) (.cells #[.int .u16 5, .bool true, .int .i64 0, .bool false, .bool false, .bool false, .bool false, .int .i64 0, .slice aq3 p.names.length cq3, .slice aa3 0 ca3, .slice au3 0 cu3, .slice ax3 0 cx3] 30)).mono H3.out.1.size)
     have HM4 := hide (heap_new w3 (.cells #[.int .u16 5, .bool true, .int .i64 0, .bool false, .bool false, .bool false, .bool false, .int .i64 0, .slice aq3 p.names.length cq3, .slice aa3 0 ca3, .slice au3 0 cu3, .slice ax3 0 cx3] 30))
     have hq4 := (Rows4.at H3.out.2.2).q
     dsimp only at hq4
     rw [hql] at hq4
     have HQ4 := hide (hq4.below ((Below.refl w3.heap.size w3).alloc (Nat.le_refl _) (.cells #[.int .u16 5, .bool true, .int .i64 0, .bool false, .bool false, .bool false, .bool false, .int .i64 0, .slice aq3 p.names.length cq3, .slice aa3 0 ca3, .slice au3 0 cu3, .slice ax3 0 cx3] 30)))
     have HB4 := hide (HB2.out.trans (hb4.mono HB2.out.size))
     have HW4 := hide (own_below HW2.out hb4)
     clear hb4 H3 HB2 HW2 hq4
     have hcm := box_cells HM4.out
     go_wp2_with fail
     clear hcm
     generalize w3.alloc _ = W4 at HM4 HQ4 HB4 HW4 ⊢
     generalize w3.heap.size = M at HM4 ⊢
     have HW0 : Hid (∃ n, W4 = W4.drewN n) := ⟨0, rfl⟩
     go_loopw [14] (fun vi wr2 => ∃ k : Nat, vi = .int .i64 k ∧ k ≤ p.names.length ∧ Hid (∃ n, wr2 = W4.drewN n)) (fun vi _ => p.names.length - (intOf vi).toNat)
     case atStart => exact ⟨0, rfl, Nat.zero_le _, HW0.out⟩
     case round =>
      obtain ⟨k, rfl, hk, HWR⟩ := hrel
      by_cases hlt : k < p.names.length
      ·obtain ⟨nm, hnm⟩ : ∃ nm, p.names[k]? = some nm := ⟨_, List.getElem?_eq_getElem hlt⟩
       have hq : (qsOf p.names)[k]? = some ⟨str nm, (k : Int), 1⟩ := by unfold qsOf; rw [List.getElem?_mapIdx, hnm]; rfl
       obtain ⟨bq, offq, eq_, q0, q1, q2⟩ := lies_q HQ4.out hq
       cases eq_
       obtain ⟨gw, ew, w0⟩ := row_text HW4.out hnm
       cases ew
       have hcw : ∀ p, wr.cell? p = W4.cell? p := by obtain ⟨n, hn⟩ := HWR.out; rw [hn]; intro p; rfl
       have hcm8 : wr.cell? ⟨M, 8, none⟩ = some (.slice (some ⟨bq, offq, none⟩) p.names.length cq3) := (hcw _).trans ((box_cells HM4.out 8).trans rfl)
       rw [← hcw] at q0 q1 q2 w0
       have hw16 : IntKind.u16.wrap (k : Int) = (k : Int) := by rw [IntKind.wrap_u16]; omega
       clear hcw hq hnm
       go_wp2_with fail
       go_quiet (fail)
       go_wp2_with fail
       go_roundw
       case rel =>
        obtain ⟨n, hn⟩ := HWR.out
        have HX : Hid (∃ m, wr.drewN nq = W4.drewN m) := ⟨n + nq, by rw [hn, World.drewN_drewN]⟩
        (repeat apply Exists.intro)
        exact ⟨⟨k + 1, by go_num, by omega, HX⟩, rfl⟩
       case measure => simp [intOf]; omega
      ·go_wp2_with fail
       go_ret
       obtain ⟨n, hn⟩ := HWR.out
       exact ⟨rfl, by rw [hn]; exact below_drewN HB4.out n⟩
    have hwi : IntKind.u8.wrap (p.names.length : Int) = (p.names.length : Int) := by rw [IntKind.wrap_u8]; omega
    have HR0 : Hid (PR w (wr.alloc (.cells #[.int .u8 (L.length : Int)] 5)) (.slice ab (12 + p.body.length) cb) (.slice aw p.names.length cw) (headB 0 ++ p.body) p.names) := ⟨HMA.out.below, by rw [List.length_append, head_len]; exact HMA.out.bytes, HMA.out.names, HMA.out.blo, HMA.out.wlo⟩
    have hX0 : (headB 0 ++ p.body).length = 12 + p.body.length := by rw [List.length_append, head_len]
    generalize hX0g : headB 0 ++ p.body = X0 at HR0 hX0
    have HX0 := hide hX0g
    clear hX0g
    go_upto_region 20 with (at_builtin; refine wpList_append_grew _ rfl _ _ 32 rfl 5 i0 (.int .u8 0) 1 1 und_bytes hi hz0 hz1 hz2 rfl (by decide) (.slice ab (12 + p.body.length) cb) X0.length _ rfl ⟨wr.heap.size + 1, 0, none⟩ 1 1 [.int .u8 (L.length : Int)] rfl rfl one_u8 (HR0.out.bytes.alloc _) (cells_new2 _ _ _ _) (by unfold maxLen; omega) (by omega) ?_; intro v1 W1 g1; have R1 := hide (HR0.out.grew (Y := [UInt8.ofNat L.length]) ((Below.refl _ _).alloc (Nat.le_refl _) _) g1 (by simp [bytesV, u8n (show L.length < 256 by omega)]) rfl); clear g1)
    have hX1 : (X0 ++ [UInt8.ofNat L.length]).length = 12 + p.body.length + 1 := by rw [List.length_append, hX0]; rfl
    generalize hX1g : X0 ++ [UInt8.ofNat L.length] = X1 at R1 hX1
    have HX1 := hide hX1g
    clear hX1g HR0
    obtain ⟨a1, c1, rfl⟩ := own_slice R1.out.bytes
    go_upto_region 21 with (at_builtin; refine wpList_append_grew_string _ rfl _ _ 32 9 rfl 5 i0 und_bytes und_string hi hz0 hz1 hz2 (.slice a1 X1.length c1) X1.length _ rfl (str L) rfl R1.out.bytes (by unfold maxLen; omega) (by omega) ?_; intro v2 W2 g2; have R2 := hide (R1.out.grew (Y := L) (Below.refl _ _) g2 (strCells_bytesV (str L)) rfl); clear g2)
    have hX2 : (X1 ++ L).length = 12 + p.body.length + 1 + L.length := by rw [List.length_append, hX1]
    generalize hX2g : X1 ++ L = X2 at R2 hX2
    have HX2 := hide hX2g
    clear hX2g R1
    obtain ⟨a2, c2, rfl⟩ := own_slice R2.out.bytes
    by_cases hat0 : p.at_ = 0
    ·have hat0' : ((p.at_ : Int) == 0) = true := by simp; exact hat0
     have HAT0 := hide hat0
     clear hat0
     go_upto_region 24 with (at_builtin; refine wpList_append_grew _ rfl _ _ 32 rfl 5 i0 (.int .u8 0) 1 1 und_bytes hi hz0 hz1 hz2 rfl (by decide) (.slice a2 X2.length c2) X2.length _ rfl ⟨W2.heap.size, 0, none⟩ 1 1 [.int .u8 0] rfl rfl one_u8 (R2.out.bytes.alloc _) (cells_new _ _ _) (by unfold maxLen; omega) (by omega) ?_; intro v3 W3 g3; have R3 := hide (R2.out.grew (Y := onB p.at_) ((Below.refl _ _).alloc (Nat.le_refl _) _) g3 (by unfold onB; rw [if_pos HAT0.out]; rfl) (by unfold onB; rw [if_pos HAT0.out]; rfl)); clear g3)
     have hX3 : (X2 ++ onB p.at_).length = 12 + p.body.length + 1 + L.length + (onB p.at_).length := by rw [List.length_append, hX2]
     have hon : 1 ≤ (onB p.at_).length ∧ (onB p.at_).length ≤ 2 := by unfold onB; split <;> simp
     generalize hX3g : X2 ++ onB p.at_ = X3 at R3 hX3
     have HX3 := hide hX3g
     clear hX3g R2
     obtain ⟨a3, c3, rfl⟩ := own_slice R3.out.bytes
     have HY : Hid ([Value.int .u8 0, .int .u8 (p.names.length : Int), .int .u8 0, .int .u8 1] = bytesV (two (p.names.length : Int) ++ two 1)) := by
      unfold Hid
      rw [bytesV_append, two_cells' (by omega) (by omega), two_cells' (by decide) (by decide)]
      have e1 : (p.names.length : Int) / 256 = 0 := by omega
      have e2 : (p.names.length : Int) % 256 = p.names.length := by omega
      rw [e1, e2]
      rfl
     go_upto_region 25 with (at_builtin; refine wpList_append_grew _ rfl _ _ 32 rfl 5 i0 (.int .u8 0) 1 1 und_bytes hi hz0 hz1 hz2 rfl (by decide) (.slice a3 X3.length c3) X3.length _ rfl ⟨W3.heap.size, 0, none⟩ 4 4 [.int .u8 0, .int .u8 (p.names.length : Int), .int .u8 0, .int .u8 1] rfl rfl one_u4 (R3.out.bytes.alloc _) (cells_new W3 #[.int .u8 0, .int .u8 (p.names.length : Int), .int .u8 0, .int .u8 1] 5) (by unfold maxLen; omega) (by omega) ?_; intro v4 W4 g4; have R4 := hide (R3.out.grew (Y := two (p.names.length : Int) ++ two 1) ((Below.refl _ _).alloc (Nat.le_refl _) _) g4 HY.out rfl); clear g4)
     clear R3 HY
     have hX4 : (X3 ++ (two (p.names.length : Int) ++ two 1)).length = 12 + (p.body ++ entryB p.names.length L p.at_).length := by
      rw [List.length_append, hX3, List.length_append]
      unfold entryB
      simp only [List.length_append, length_two, List.length_cons, List.length_nil]
      omega
     have HX4 : Hid (X3 ++ (two (p.names.length : Int) ++ two 1) = headB 0 ++ (p.body ++ entryB p.names.length L p.at_)) := by
      unfold Hid entryB
      rw [← HX3.out, ← HX2.out, ← HX1.out, ← HX0.out]
      simp only [List.append_assoc]
     obtain ⟨a4, c4, rfl⟩ := own_slice R4.out.bytes
     go_wp2_with (at_builtin; refine wpList_append_grew _ rfl _ _ 39 rfl 9 i1 (.string ⟨#[]⟩) 1 16 uSs hi1 hy0 hy1 hy2 rfl (by decide) (.slice aw p.names.length cw) p.names.length _ rfl ⟨W4.heap.size, 0, none⟩ 1 1 [.string (str N)] rfl rfl one_s (R4.out.names.alloc _) (cells_new _ _ _) (by unfold maxLen; omega) (by omega) ?_; intro v5 W5 g5; have G5 := hide g5; clear g5)
     have HPM : Hid (PM w W5 ls.length (p.step L) (.slice a4 (X3 ++ (two (p.names.length : Int) ++ two 1)).length c4) v5) := by
      have hba := (Below.refl W4.heap.size W4).alloc (Nat.le_refl _) (.cells #[.string (str N)] 9)
      have gb := G5.out.below (B := w.heap.size) (by rw [alloc_size]; have := R4.out.below.size; omega) R4.out.wlo
      have hbt := own_below R4.out.bytes hba
      have hnm := own_below R4.out.names hba
      have hst : (p.step L).body = p.body ++ entryB p.names.length L p.at_ := rfl
      have hsl : (p.step L).last = N := HN.out.symm
      have hsn : (p.step L).names = p.names ++ [N] := by rw [HN.out]; rfl
      refine ⟨(R4.out.below.trans (hba.mono R4.out.below.size)).trans gb.1, ?_, ?_, R4.out.blo, gb.2, ?_, ?_, ?_, (by show 12 + p.body.length ≤ 12 + (p.step L).body.length; rw [hst, List.length_append]; omega), ?_⟩
      ·rw [hst, ← HX4.out, ← hX4]
       cases hv : (Value.slice aw p.names.length cw).ownBlock with
       | none => exact own_below hbt (below_grownBy (by have := G5.out.grown; rw [hv] at this; exact this))
       | some r => exact own_grown hbt (by have := G5.out.grown; rw [hv] at this; exact this) (fun e => k_apart hnm hbt (by decide) hv e)
      ·rw [hsn]
       unfold namesV
       rw [List.length_append, List.map_append]
       exact G5.out.own
      ·rw [hsn, List.length_append]
       simp
       omega
      ·rw [hst, ← hX4, List.length_append, hX3, List.length_append, length_two, length_two]
       omega
      ·rw [hsl]
       omega
      ·intro s' hs'
       have hl4 : 12 + (p.step L).body.length ≤ 512 := by
        rw [hst, ← hX4, List.length_append, hX3, List.length_append, length_two, length_two]
        omega
       exact (HM.out.reads s' (by rw [hst] at hs'; exact hs'.left)).step hL1 hL2 hin2 hl4 (by rw [hsl]; omega) hs'
     have HSL : Hid ((p.step L).last = N) := HN.out.symm
     have hsnl : (p.step L).names.length = p.names.length + 1 := by unfold PtS.step; simp
     have hsat : (p.step L).at_ = 12 + p.body.length := rfl
     have he4 : (X3 ++ (two (p.names.length : Int) ++ two 1)).length = 12 + (p.body.length + (entryB p.names.length L p.at_).length) := by rw [hX4, List.length_append]
     rw [he4] at HPM
     exact ⟨⟨p.step L, congrArg _ (by rw [hsnl]; omega), congrArg _ (by rw [hsat]; omega), by rw [HSL.out], HPM.out⟩, by simp [intOf]; omega⟩
    have hatl := HM.out.atl
    have HYB : Hid ([Value.int .u8 (192 + (p.at_ : Int) / 256), .int .u8 ((p.at_ : Int) % 256)] = bytesV (onB p.at_) ∧ (onB p.at_).length = 2) := by
     unfold Hid onB
     rw [if_neg hat0]
     refine ⟨?_, rfl⟩
     simp only [bytesV, List.map_cons, List.map_nil]
     rw [u8n (by omega), u8n (by omega)]
     congr 1
    have hat0' : ((p.at_ : Int) == 0) = false := by simp; exact hat0
    have HAT0 := hide hat0
    clear hat0
    go_upto_region 24 with (at_builtin; refine wpList_append_grew _ rfl _ _ 32 rfl 5 i0 (.int .u8 0) 1 1 und_bytes hi hz0 hz1 hz2 rfl (by decide) (.slice a2 X2.length c2) X2.length _ rfl ⟨W2.heap.size, 0, none⟩ 2 2 [.int .u8 (192 + (p.at_ : Int) / 256), .int .u8 ((p.at_ : Int) % 256)] rfl rfl one2 (R2.out.bytes.alloc _) (cells_new _ _ _) (by unfold maxLen; omega) (by omega) ?_; intro v3 W3 g3; have R3 := hide (R2.out.grew (Y := onB p.at_) ((Below.refl _ _).alloc (Nat.le_refl _) _) g3 HYB.out.1 HYB.out.2.symm); clear g3)
    have hX3 : (X2 ++ onB p.at_).length = 12 + p.body.length + 1 + L.length + (onB p.at_).length := by rw [List.length_append, hX2]
    have hon : 1 ≤ (onB p.at_).length ∧ (onB p.at_).length ≤ 2 := by unfold onB; split <;> simp
    generalize hX3g : X2 ++ onB p.at_ = X3 at R3 hX3
    have HX3 := hide hX3g
    clear hX3g R2
    obtain ⟨a3, c3, rfl⟩ := own_slice R3.out.bytes
    have HY : Hid ([Value.int .u8 0, .int .u8 (p.names.length : Int), .int .u8 0, .int .u8 1] = bytesV (two (p.names.length : Int) ++ two 1)) := by
     unfold Hid
     rw [bytesV_append, two_cells' (by omega) (by omega), two_cells' (by decide) (by decide)]
     have e1 : (p.names.length : Int) / 256 = 0 := by omega
     have e2 : (p.names.length : Int) % 256 = p.names.length := by omega
     rw [e1, e2]
     rfl
    go_upto_region 25 with (at_builtin; refine wpList_append_grew _ rfl _ _ 32 rfl 5 i0 (.int .u8 0) 1 1 und_bytes hi hz0 hz1 hz2 rfl (by decide) (.slice a3 X3.length c3) X3.length _ rfl ⟨W3.heap.size, 0, none⟩ 4 4 [.int .u8 0, .int .u8 (p.names.length : Int), .int .u8 0, .int .u8 1] rfl rfl one_u4 (R3.out.bytes.alloc _) (cells_new W3 #[.int .u8 0, .int .u8 (p.names.length : Int), .int .u8 0, .int .u8 1] 5) (by unfold maxLen; omega) (by omega) ?_; intro v4 W4 g4; have R4 := hide (R3.out.grew (Y := two (p.names.length : Int) ++ two 1) ((Below.refl _ _).alloc (Nat.le_refl _) _) g4 HY.out rfl); clear g4)
    clear R3 HY
    have hX4 : (X3 ++ (two (p.names.length : Int) ++ two 1)).length = 12 + (p.body ++ entryB p.names.length L p.at_).length := by
     rw [List.length_append, hX3, List.length_append]
     unfold entryB
     simp only [List.length_append, length_two, List.length_cons, List.length_nil]
     omega
    have HX4 : Hid (X3 ++ (two (p.names.length : Int) ++ two 1) = headB 0 ++ (p.body ++ entryB p.names.length L p.at_)) := by
     unfold Hid entryB
     rw [← HX3.out, ← HX2.out, ← HX1.out, ← HX0.out]
     simp only [List.append_assoc]
    obtain ⟨a4, c4, rfl⟩ := own_slice R4.out.bytes
    go_wp2_with (at_builtin; refine wpList_append_grew _ rfl _ _ 39 rfl 9 i1 (.string ⟨#[]⟩) 1 16 uSs hi1 hy0 hy1 hy2 rfl (by decide) (.slice aw p.names.length cw) p.names.length _ rfl ⟨W4.heap.size, 0, none⟩ 1 1 [.string (str N)] rfl rfl one_s (R4.out.names.alloc _) (cells_new _ _ _) (by unfold maxLen; omega) (by omega) ?_; intro v5 W5 g5; have G5 := hide g5; clear g5)
    have HPM : Hid (PM w W5 ls.length (p.step L) (.slice a4 (X3 ++ (two (p.names.length : Int) ++ two 1)).length c4) v5) := by
     have hba := (Below.refl W4.heap.size W4).alloc (Nat.le_refl _) (.cells #[.string (str N)] 9)
     have gb := G5.out.below (B := w.heap.size) (by rw [alloc_size]; have := R4.out.below.size; omega) R4.out.wlo
     have hbt := own_below R4.out.bytes hba
     have hnm := own_below R4.out.names hba
     have hst : (p.step L).body = p.body ++ entryB p.names.length L p.at_ := rfl
     have hsl : (p.step L).last = N := HN.out.symm
     have hsn : (p.step L).names = p.names ++ [N] := by rw [HN.out]; rfl
     refine ⟨(R4.out.below.trans (hba.mono R4.out.below.size)).trans gb.1, ?_, ?_, R4.out.blo, gb.2, ?_, ?_, ?_, (by show 12 + p.body.length ≤ 12 + (p.step L).body.length; rw [hst, List.length_append]; omega), ?_⟩
     ·rw [hst, ← HX4.out, ← hX4]
      cases hv : (Value.slice aw p.names.length cw).ownBlock with
      | none => exact own_below hbt (below_grownBy (by have := G5.out.grown; rw [hv] at this; exact this))
      | some r => exact own_grown hbt (by have := G5.out.grown; rw [hv] at this; exact this) (fun e => k_apart hnm hbt (by decide) hv e)
     ·rw [hsn]
      unfold namesV
      rw [List.length_append, List.map_append]
      exact G5.out.own
     ·rw [hsn, List.length_append]
      simp
      omega
     ·rw [hst, ← hX4, List.length_append, hX3, List.length_append, length_two, length_two]
      omega
     ·rw [hsl]
      omega
     ·intro s' hs'
      have hl4 : 12 + (p.step L).body.length ≤ 512 := by
       rw [hst, ← hX4, List.length_append, hX3, List.length_append, length_two, length_two]
       omega
      exact (HM.out.reads s' (by rw [hst] at hs'; exact hs'.left)).step hL1 hL2 hin2 hl4 (by rw [hsl]; omega) hs'
    have HSL : Hid ((p.step L).last = N) := HN.out.symm
    have hsnl : (p.step L).names.length = p.names.length + 1 := by unfold PtS.step; simp
    have hsat : (p.step L).at_ = 12 + p.body.length := rfl
    have he4 : (X3 ++ (two (p.names.length : Int) ++ two 1)).length = 12 + (p.body.length + (entryB p.names.length L p.at_).length) := by rw [hX4, List.length_append]
    rw [he4] at HPM
    exact ⟨⟨p.step L, congrArg _ (by rw [hsnl]; omega), congrArg _ (by rw [hsat]; omega), by rw [HSL.out], HPM.out⟩, by simp [intOf]; omega⟩
   ·have hs0 : s = ⟨#[]⟩ := ByteArray.ext (Array.ext' (List.eq_nil_of_length_eq_zero (by simpa using h0)))
    have hd1 : decide ((20 : Int) < (s.size : Int)) = false := by simp; omega
    have hd2 : s.toList.isEmpty = true := by rw [hs0]; decide +kernel
    have HS0 := hide hs0
    clear hs0
    go_upto_region 16 with fail
    have hLl := lbl_len s
    have HL : Hid (str (lbl s) = ⟨#[120]⟩) := by unfold Hid lbl; rw [HS0.out]; rfl
    rw [← HL.out]
    generalize hLg : lbl s = L at hLl HL ⊢
    have hL1 := hLl.1
    have hL2 := hLl.2
    have hw1 : IntKind.u8.wrap (L.length : Int) = (L.length : Int) := by rw [IntKind.wrap_u8]; omega
    have hcv : (convert 32 9 (.slice (some ⟨wr.heap.size, 0, none⟩) 1 1)).run Tryz.prog (wr.alloc (.cells #[.int .u8 (L.length : Int)] 5)) = .ok (.string (str [UInt8.ofNat L.length])) (wr.alloc (.cells #[.int .u8 (L.length : Int)] 5)) := conv_own _ 0 (some ⟨wr.heap.size, 0, none⟩) 1 [UInt8.ofNat L.length] (own_block (n := 1) (heap_new wr _) (by simp [bytesV, u8n (show L.length < 256 by omega)]) rfl (by decide))
    have hszL : (str L).size = L.length := rfl
    obtain ⟨N, hN⟩ : ∃ N, N = [UInt8.ofNat L.length] ++ L ++ p.last := ⟨_, rfl⟩
    have hNl : N.length = 1 + L.length + p.last.length := by rw [hN]; simp; omega
    obtain ⟨N1, hN1⟩ : ∃ N1, N1 = [UInt8.ofNat L.length] ++ L := ⟨_, rfl⟩
    have hc1 : str [UInt8.ofNat L.length] ++ str L = str N1 := by rw [str_append, hN1]
    have hc2 : str N1 ++ str p.last = str N := by rw [str_append, hN, hN1]
    have hs0 : (str [UInt8.ofNat L.length]).size = 1 := rfl
    have hs1 : (str N1).size = 1 + L.length := by show N1.length = _; rw [hN1]; simp; omega
    clear hN1
    have hs2 : (str p.last).size = p.last.length := rfl
    have hs3 : (str N).size = N.length := rfl
    have HN := hide hN
    clear hN
    have HMA := hide (HM.out.next ((Below.refl wr.heap.size wr).alloc (Nat.le_refl _) (.cells #[.int .u8 (L.length : Int)] 5)))
    by_cases hb1 : 255 < N.length
    ·have hb1' : decide ((255 : Int) < (N.length : Int)) = true := by simp; omega
     go_upto_region 28 with fail
     generalize wr.alloc _ = WB at HMA ⊢
     rcases (HMA).out.bytes.2 with ⟨_, h0⟩ | ⟨g, cap, cur, e, _, hg, hcap, _, hcs, htk⟩
     ·omega
     cases e
     have hcg : (WB).cell? ⟨g, 5, none⟩ = some (cur[5]'(by omega)) := by rw [box_cells hg 5]; exact Array.getElem?_eq_getElem _
     have hfg := frozen_of_block hg
     have hgsz : g < (WB).heap.size := heap_lt hg
     have hw5 : IntKind.u8.wrap (p.names.length : Int) = (p.names.length : Int) := by rw [IntKind.wrap_u8]; omega
     have HBY := hide (put_count (k := p.names.length) (by omega) hg htk hcs hcap)
     have HU : Hid (unpack (str (headB p.names.length ++ p.body)) = some ⟨5, true, 0, false, false, false, false, 0, qsOf p.names, [], [], []⟩) := unpack_points (HMA).out.few.1 (HMA).out.size (HMA).out.reads
     have hG := grownBy_setCell (WB) g 5 (.int .u8 (p.names.length : Int))
     have HB2 := hide ((HMA).out.below.trans (kb_put hG ((HMA).out.blo g rfl) (HMA).out.below.size))
     have HW2 := hide (own_grown (HMA).out.names hG (fun e => k_apart (HMA).out.names (HMA).out.bytes (by decide) e rfl))
     have hz2' := hG.size
     clear hG
     go_wp2_with fail
     generalize (WB).setCell ⟨g, 5, none⟩ (.int .u8 (p.names.length : Int)) = W2 at HBY HB2 HW2 hz2' ⊢
     have hun := tUnpack2 W2 g cb (str (headB p.names.length ++ p.body)) (by show (headB p.names.length ++ p.body).length ≤ _; rw [List.length_append, head_len]; omega) (by show (headB p.names.length ++ p.body).length ≤ _; rw [List.length_append, head_len]; omega) (by omega) HBY.out
     have hszh : (str (headB p.names.length ++ p.body)).size = 12 + p.body.length := by show (headB p.names.length ++ p.body).length = _; rw [List.length_append, head_len]
     rw [(unM_of HU.out).1, (unM_of HU.out).2, hszh] at hun
     refine hun.mono ?_
     clear hun hszh HBY hcg hfg hw5
     rintro e w3 ⟨aq3, cq3, aa3, ca3, au3, cu3, ax3, cx3, rfl, H3⟩
     dsimp only [msgCells]
     have hql : (qsOf p.names).length = p.names.length := by unfold qsOf; rw [List.length_mapIdx]
     rw [hql]
     have hb4 := H3.out.1.trans (((Below.refl w3.heap.size w3).alloc (Nat.le_refl _) (.cells #[.int .u16 5, .bool true, .int .i64 0, .bool false, .bool false, .bool false, .bool false, .int .i64 0, .slice aq3 p.names.length cq3, .slice aa3 0 ca3, .slice au3 0 cu3, .slice ax3 0 cx3] 30)).mono H3.out.1.size)
     have HM4 := hide (heap_new w3 (.cells #[.int .u16 5, .bool true, .int .i64 0, .bool false, .bool false, .bool false, .bool false, .int .i64 0, .slice aq3 p.names.length cq3, .slice aa3 0 ca3, .slice au3 0 cu3, .slice ax3 0 cx3] 30))
     have hq4 := (Rows4.at H3.out.2.2).q
     dsimp only at hq4
     rw [hql] at hq4
     have HQ4 := hide (hq4.below ((Below.refl w3.heap.size w3).alloc (Nat.le_refl _) (.cells #[.int .u16 5, .bool true, .int .i64 0, .bool false, .bool false, .bool false, .bool false, .int .i64 0, .slice aq3 p.names.length cq3, .slice aa3 0 ca3, .slice au3 0 cu3, .slice ax3 0 cx3] 30)))
     have HB4 := hide (HB2.out.trans (hb4.mono HB2.out.size))
     have HW4 := hide (own_below HW2.out hb4)
     clear hb4 H3 HB2 HW2 hq4
     have hcm := box_cells HM4.out
     go_wp2_with fail
     clear hcm
     generalize w3.alloc _ = W4 at HM4 HQ4 HB4 HW4 ⊢
     generalize w3.heap.size = M at HM4 ⊢
     have HW0 : Hid (∃ n, W4 = W4.drewN n) := ⟨0, rfl⟩
     go_loopw [14] (fun vi wr2 => ∃ k : Nat, vi = .int .i64 k ∧ k ≤ p.names.length ∧ Hid (∃ n, wr2 = W4.drewN n)) (fun vi _ => p.names.length - (intOf vi).toNat)
     case atStart => exact ⟨0, rfl, Nat.zero_le _, HW0.out⟩
     case round =>
      obtain ⟨k, rfl, hk, HWR⟩ := hrel
      by_cases hlt : k < p.names.length
      ·obtain ⟨nm, hnm⟩ : ∃ nm, p.names[k]? = some nm := ⟨_, List.getElem?_eq_getElem hlt⟩
       have hq : (qsOf p.names)[k]? = some ⟨str nm, (k : Int), 1⟩ := by unfold qsOf; rw [List.getElem?_mapIdx, hnm]; rfl
       obtain ⟨bq, offq, eq_, q0, q1, q2⟩ := lies_q HQ4.out hq
       cases eq_
       obtain ⟨gw, ew, w0⟩ := row_text HW4.out hnm
       cases ew
       have hcw : ∀ p, wr.cell? p = W4.cell? p := by obtain ⟨n, hn⟩ := HWR.out; rw [hn]; intro p; rfl
       have hcm8 : wr.cell? ⟨M, 8, none⟩ = some (.slice (some ⟨bq, offq, none⟩) p.names.length cq3) := (hcw _).trans ((box_cells HM4.out 8).trans rfl)
       rw [← hcw] at q0 q1 q2 w0
       have hw16 : IntKind.u16.wrap (k : Int) = (k : Int) := by rw [IntKind.wrap_u16]; omega
       clear hcw hq hnm
       go_wp2_with fail
       go_quiet (fail)
       go_wp2_with fail
       go_roundw
       case rel =>
        obtain ⟨n, hn⟩ := HWR.out
        have HX : Hid (∃ m, wr.drewN nq = W4.drewN m) := ⟨n + nq, by rw [hn, World.drewN_drewN]⟩
        (repeat apply Exists.intro)
        exact ⟨⟨k + 1, by go_num, by omega, HX⟩, rfl⟩
       case measure => simp [intOf]; omega
      ·go_wp2_with fail
       go_ret
       obtain ⟨n, hn⟩ := HWR.out
       exact ⟨rfl, by rw [hn]; exact below_drewN HB4.out n⟩
    by_cases hb2 : 512 < 12 + p.body.length + L.length + 8
    ·have hb2' : decide ((512 : Int) < 12 + (p.body.length : Int) + (L.length : Int) + 8) = true := by simp; omega
     go_upto_region 28 with fail
     generalize wr.alloc _ = WB at HMA ⊢
     rcases (HMA).out.bytes.2 with ⟨_, h0⟩ | ⟨g, cap, cur, e, _, hg, hcap, _, hcs, htk⟩
     ·omega
     cases e
     have hcg : (WB).cell? ⟨g, 5, none⟩ = some (cur[5]'(by omega)) := by rw [box_cells hg 5]; exact Array.getElem?_eq_getElem _
     have hfg := frozen_of_block hg
     have hgsz : g < (WB).heap.size := heap_lt hg
     have hw5 : IntKind.u8.wrap (p.names.length : Int) = (p.names.length : Int) := by rw [IntKind.wrap_u8]; omega
     have HBY := hide (put_count (k := p.names.length) (by omega) hg htk hcs hcap)
     have HU : Hid (unpack (str (headB p.names.length ++ p.body)) = some ⟨5, true, 0, false, false, false, false, 0, qsOf p.names, [], [], []⟩) := unpack_points (HMA).out.few.1 (HMA).out.size (HMA).out.reads
     have hG := grownBy_setCell (WB) g 5 (.int .u8 (p.names.length : Int))
     have HB2 := hide ((HMA).out.below.trans (kb_put hG ((HMA).out.blo g rfl) (HMA).out.below.size))
     have HW2 := hide (own_grown (HMA).out.names hG (fun e => k_apart (HMA).out.names (HMA).out.bytes (by decide) e rfl))
     have hz2' := hG.size
     clear hG
     go_wp2_with fail
     generalize (WB).setCell ⟨g, 5, none⟩ (.int .u8 (p.names.length : Int)) = W2 at HBY HB2 HW2 hz2' ⊢
     have hun := tUnpack2 W2 g cb (str (headB p.names.length ++ p.body)) (by show (headB p.names.length ++ p.body).length ≤ _; rw [List.length_append, head_len]; omega) (by show (headB p.names.length ++ p.body).length ≤ _; rw [List.length_append, head_len]; omega) (by omega) HBY.out
     have hszh : (str (headB p.names.length ++ p.body)).size = 12 + p.body.length := by show (headB p.names.length ++ p.body).length = _; rw [List.length_append, head_len]
     rw [(unM_of HU.out).1, (unM_of HU.out).2, hszh] at hun
     refine hun.mono ?_
     clear hun hszh HBY hcg hfg hw5
     rintro e w3 ⟨aq3, cq3, aa3, ca3, au3, cu3, ax3, cx3, rfl, H3⟩
     dsimp only [msgCells]
     have hql : (qsOf p.names).length = p.names.length := by unfold qsOf; rw [List.length_mapIdx]
     rw [hql]
     have hb4 := H3.out.1.trans (((Below.refl w3.heap.size w3).alloc (Nat.le_refl _) (.cells #[.int .u16 5, .bool true, .int .i64 0, .bool false, .bool false, .bool false, .bool false, .int .i64 0, .slice aq3 p.names.length cq3, .slice aa3 0 ca3, .slice au3 0 cu3, .slice ax3 0 cx3] 30)).mono H3.out.1.size)
     have HM4 := hide (heap_new w3 (.cells #[.int .u16 5, .bool true, .int .i64 0, .bool false, .bool false, .bool false, .bool false, .int .i64 0, .slice aq3 p.names.length cq3, .slice aa3 0 ca3, .slice au3 0 cu3, .slice ax3 0 cx3] 30))
     have hq4 := (Rows4.at H3.out.2.2).q
     dsimp only at hq4
     rw [hql] at hq4
     have HQ4 := hide (hq4.below ((Below.refl w3.heap.size w3).alloc (Nat.le_refl _) (.cells #[.int .u16 5, .bool true, .int .i64 0, .bool false, .bool false, .bool false, .bool false, .int .i64 0, .slice aq3 p.names.length cq3, .slice aa3 0 ca3, .slice au3 0 cu3, .slice ax3 0 cx3] 30)))
     have HB4 := hide (HB2.out.trans (hb4.mono HB2.out.size))
     have HW4 := hide (own_below HW2.out hb4)
     clear hb4 H3 HB2 HW2 hq4
     have hcm := box_cells HM4.out
     go_wp2_with fail
     clear hcm
     generalize w3.alloc _ = W4 at HM4 HQ4 HB4 HW4 ⊢
     generalize w3.heap.size = M at HM4 ⊢
     have HW0 : Hid (∃ n, W4 = W4.drewN n) := ⟨0, rfl⟩
     go_loopw [14] (fun vi wr2 => ∃ k : Nat, vi = .int .i64 k ∧ k ≤ p.names.length ∧ Hid (∃ n, wr2 = W4.drewN n)) (fun vi _ => p.names.length - (intOf vi).toNat)
     case atStart => exact ⟨0, rfl, Nat.zero_le _, HW0.out⟩
     case round =>
      obtain ⟨k, rfl, hk, HWR⟩ := hrel
      by_cases hlt : k < p.names.length
      ·obtain ⟨nm, hnm⟩ : ∃ nm, p.names[k]? = some nm := ⟨_, List.getElem?_eq_getElem hlt⟩
       have hq : (qsOf p.names)[k]? = some ⟨str nm, (k : Int), 1⟩ := by unfold qsOf; rw [List.getElem?_mapIdx, hnm]; rfl
       obtain ⟨bq, offq, eq_, q0, q1, q2⟩ := lies_q HQ4.out hq
       cases eq_
       obtain ⟨gw, ew, w0⟩ := row_text HW4.out hnm
       cases ew
       have hcw : ∀ p, wr.cell? p = W4.cell? p := by obtain ⟨n, hn⟩ := HWR.out; rw [hn]; intro p; rfl
       have hcm8 : wr.cell? ⟨M, 8, none⟩ = some (.slice (some ⟨bq, offq, none⟩) p.names.length cq3) := (hcw _).trans ((box_cells HM4.out 8).trans rfl)
       rw [← hcw] at q0 q1 q2 w0
       have hw16 : IntKind.u16.wrap (k : Int) = (k : Int) := by rw [IntKind.wrap_u16]; omega
       clear hcw hq hnm
       go_wp2_with fail
       go_quiet (fail)
       go_wp2_with fail
       go_roundw
       case rel =>
        obtain ⟨n, hn⟩ := HWR.out
        have HX : Hid (∃ m, wr.drewN nq = W4.drewN m) := ⟨n + nq, by rw [hn, World.drewN_drewN]⟩
        (repeat apply Exists.intro)
        exact ⟨⟨k + 1, by go_num, by omega, HX⟩, rfl⟩
       case measure => simp [intOf]; omega
      ·go_wp2_with fail
       go_ret
       obtain ⟨n, hn⟩ := HWR.out
       exact ⟨rfl, by rw [hn]; exact below_drewN HB4.out n⟩
    have hwi : IntKind.u8.wrap (p.names.length : Int) = (p.names.length : Int) := by rw [IntKind.wrap_u8]; omega
    have HR0 : Hid (PR w (wr.alloc (.cells #[.int .u8 (L.length : Int)] 5)) (.slice ab (12 + p.body.length) cb) (.slice aw p.names.length cw) (headB 0 ++ p.body) p.names) := ⟨HMA.out.below, by rw [List.length_append, head_len]; exact HMA.out.bytes, HMA.out.names, HMA.out.blo, HMA.out.wlo⟩
    have hX0 : (headB 0 ++ p.body).length = 12 + p.body.length := by rw [List.length_append, head_len]
    generalize hX0g : headB 0 ++ p.body = X0 at HR0 hX0
    have HX0 := hide hX0g
    clear hX0g
    go_upto_region 20 with (at_builtin; refine wpList_append_grew _ rfl _ _ 32 rfl 5 i0 (.int .u8 0) 1 1 und_bytes hi hz0 hz1 hz2 rfl (by decide) (.slice ab (12 + p.body.length) cb) X0.length _ rfl ⟨wr.heap.size + 1, 0, none⟩ 1 1 [.int .u8 (L.length : Int)] rfl rfl one_u8 (HR0.out.bytes.alloc _) (cells_new2 _ _ _ _) (by unfold maxLen; omega) (by omega) ?_; intro v1 W1 g1; have R1 := hide (HR0.out.grew (Y := [UInt8.ofNat L.length]) ((Below.refl _ _).alloc (Nat.le_refl _) _) g1 (by simp [bytesV, u8n (show L.length < 256 by omega)]) rfl); clear g1)
    have hX1 : (X0 ++ [UInt8.ofNat L.length]).length = 12 + p.body.length + 1 := by rw [List.length_append, hX0]; rfl
    generalize hX1g : X0 ++ [UInt8.ofNat L.length] = X1 at R1 hX1
    have HX1 := hide hX1g
    clear hX1g HR0
    obtain ⟨a1, c1, rfl⟩ := own_slice R1.out.bytes
    go_upto_region 21 with (at_builtin; refine wpList_append_grew_string _ rfl _ _ 32 9 rfl 5 i0 und_bytes und_string hi hz0 hz1 hz2 (.slice a1 X1.length c1) X1.length _ rfl (str L) rfl R1.out.bytes (by unfold maxLen; omega) (by omega) ?_; intro v2 W2 g2; have R2 := hide (R1.out.grew (Y := L) (Below.refl _ _) g2 (strCells_bytesV (str L)) rfl); clear g2)
    have hX2 : (X1 ++ L).length = 12 + p.body.length + 1 + L.length := by rw [List.length_append, hX1]
    generalize hX2g : X1 ++ L = X2 at R2 hX2
    have HX2 := hide hX2g
    clear hX2g R1
    obtain ⟨a2, c2, rfl⟩ := own_slice R2.out.bytes
    by_cases hat0 : p.at_ = 0
    ·have hat0' : ((p.at_ : Int) == 0) = true := by simp; exact hat0
     have HAT0 := hide hat0
     clear hat0
     go_upto_region 24 with (at_builtin; refine wpList_append_grew _ rfl _ _ 32 rfl 5 i0 (.int .u8 0) 1 1 und_bytes hi hz0 hz1 hz2 rfl (by decide) (.slice a2 X2.length c2) X2.length _ rfl ⟨W2.heap.size, 0, none⟩ 1 1 [.int .u8 0] rfl rfl one_u8 (R2.out.bytes.alloc _) (cells_new _ _ _) (by unfold maxLen; omega) (by omega) ?_; intro v3 W3 g3; have R3 := hide (R2.out.grew (Y := onB p.at_) ((Below.refl _ _).alloc (Nat.le_refl _) _) g3 (by unfold onB; rw [if_pos HAT0.out]; rfl) (by unfold onB; rw [if_pos HAT0.out]; rfl)); clear g3)
     have hX3 : (X2 ++ onB p.at_).length = 12 + p.body.length + 1 + L.length + (onB p.at_).length := by rw [List.length_append, hX2]
     have hon : 1 ≤ (onB p.at_).length ∧ (onB p.at_).length ≤ 2 := by unfold onB; split <;> simp
     generalize hX3g : X2 ++ onB p.at_ = X3 at R3 hX3
     have HX3 := hide hX3g
     clear hX3g R2
     obtain ⟨a3, c3, rfl⟩ := own_slice R3.out.bytes
     have HY : Hid ([Value.int .u8 0, .int .u8 (p.names.length : Int), .int .u8 0, .int .u8 1] = bytesV (two (p.names.length : Int) ++ two 1)) := by
      unfold Hid
      rw [bytesV_append, two_cells' (by omega) (by omega), two_cells' (by decide) (by decide)]
      have e1 : (p.names.length : Int) / 256 = 0 := by omega
      have e2 : (p.names.length : Int) % 256 = p.names.length := by omega
      rw [e1, e2]
      rfl
     go_upto_region 25 with (at_builtin; refine wpList_append_grew _ rfl _ _ 32 rfl 5 i0 (.int .u8 0) 1 1 und_bytes hi hz0 hz1 hz2 rfl (by decide) (.slice a3 X3.length c3) X3.length _ rfl ⟨W3.heap.size, 0, none⟩ 4 4 [.int .u8 0, .int .u8 (p.names.length : Int), .int .u8 0, .int .u8 1] rfl rfl one_u4 (R3.out.bytes.alloc _) (cells_new W3 #[.int .u8 0, .int .u8 (p.names.length : Int), .int .u8 0, .int .u8 1] 5) (by unfold maxLen; omega) (by omega) ?_; intro v4 W4 g4; have R4 := hide (R3.out.grew (Y := two (p.names.length : Int) ++ two 1) ((Below.refl _ _).alloc (Nat.le_refl _) _) g4 HY.out rfl); clear g4)
     clear R3 HY
     have hX4 : (X3 ++ (two (p.names.length : Int) ++ two 1)).length = 12 + (p.body ++ entryB p.names.length L p.at_).length := by
      rw [List.length_append, hX3, List.length_append]
      unfold entryB
      simp only [List.length_append, length_two, List.length_cons, List.length_nil]
      omega
     have HX4 : Hid (X3 ++ (two (p.names.length : Int) ++ two 1) = headB 0 ++ (p.body ++ entryB p.names.length L p.at_)) := by
      unfold Hid entryB
      rw [← HX3.out, ← HX2.out, ← HX1.out, ← HX0.out]
      simp only [List.append_assoc]
     obtain ⟨a4, c4, rfl⟩ := own_slice R4.out.bytes
     go_wp2_with (at_builtin; refine wpList_append_grew _ rfl _ _ 39 rfl 9 i1 (.string ⟨#[]⟩) 1 16 uSs hi1 hy0 hy1 hy2 rfl (by decide) (.slice aw p.names.length cw) p.names.length _ rfl ⟨W4.heap.size, 0, none⟩ 1 1 [.string (str N)] rfl rfl one_s (R4.out.names.alloc _) (cells_new _ _ _) (by unfold maxLen; omega) (by omega) ?_; intro v5 W5 g5; have G5 := hide g5; clear g5)
     have HPM : Hid (PM w W5 ls.length (p.step L) (.slice a4 (X3 ++ (two (p.names.length : Int) ++ two 1)).length c4) v5) := by
      have hba := (Below.refl W4.heap.size W4).alloc (Nat.le_refl _) (.cells #[.string (str N)] 9)
      have gb := G5.out.below (B := w.heap.size) (by rw [alloc_size]; have := R4.out.below.size; omega) R4.out.wlo
      have hbt := own_below R4.out.bytes hba
      have hnm := own_below R4.out.names hba
      have hst : (p.step L).body = p.body ++ entryB p.names.length L p.at_ := rfl
      have hsl : (p.step L).last = N := HN.out.symm
      have hsn : (p.step L).names = p.names ++ [N] := by rw [HN.out]; rfl
      refine ⟨(R4.out.below.trans (hba.mono R4.out.below.size)).trans gb.1, ?_, ?_, R4.out.blo, gb.2, ?_, ?_, ?_, (by show 12 + p.body.length ≤ 12 + (p.step L).body.length; rw [hst, List.length_append]; omega), ?_⟩
      ·rw [hst, ← HX4.out, ← hX4]
       cases hv : (Value.slice aw p.names.length cw).ownBlock with
       | none => exact own_below hbt (below_grownBy (by have := G5.out.grown; rw [hv] at this; exact this))
       | some r => exact own_grown hbt (by have := G5.out.grown; rw [hv] at this; exact this) (fun e => k_apart hnm hbt (by decide) hv e)
      ·rw [hsn]
       unfold namesV
       rw [List.length_append, List.map_append]
       exact G5.out.own
      ·rw [hsn, List.length_append]
       simp
       omega
      ·rw [hst, ← hX4, List.length_append, hX3, List.length_append, length_two, length_two]
       omega
      ·rw [hsl]
       omega
      ·intro s' hs'
       have hl4 : 12 + (p.step L).body.length ≤ 512 := by
        rw [hst, ← hX4, List.length_append, hX3, List.length_append, length_two, length_two]
        omega
       exact (HM.out.reads s' (by rw [hst] at hs'; exact hs'.left)).step hL1 hL2 hin2 hl4 (by rw [hsl]; omega) hs'
     have HSL : Hid ((p.step L).last = N) := HN.out.symm
     have hsnl : (p.step L).names.length = p.names.length + 1 := by unfold PtS.step; simp
     have hsat : (p.step L).at_ = 12 + p.body.length := rfl
     have he4 : (X3 ++ (two (p.names.length : Int) ++ two 1)).length = 12 + (p.body.length + (entryB p.names.length L p.at_).length) := by rw [hX4, List.length_append]
     rw [he4] at HPM
     exact ⟨⟨p.step L, congrArg _ (by rw [hsnl]; omega), congrArg _ (by rw [hsat]; omega), by rw [HSL.out], HPM.out⟩, by simp [intOf]; omega⟩
    have hatl := HM.out.atl
    have HYB : Hid ([Value.int .u8 (192 + (p.at_ : Int) / 256), .int .u8 ((p.at_ : Int) % 256)] = bytesV (onB p.at_) ∧ (onB p.at_).length = 2) := by
     unfold Hid onB
     rw [if_neg hat0]
     refine ⟨?_, rfl⟩
     simp only [bytesV, List.map_cons, List.map_nil]
     rw [u8n (by omega), u8n (by omega)]
     congr 1
    have hat0' : ((p.at_ : Int) == 0) = false := by simp; exact hat0
    have HAT0 := hide hat0
    clear hat0
    go_upto_region 24 with (at_builtin; refine wpList_append_grew _ rfl _ _ 32 rfl 5 i0 (.int .u8 0) 1 1 und_bytes hi hz0 hz1 hz2 rfl (by decide) (.slice a2 X2.length c2) X2.length _ rfl ⟨W2.heap.size, 0, none⟩ 2 2 [.int .u8 (192 + (p.at_ : Int) / 256), .int .u8 ((p.at_ : Int) % 256)] rfl rfl one2 (R2.out.bytes.alloc _) (cells_new _ _ _) (by unfold maxLen; omega) (by omega) ?_; intro v3 W3 g3; have R3 := hide (R2.out.grew (Y := onB p.at_) ((Below.refl _ _).alloc (Nat.le_refl _) _) g3 HYB.out.1 HYB.out.2.symm); clear g3)
    have hX3 : (X2 ++ onB p.at_).length = 12 + p.body.length + 1 + L.length + (onB p.at_).length := by rw [List.length_append, hX2]
    have hon : 1 ≤ (onB p.at_).length ∧ (onB p.at_).length ≤ 2 := by unfold onB; split <;> simp
    generalize hX3g : X2 ++ onB p.at_ = X3 at R3 hX3
    have HX3 := hide hX3g
    clear hX3g R2
    obtain ⟨a3, c3, rfl⟩ := own_slice R3.out.bytes
    have HY : Hid ([Value.int .u8 0, .int .u8 (p.names.length : Int), .int .u8 0, .int .u8 1] = bytesV (two (p.names.length : Int) ++ two 1)) := by
     unfold Hid
     rw [bytesV_append, two_cells' (by omega) (by omega), two_cells' (by decide) (by decide)]
     have e1 : (p.names.length : Int) / 256 = 0 := by omega
     have e2 : (p.names.length : Int) % 256 = p.names.length := by omega
     rw [e1, e2]
     rfl
    go_upto_region 25 with (at_builtin; refine wpList_append_grew _ rfl _ _ 32 rfl 5 i0 (.int .u8 0) 1 1 und_bytes hi hz0 hz1 hz2 rfl (by decide) (.slice a3 X3.length c3) X3.length _ rfl ⟨W3.heap.size, 0, none⟩ 4 4 [.int .u8 0, .int .u8 (p.names.length : Int), .int .u8 0, .int .u8 1] rfl rfl one_u4 (R3.out.bytes.alloc _) (cells_new W3 #[.int .u8 0, .int .u8 (p.names.length : Int), .int .u8 0, .int .u8 1] 5) (by unfold maxLen; omega) (by omega) ?_; intro v4 W4 g4; have R4 := hide (R3.out.grew (Y := two (p.names.length : Int) ++ two 1) ((Below.refl _ _).alloc (Nat.le_refl _) _) g4 HY.out rfl); clear g4)
    clear R3 HY
    have hX4 : (X3 ++ (two (p.names.length : Int) ++ two 1)).length = 12 + (p.body ++ entryB p.names.length L p.at_).length := by
     rw [List.length_append, hX3, List.length_append]
     unfold entryB
     simp only [List.length_append, length_two, List.length_cons, List.length_nil]
     omega
    have HX4 : Hid (X3 ++ (two (p.names.length : Int) ++ two 1) = headB 0 ++ (p.body ++ entryB p.names.length L p.at_)) := by
     unfold Hid entryB
     rw [← HX3.out, ← HX2.out, ← HX1.out, ← HX0.out]
     simp only [List.append_assoc]
    obtain ⟨a4, c4, rfl⟩ := own_slice R4.out.bytes
    go_wp2_with (at_builtin; refine wpList_append_grew _ rfl _ _ 39 rfl 9 i1 (.string ⟨#[]⟩) 1 16 uSs hi1 hy0 hy1 hy2 rfl (by decide) (.slice aw p.names.length cw) p.names.length _ rfl ⟨W4.heap.size, 0, none⟩ 1 1 [.string (str N)] rfl rfl one_s (R4.out.names.alloc _) (cells_new _ _ _) (by unfold maxLen; omega) (by omega) ?_; intro v5 W5 g5; have G5 := hide g5; clear g5)
    have HPM : Hid (PM w W5 ls.length (p.step L) (.slice a4 (X3 ++ (two (p.names.length : Int) ++ two 1)).length c4) v5) := by
     have hba := (Below.refl W4.heap.size W4).alloc (Nat.le_refl _) (.cells #[.string (str N)] 9)
     have gb := G5.out.below (B := w.heap.size) (by rw [alloc_size]; have := R4.out.below.size; omega) R4.out.wlo
     have hbt := own_below R4.out.bytes hba
     have hnm := own_below R4.out.names hba
     have hst : (p.step L).body = p.body ++ entryB p.names.length L p.at_ := rfl
     have hsl : (p.step L).last = N := HN.out.symm
     have hsn : (p.step L).names = p.names ++ [N] := by rw [HN.out]; rfl
     refine ⟨(R4.out.below.trans (hba.mono R4.out.below.size)).trans gb.1, ?_, ?_, R4.out.blo, gb.2, ?_, ?_, ?_, (by show 12 + p.body.length ≤ 12 + (p.step L).body.length; rw [hst, List.length_append]; omega), ?_⟩
     ·rw [hst, ← HX4.out, ← hX4]
      cases hv : (Value.slice aw p.names.length cw).ownBlock with
      | none => exact own_below hbt (below_grownBy (by have := G5.out.grown; rw [hv] at this; exact this))
      | some r => exact own_grown hbt (by have := G5.out.grown; rw [hv] at this; exact this) (fun e => k_apart hnm hbt (by decide) hv e)
     ·rw [hsn]
      unfold namesV
      rw [List.length_append, List.map_append]
      exact G5.out.own
     ·rw [hsn, List.length_append]
      simp
      omega
     ·rw [hst, ← hX4, List.length_append, hX3, List.length_append, length_two, length_two]
      omega
     ·rw [hsl]
      omega
     ·intro s' hs'
      have hl4 : 12 + (p.step L).body.length ≤ 512 := by
       rw [hst, ← hX4, List.length_append, hX3, List.length_append, length_two, length_two]
       omega
      exact (HM.out.reads s' (by rw [hst] at hs'; exact hs'.left)).step hL1 hL2 hin2 hl4 (by rw [hsl]; omega) hs'
    have HSL : Hid ((p.step L).last = N) := HN.out.symm
    have hsnl : (p.step L).names.length = p.names.length + 1 := by unfold PtS.step; simp
    have hsat : (p.step L).at_ = 12 + p.body.length := rfl
    have he4 : (X3 ++ (two (p.names.length : Int) ++ two 1)).length = 12 + (p.body.length + (entryB p.names.length L p.at_).length) := by rw [hX4, List.length_append]
    rw [he4] at HPM
    exact ⟨⟨p.step L, congrArg _ (by rw [hsnl]; omega), congrArg _ (by rw [hsat]; omega), by rw [HSL.out], HPM.out⟩, by simp [intOf]; omega⟩
   ·have hd1 : decide ((20 : Int) < (s.size : Int)) = false := by simp; omega
    have hd2 : s.toList.isEmpty = false := isEmpty_no (by omega)
    go_upto_region 16 with fail
    have hLl := lbl_len s
    have HL : Hid (str (lbl s) = s) := by unfold Hid lbl; rw [List.take_of_length_le (by simpa using h2), if_neg (fun e => by have h9 : s.size = 0 := (by have := congrArg List.length e; simpa using this); omega)]; rfl
    rw [← HL.out]
    generalize hLg : lbl s = L at hLl HL ⊢
    have hL1 := hLl.1
    have hL2 := hLl.2
    have hw1 : IntKind.u8.wrap (L.length : Int) = (L.length : Int) := by rw [IntKind.wrap_u8]; omega
    have hcv : (convert 32 9 (.slice (some ⟨wr.heap.size, 0, none⟩) 1 1)).run Tryz.prog (wr.alloc (.cells #[.int .u8 (L.length : Int)] 5)) = .ok (.string (str [UInt8.ofNat L.length])) (wr.alloc (.cells #[.int .u8 (L.length : Int)] 5)) := conv_own _ 0 (some ⟨wr.heap.size, 0, none⟩) 1 [UInt8.ofNat L.length] (own_block (n := 1) (heap_new wr _) (by simp [bytesV, u8n (show L.length < 256 by omega)]) rfl (by decide))
    have hszL : (str L).size = L.length := rfl
    obtain ⟨N, hN⟩ : ∃ N, N = [UInt8.ofNat L.length] ++ L ++ p.last := ⟨_, rfl⟩
    have hNl : N.length = 1 + L.length + p.last.length := by rw [hN]; simp; omega
    obtain ⟨N1, hN1⟩ : ∃ N1, N1 = [UInt8.ofNat L.length] ++ L := ⟨_, rfl⟩
    have hc1 : str [UInt8.ofNat L.length] ++ str L = str N1 := by rw [str_append, hN1]
    have hc2 : str N1 ++ str p.last = str N := by rw [str_append, hN, hN1]
    have hs0 : (str [UInt8.ofNat L.length]).size = 1 := rfl
    have hs1 : (str N1).size = 1 + L.length := by show N1.length = _; rw [hN1]; simp; omega
    clear hN1
    have hs2 : (str p.last).size = p.last.length := rfl
    have hs3 : (str N).size = N.length := rfl
    have HN := hide hN
    clear hN
    have HMA := hide (HM.out.next ((Below.refl wr.heap.size wr).alloc (Nat.le_refl _) (.cells #[.int .u8 (L.length : Int)] 5)))
    by_cases hb1 : 255 < N.length
    ·have hb1' : decide ((255 : Int) < (N.length : Int)) = true := by simp; omega
     go_upto_region 28 with fail
     generalize wr.alloc _ = WB at HMA ⊢
     rcases (HMA).out.bytes.2 with ⟨_, h0⟩ | ⟨g, cap, cur, e, _, hg, hcap, _, hcs, htk⟩
     ·omega
     cases e
     have hcg : (WB).cell? ⟨g, 5, none⟩ = some (cur[5]'(by omega)) := by rw [box_cells hg 5]; exact Array.getElem?_eq_getElem _
     have hfg := frozen_of_block hg
     have hgsz : g < (WB).heap.size := heap_lt hg
     have hw5 : IntKind.u8.wrap (p.names.length : Int) = (p.names.length : Int) := by rw [IntKind.wrap_u8]; omega
     have HBY := hide (put_count (k := p.names.length) (by omega) hg htk hcs hcap)
     have HU : Hid (unpack (str (headB p.names.length ++ p.body)) = some ⟨5, true, 0, false, false, false, false, 0, qsOf p.names, [], [], []⟩) := unpack_points (HMA).out.few.1 (HMA).out.size (HMA).out.reads
     have hG := grownBy_setCell (WB) g 5 (.int .u8 (p.names.length : Int))
     have HB2 := hide ((HMA).out.below.trans (kb_put hG ((HMA).out.blo g rfl) (HMA).out.below.size))
     have HW2 := hide (own_grown (HMA).out.names hG (fun e => k_apart (HMA).out.names (HMA).out.bytes (by decide) e rfl))
     have hz2' := hG.size
     clear hG
     go_wp2_with fail
     generalize (WB).setCell ⟨g, 5, none⟩ (.int .u8 (p.names.length : Int)) = W2 at HBY HB2 HW2 hz2' ⊢
     have hun := tUnpack2 W2 g cb (str (headB p.names.length ++ p.body)) (by show (headB p.names.length ++ p.body).length ≤ _; rw [List.length_append, head_len]; omega) (by show (headB p.names.length ++ p.body).length ≤ _; rw [List.length_append, head_len]; omega) (by omega) HBY.out
     have hszh : (str (headB p.names.length ++ p.body)).size = 12 + p.body.length := by show (headB p.names.length ++ p.body).length = _; rw [List.length_append, head_len]
     rw [(unM_of HU.out).1, (unM_of HU.out).2, hszh] at hun
     refine hun.mono ?_
     clear hun hszh HBY hcg hfg hw5
     rintro e w3 ⟨aq3, cq3, aa3, ca3, au3, cu3, ax3, cx3, rfl, H3⟩
     dsimp only [msgCells]
     have hql : (qsOf p.names).length = p.names.length := by unfold qsOf; rw [List.length_mapIdx]
     rw [hql]
     have hb4 := H3.out.1.trans (((Below.refl w3.heap.size w3).alloc (Nat.le_refl _) (.cells #[.int .u16 5, .bool true, .int .i64 0, .bool false, .bool false, .bool false, .bool false, .int .i64 0, .slice aq3 p.names.length cq3, .slice aa3 0 ca3, .slice au3 0 cu3, .slice ax3 0 cx3] 30)).mono H3.out.1.size)
     have HM4 := hide (heap_new w3 (.cells #[.int .u16 5, .bool true, .int .i64 0, .bool false, .bool false, .bool false, .bool false, .int .i64 0, .slice aq3 p.names.length cq3, .slice aa3 0 ca3, .slice au3 0 cu3, .slice ax3 0 cx3] 30))
     have hq4 := (Rows4.at H3.out.2.2).q
     dsimp only at hq4
     rw [hql] at hq4
     have HQ4 := hide (hq4.below ((Below.refl w3.heap.size w3).alloc (Nat.le_refl _) (.cells #[.int .u16 5, .bool true, .int .i64 0, .bool false, .bool false, .bool false, .bool false, .int .i64 0, .slice aq3 p.names.length cq3, .slice aa3 0 ca3, .slice au3 0 cu3, .slice ax3 0 cx3] 30)))
     have HB4 := hide (HB2.out.trans (hb4.mono HB2.out.size))
     have HW4 := hide (own_below HW2.out hb4)
     clear hb4 H3 HB2 HW2 hq4
     have hcm := box_cells HM4.out
     go_wp2_with fail
     clear hcm
     generalize w3.alloc _ = W4 at HM4 HQ4 HB4 HW4 ⊢
     generalize w3.heap.size = M at HM4 ⊢
     have HW0 : Hid (∃ n, W4 = W4.drewN n) := ⟨0, rfl⟩
     go_loopw [14] (fun vi wr2 => ∃ k : Nat, vi = .int .i64 k ∧ k ≤ p.names.length ∧ Hid (∃ n, wr2 = W4.drewN n)) (fun vi _ => p.names.length - (intOf vi).toNat)
     case atStart => exact ⟨0, rfl, Nat.zero_le _, HW0.out⟩
     case round =>
      obtain ⟨k, rfl, hk, HWR⟩ := hrel
      by_cases hlt : k < p.names.length
      ·obtain ⟨nm, hnm⟩ : ∃ nm, p.names[k]? = some nm := ⟨_, List.getElem?_eq_getElem hlt⟩
       have hq : (qsOf p.names)[k]? = some ⟨str nm, (k : Int), 1⟩ := by unfold qsOf; rw [List.getElem?_mapIdx, hnm]; rfl
       obtain ⟨bq, offq, eq_, q0, q1, q2⟩ := lies_q HQ4.out hq
       cases eq_
       obtain ⟨gw, ew, w0⟩ := row_text HW4.out hnm
       cases ew
       have hcw : ∀ p, wr.cell? p = W4.cell? p := by obtain ⟨n, hn⟩ := HWR.out; rw [hn]; intro p; rfl
       have hcm8 : wr.cell? ⟨M, 8, none⟩ = some (.slice (some ⟨bq, offq, none⟩) p.names.length cq3) := (hcw _).trans ((box_cells HM4.out 8).trans rfl)
       rw [← hcw] at q0 q1 q2 w0
       have hw16 : IntKind.u16.wrap (k : Int) = (k : Int) := by rw [IntKind.wrap_u16]; omega
       clear hcw hq hnm
       go_wp2_with fail
       go_quiet (fail)
       go_wp2_with fail
       go_roundw
       case rel =>
        obtain ⟨n, hn⟩ := HWR.out
        have HX : Hid (∃ m, wr.drewN nq = W4.drewN m) := ⟨n + nq, by rw [hn, World.drewN_drewN]⟩
        (repeat apply Exists.intro)
        exact ⟨⟨k + 1, by go_num, by omega, HX⟩, rfl⟩
       case measure => simp [intOf]; omega
      ·go_wp2_with fail
       go_ret
       obtain ⟨n, hn⟩ := HWR.out
       exact ⟨rfl, by rw [hn]; exact below_drewN HB4.out n⟩
    by_cases hb2 : 512 < 12 + p.body.length + L.length + 8
    ·have hb2' : decide ((512 : Int) < 12 + (p.body.length : Int) + (L.length : Int) + 8) = true := by simp; omega
     go_upto_region 28 with fail
     generalize wr.alloc _ = WB at HMA ⊢
     rcases (HMA).out.bytes.2 with ⟨_, h0⟩ | ⟨g, cap, cur, e, _, hg, hcap, _, hcs, htk⟩
     ·omega
     cases e
     have hcg : (WB).cell? ⟨g, 5, none⟩ = some (cur[5]'(by omega)) := by rw [box_cells hg 5]; exact Array.getElem?_eq_getElem _
     have hfg := frozen_of_block hg
     have hgsz : g < (WB).heap.size := heap_lt hg
     have hw5 : IntKind.u8.wrap (p.names.length : Int) = (p.names.length : Int) := by rw [IntKind.wrap_u8]; omega
     have HBY := hide (put_count (k := p.names.length) (by omega) hg htk hcs hcap)
     have HU : Hid (unpack (str (headB p.names.length ++ p.body)) = some ⟨5, true, 0, false, false, false, false, 0, qsOf p.names, [], [], []⟩) := unpack_points (HMA).out.few.1 (HMA).out.size (HMA).out.reads
     have hG := grownBy_setCell (WB) g 5 (.int .u8 (p.names.length : Int))
     have HB2 := hide ((HMA).out.below.trans (kb_put hG ((HMA).out.blo g rfl) (HMA).out.below.size))
     have HW2 := hide (own_grown (HMA).out.names hG (fun e => k_apart (HMA).out.names (HMA).out.bytes (by decide) e rfl))
     have hz2' := hG.size
     clear hG
     go_wp2_with fail
     generalize (WB).setCell ⟨g, 5, none⟩ (.int .u8 (p.names.length : Int)) = W2 at HBY HB2 HW2 hz2' ⊢
     have hun := tUnpack2 W2 g cb (str (headB p.names.length ++ p.body)) (by show (headB p.names.length ++ p.body).length ≤ _; rw [List.length_append, head_len]; omega) (by show (headB p.names.length ++ p.body).length ≤ _; rw [List.length_append, head_len]; omega) (by omega) HBY.out
     have hszh : (str (headB p.names.length ++ p.body)).size = 12 + p.body.length := by show (headB p.names.length ++ p.body).length = _; rw [List.length_append, head_len]
     rw [(unM_of HU.out).1, (unM_of HU.out).2, hszh] at hun
     refine hun.mono ?_
     clear hun hszh HBY hcg hfg hw5
     rintro e w3 ⟨aq3, cq3, aa3, ca3, au3, cu3, ax3, cx3, rfl, H3⟩
     dsimp only [msgCells]
     have hql : (qsOf p.names).length = p.names.length := by unfold qsOf; rw [List.length_mapIdx]
     rw [hql]
     have hb4 := H3.out.1.trans (((Below.refl w3.heap.size w3).alloc (Nat.le_refl _) (.cells #[.int .u16 5, .bool true, .int .i64 0, .bool false, .bool false, .bool false, .bool false, .int .i64 0, .slice aq3 p.names.length cq3, .slice aa3 0 ca3, .slice au3 0 cu3, .slice ax3 0 cx3] 30)).mono H3.out.1.size)
     have HM4 := hide (heap_new w3 (.cells #[.int .u16 5, .bool true, .int .i64 0, .bool false, .bool false, .bool false, .bool false, .int .i64 0, .slice aq3 p.names.length cq3, .slice aa3 0 ca3, .slice au3 0 cu3, .slice ax3 0 cx3] 30))
     have hq4 := (Rows4.at H3.out.2.2).q
     dsimp only at hq4
     rw [hql] at hq4
     have HQ4 := hide (hq4.below ((Below.refl w3.heap.size w3).alloc (Nat.le_refl _) (.cells #[.int .u16 5, .bool true, .int .i64 0, .bool false, .bool false, .bool false, .bool false, .int .i64 0, .slice aq3 p.names.length cq3, .slice aa3 0 ca3, .slice au3 0 cu3, .slice ax3 0 cx3] 30)))
     have HB4 := hide (HB2.out.trans (hb4.mono HB2.out.size))
     have HW4 := hide (own_below HW2.out hb4)
     clear hb4 H3 HB2 HW2 hq4
     have hcm := box_cells HM4.out
     go_wp2_with fail
     clear hcm
     generalize w3.alloc _ = W4 at HM4 HQ4 HB4 HW4 ⊢
     generalize w3.heap.size = M at HM4 ⊢
     have HW0 : Hid (∃ n, W4 = W4.drewN n) := ⟨0, rfl⟩
     go_loopw [14] (fun vi wr2 => ∃ k : Nat, vi = .int .i64 k ∧ k ≤ p.names.length ∧ Hid (∃ n, wr2 = W4.drewN n)) (fun vi _ => p.names.length - (intOf vi).toNat)
     case atStart => exact ⟨0, rfl, Nat.zero_le _, HW0.out⟩
     case round =>
      obtain ⟨k, rfl, hk, HWR⟩ := hrel
      by_cases hlt : k < p.names.length
      ·obtain ⟨nm, hnm⟩ : ∃ nm, p.names[k]? = some nm := ⟨_, List.getElem?_eq_getElem hlt⟩
       have hq : (qsOf p.names)[k]? = some ⟨str nm, (k : Int), 1⟩ := by unfold qsOf; rw [List.getElem?_mapIdx, hnm]; rfl
       obtain ⟨bq, offq, eq_, q0, q1, q2⟩ := lies_q HQ4.out hq
       cases eq_
       obtain ⟨gw, ew, w0⟩ := row_text HW4.out hnm
       cases ew
       have hcw : ∀ p, wr.cell? p = W4.cell? p := by obtain ⟨n, hn⟩ := HWR.out; rw [hn]; intro p; rfl
       have hcm8 : wr.cell? ⟨M, 8, none⟩ = some (.slice (some ⟨bq, offq, none⟩) p.names.length cq3) := (hcw _).trans ((box_cells HM4.out 8).trans rfl)
       rw [← hcw] at q0 q1 q2 w0
       have hw16 : IntKind.u16.wrap (k : Int) = (k : Int) := by rw [IntKind.wrap_u16]; omega
       clear hcw hq hnm
       go_wp2_with fail
       go_quiet (fail)
       go_wp2_with fail
       go_roundw
       case rel =>
        obtain ⟨n, hn⟩ := HWR.out
        have HX : Hid (∃ m, wr.drewN nq = W4.drewN m) := ⟨n + nq, by rw [hn, World.drewN_drewN]⟩
        (repeat apply Exists.intro)
        exact ⟨⟨k + 1, by go_num, by omega, HX⟩, rfl⟩
       case measure => simp [intOf]; omega
      ·go_wp2_with fail
       go_ret
       obtain ⟨n, hn⟩ := HWR.out
       exact ⟨rfl, by rw [hn]; exact below_drewN HB4.out n⟩
    have hwi : IntKind.u8.wrap (p.names.length : Int) = (p.names.length : Int) := by rw [IntKind.wrap_u8]; omega
    have HR0 : Hid (PR w (wr.alloc (.cells #[.int .u8 (L.length : Int)] 5)) (.slice ab (12 + p.body.length) cb) (.slice aw p.names.length cw) (headB 0 ++ p.body) p.names) := ⟨HMA.out.below, by rw [List.length_append, head_len]; exact HMA.out.bytes, HMA.out.names, HMA.out.blo, HMA.out.wlo⟩
    have hX0 : (headB 0 ++ p.body).length = 12 + p.body.length := by rw [List.length_append, head_len]
    generalize hX0g : headB 0 ++ p.body = X0 at HR0 hX0
    have HX0 := hide hX0g
    clear hX0g
    go_upto_region 20 with (at_builtin; refine wpList_append_grew _ rfl _ _ 32 rfl 5 i0 (.int .u8 0) 1 1 und_bytes hi hz0 hz1 hz2 rfl (by decide) (.slice ab (12 + p.body.length) cb) X0.length _ rfl ⟨wr.heap.size + 1, 0, none⟩ 1 1 [.int .u8 (L.length : Int)] rfl rfl one_u8 (HR0.out.bytes.alloc _) (cells_new2 _ _ _ _) (by unfold maxLen; omega) (by omega) ?_; intro v1 W1 g1; have R1 := hide (HR0.out.grew (Y := [UInt8.ofNat L.length]) ((Below.refl _ _).alloc (Nat.le_refl _) _) g1 (by simp [bytesV, u8n (show L.length < 256 by omega)]) rfl); clear g1)
    have hX1 : (X0 ++ [UInt8.ofNat L.length]).length = 12 + p.body.length + 1 := by rw [List.length_append, hX0]; rfl
    generalize hX1g : X0 ++ [UInt8.ofNat L.length] = X1 at R1 hX1
    have HX1 := hide hX1g
    clear hX1g HR0
    obtain ⟨a1, c1, rfl⟩ := own_slice R1.out.bytes
    go_upto_region 21 with (at_builtin; refine wpList_append_grew_string _ rfl _ _ 32 9 rfl 5 i0 und_bytes und_string hi hz0 hz1 hz2 (.slice a1 X1.length c1) X1.length _ rfl (str L) rfl R1.out.bytes (by unfold maxLen; omega) (by omega) ?_; intro v2 W2 g2; have R2 := hide (R1.out.grew (Y := L) (Below.refl _ _) g2 (strCells_bytesV (str L)) rfl); clear g2)
    have hX2 : (X1 ++ L).length = 12 + p.body.length + 1 + L.length := by rw [List.length_append, hX1]
    generalize hX2g : X1 ++ L = X2 at R2 hX2
    have HX2 := hide hX2g
    clear hX2g R1
    obtain ⟨a2, c2, rfl⟩ := own_slice R2.out.bytes
    by_cases hat0 : p.at_ = 0
    ·have hat0' : ((p.at_ : Int) == 0) = true := by simp; exact hat0
     have HAT0 := hide hat0
     clear hat0
     go_upto_region 24 with (at_builtin; refine wpList_append_grew _ rfl _ _ 32 rfl 5 i0 (.int .u8 0) 1 1 und_bytes hi hz0 hz1 hz2 rfl (by decide) (.slice a2 X2.length c2) X2.length _ rfl ⟨W2.heap.size, 0, none⟩ 1 1 [.int .u8 0] rfl rfl one_u8 (R2.out.bytes.alloc _) (cells_new _ _ _) (by unfold maxLen; omega) (by omega) ?_; intro v3 W3 g3; have R3 := hide (R2.out.grew (Y := onB p.at_) ((Below.refl _ _).alloc (Nat.le_refl _) _) g3 (by unfold onB; rw [if_pos HAT0.out]; rfl) (by unfold onB; rw [if_pos HAT0.out]; rfl)); clear g3)
     have hX3 : (X2 ++ onB p.at_).length = 12 + p.body.length + 1 + L.length + (onB p.at_).length := by rw [List.length_append, hX2]
     have hon : 1 ≤ (onB p.at_).length ∧ (onB p.at_).length ≤ 2 := by unfold onB; split <;> simp
     generalize hX3g : X2 ++ onB p.at_ = X3 at R3 hX3
     have HX3 := hide hX3g
     clear hX3g R2
     obtain ⟨a3, c3, rfl⟩ := own_slice R3.out.bytes
     have HY : Hid ([Value.int .u8 0, .int .u8 (p.names.length : Int), .int .u8 0, .int .u8 1] = bytesV (two (p.names.length : Int) ++ two 1)) := by
      unfold Hid
      rw [bytesV_append, two_cells' (by omega) (by omega), two_cells' (by decide) (by decide)]
      have e1 : (p.names.length : Int) / 256 = 0 := by omega
      have e2 : (p.names.length : Int) % 256 = p.names.length := by omega
      rw [e1, e2]
      rfl
     go_upto_region 25 with (at_builtin; refine wpList_append_grew _ rfl _ _ 32 rfl 5 i0 (.int .u8 0) 1 1 und_bytes hi hz0 hz1 hz2 rfl (by decide) (.slice a3 X3.length c3) X3.length _ rfl ⟨W3.heap.size, 0, none⟩ 4 4 [.int .u8 0, .int .u8 (p.names.length : Int), .int .u8 0, .int .u8 1] rfl rfl one_u4 (R3.out.bytes.alloc _) (cells_new W3 #[.int .u8 0, .int .u8 (p.names.length : Int), .int .u8 0, .int .u8 1] 5) (by unfold maxLen; omega) (by omega) ?_; intro v4 W4 g4; have R4 := hide (R3.out.grew (Y := two (p.names.length : Int) ++ two 1) ((Below.refl _ _).alloc (Nat.le_refl _) _) g4 HY.out rfl); clear g4)
     clear R3 HY
     have hX4 : (X3 ++ (two (p.names.length : Int) ++ two 1)).length = 12 + (p.body ++ entryB p.names.length L p.at_).length := by
      rw [List.length_append, hX3, List.length_append]
      unfold entryB
      simp only [List.length_append, length_two, List.length_cons, List.length_nil]
      omega
     have HX4 : Hid (X3 ++ (two (p.names.length : Int) ++ two 1) = headB 0 ++ (p.body ++ entryB p.names.length L p.at_)) := by
      unfold Hid entryB
      rw [← HX3.out, ← HX2.out, ← HX1.out, ← HX0.out]
      simp only [List.append_assoc]
     obtain ⟨a4, c4, rfl⟩ := own_slice R4.out.bytes
     go_wp2_with (at_builtin; refine wpList_append_grew _ rfl _ _ 39 rfl 9 i1 (.string ⟨#[]⟩) 1 16 uSs hi1 hy0 hy1 hy2 rfl (by decide) (.slice aw p.names.length cw) p.names.length _ rfl ⟨W4.heap.size, 0, none⟩ 1 1 [.string (str N)] rfl rfl one_s (R4.out.names.alloc _) (cells_new _ _ _) (by unfold maxLen; omega) (by omega) ?_; intro v5 W5 g5; have G5 := hide g5; clear g5)
     have HPM : Hid (PM w W5 ls.length (p.step L) (.slice a4 (X3 ++ (two (p.names.length : Int) ++ two 1)).length c4) v5) := by
      have hba := (Below.refl W4.heap.size W4).alloc (Nat.le_refl _) (.cells #[.string (str N)] 9)
      have gb := G5.out.below (B := w.heap.size) (by rw [alloc_size]; have := R4.out.below.size; omega) R4.out.wlo
      have hbt := own_below R4.out.bytes hba
      have hnm := own_below R4.out.names hba
      have hst : (p.step L).body = p.body ++ entryB p.names.length L p.at_ := rfl
      have hsl : (p.step L).last = N := HN.out.symm
      have hsn : (p.step L).names = p.names ++ [N] := by rw [HN.out]; rfl
      refine ⟨(R4.out.below.trans (hba.mono R4.out.below.size)).trans gb.1, ?_, ?_, R4.out.blo, gb.2, ?_, ?_, ?_, (by show 12 + p.body.length ≤ 12 + (p.step L).body.length; rw [hst, List.length_append]; omega), ?_⟩
      ·rw [hst, ← HX4.out, ← hX4]
       cases hv : (Value.slice aw p.names.length cw).ownBlock with
       | none => exact own_below hbt (below_grownBy (by have := G5.out.grown; rw [hv] at this; exact this))
       | some r => exact own_grown hbt (by have := G5.out.grown; rw [hv] at this; exact this) (fun e => k_apart hnm hbt (by decide) hv e)
      ·rw [hsn]
       unfold namesV
       rw [List.length_append, List.map_append]
       exact G5.out.own
      ·rw [hsn, List.length_append]
       simp
       omega
      ·rw [hst, ← hX4, List.length_append, hX3, List.length_append, length_two, length_two]
       omega
      ·rw [hsl]
       omega
      ·intro s' hs'
       have hl4 : 12 + (p.step L).body.length ≤ 512 := by
        rw [hst, ← hX4, List.length_append, hX3, List.length_append, length_two, length_two]
        omega
       exact (HM.out.reads s' (by rw [hst] at hs'; exact hs'.left)).step hL1 hL2 hin2 hl4 (by rw [hsl]; omega) hs'
     have HSL : Hid ((p.step L).last = N) := HN.out.symm
     have hsnl : (p.step L).names.length = p.names.length + 1 := by unfold PtS.step; simp
     have hsat : (p.step L).at_ = 12 + p.body.length := rfl
     have he4 : (X3 ++ (two (p.names.length : Int) ++ two 1)).length = 12 + (p.body.length + (entryB p.names.length L p.at_).length) := by rw [hX4, List.length_append]
     rw [he4] at HPM
     exact ⟨⟨p.step L, congrArg _ (by rw [hsnl]; omega), congrArg _ (by rw [hsat]; omega), by rw [HSL.out], HPM.out⟩, by simp [intOf]; omega⟩
    have hatl := HM.out.atl
    have HYB : Hid ([Value.int .u8 (192 + (p.at_ : Int) / 256), .int .u8 ((p.at_ : Int) % 256)] = bytesV (onB p.at_) ∧ (onB p.at_).length = 2) := by
     unfold Hid onB
     rw [if_neg hat0]
     refine ⟨?_, rfl⟩
     simp only [bytesV, List.map_cons, List.map_nil]
     rw [u8n (by omega), u8n (by omega)]
     congr 1
    have hat0' : ((p.at_ : Int) == 0) = false := by simp; exact hat0
    have HAT0 := hide hat0
    clear hat0
    go_upto_region 24 with (at_builtin; refine wpList_append_grew _ rfl _ _ 32 rfl 5 i0 (.int .u8 0) 1 1 und_bytes hi hz0 hz1 hz2 rfl (by decide) (.slice a2 X2.length c2) X2.length _ rfl ⟨W2.heap.size, 0, none⟩ 2 2 [.int .u8 (192 + (p.at_ : Int) / 256), .int .u8 ((p.at_ : Int) % 256)] rfl rfl one2 (R2.out.bytes.alloc _) (cells_new _ _ _) (by unfold maxLen; omega) (by omega) ?_; intro v3 W3 g3; have R3 := hide (R2.out.grew (Y := onB p.at_) ((Below.refl _ _).alloc (Nat.le_refl _) _) g3 HYB.out.1 HYB.out.2.symm); clear g3)
    have hX3 : (X2 ++ onB p.at_).length = 12 + p.body.length + 1 + L.length + (onB p.at_).length := by rw [List.length_append, hX2]
    have hon : 1 ≤ (onB p.at_).length ∧ (onB p.at_).length ≤ 2 := by unfold onB; split <;> simp
    generalize hX3g : X2 ++ onB p.at_ = X3 at R3 hX3
    have HX3 := hide hX3g
    clear hX3g R2
    obtain ⟨a3, c3, rfl⟩ := own_slice R3.out.bytes
    have HY : Hid ([Value.int .u8 0, .int .u8 (p.names.length : Int), .int .u8 0, .int .u8 1] = bytesV (two (p.names.length : Int) ++ two 1)) := by
     unfold Hid
     rw [bytesV_append, two_cells' (by omega) (by omega), two_cells' (by decide) (by decide)]
     have e1 : (p.names.length : Int) / 256 = 0 := by omega
     have e2 : (p.names.length : Int) % 256 = p.names.length := by omega
     rw [e1, e2]
     rfl
    go_upto_region 25 with (at_builtin; refine wpList_append_grew _ rfl _ _ 32 rfl 5 i0 (.int .u8 0) 1 1 und_bytes hi hz0 hz1 hz2 rfl (by decide) (.slice a3 X3.length c3) X3.length _ rfl ⟨W3.heap.size, 0, none⟩ 4 4 [.int .u8 0, .int .u8 (p.names.length : Int), .int .u8 0, .int .u8 1] rfl rfl one_u4 (R3.out.bytes.alloc _) (cells_new W3 #[.int .u8 0, .int .u8 (p.names.length : Int), .int .u8 0, .int .u8 1] 5) (by unfold maxLen; omega) (by omega) ?_; intro v4 W4 g4; have R4 := hide (R3.out.grew (Y := two (p.names.length : Int) ++ two 1) ((Below.refl _ _).alloc (Nat.le_refl _) _) g4 HY.out rfl); clear g4)
    clear R3 HY
    have hX4 : (X3 ++ (two (p.names.length : Int) ++ two 1)).length = 12 + (p.body ++ entryB p.names.length L p.at_).length := by
     rw [List.length_append, hX3, List.length_append]
     unfold entryB
     simp only [List.length_append, length_two, List.length_cons, List.length_nil]
     omega
    have HX4 : Hid (X3 ++ (two (p.names.length : Int) ++ two 1) = headB 0 ++ (p.body ++ entryB p.names.length L p.at_)) := by
     unfold Hid entryB
     rw [← HX3.out, ← HX2.out, ← HX1.out, ← HX0.out]
     simp only [List.append_assoc]
    obtain ⟨a4, c4, rfl⟩ := own_slice R4.out.bytes
    go_wp2_with (at_builtin; refine wpList_append_grew _ rfl _ _ 39 rfl 9 i1 (.string ⟨#[]⟩) 1 16 uSs hi1 hy0 hy1 hy2 rfl (by decide) (.slice aw p.names.length cw) p.names.length _ rfl ⟨W4.heap.size, 0, none⟩ 1 1 [.string (str N)] rfl rfl one_s (R4.out.names.alloc _) (cells_new _ _ _) (by unfold maxLen; omega) (by omega) ?_; intro v5 W5 g5; have G5 := hide g5; clear g5)
    have HPM : Hid (PM w W5 ls.length (p.step L) (.slice a4 (X3 ++ (two (p.names.length : Int) ++ two 1)).length c4) v5) := by
     have hba := (Below.refl W4.heap.size W4).alloc (Nat.le_refl _) (.cells #[.string (str N)] 9)
     have gb := G5.out.below (B := w.heap.size) (by rw [alloc_size]; have := R4.out.below.size; omega) R4.out.wlo
     have hbt := own_below R4.out.bytes hba
     have hnm := own_below R4.out.names hba
     have hst : (p.step L).body = p.body ++ entryB p.names.length L p.at_ := rfl
     have hsl : (p.step L).last = N := HN.out.symm
     have hsn : (p.step L).names = p.names ++ [N] := by rw [HN.out]; rfl
     refine ⟨(R4.out.below.trans (hba.mono R4.out.below.size)).trans gb.1, ?_, ?_, R4.out.blo, gb.2, ?_, ?_, ?_, (by show 12 + p.body.length ≤ 12 + (p.step L).body.length; rw [hst, List.length_append]; omega), ?_⟩
     ·rw [hst, ← HX4.out, ← hX4]
      cases hv : (Value.slice aw p.names.length cw).ownBlock with
      | none => exact own_below hbt (below_grownBy (by have := G5.out.grown; rw [hv] at this; exact this))
      | some r => exact own_grown hbt (by have := G5.out.grown; rw [hv] at this; exact this) (fun e => k_apart hnm hbt (by decide) hv e)
     ·rw [hsn]
      unfold namesV
      rw [List.length_append, List.map_append]
      exact G5.out.own
     ·rw [hsn, List.length_append]
      simp
      omega
     ·rw [hst, ← hX4, List.length_append, hX3, List.length_append, length_two, length_two]
      omega
     ·rw [hsl]
      omega
     ·intro s' hs'
      have hl4 : 12 + (p.step L).body.length ≤ 512 := by
       rw [hst, ← hX4, List.length_append, hX3, List.length_append, length_two, length_two]
       omega
      exact (HM.out.reads s' (by rw [hst] at hs'; exact hs'.left)).step hL1 hL2 hin2 hl4 (by rw [hsl]; omega) hs'
    have HSL : Hid ((p.step L).last = N) := HN.out.symm
    have hsnl : (p.step L).names.length = p.names.length + 1 := by unfold PtS.step; simp
    have hsat : (p.step L).at_ = 12 + p.body.length := rfl
    have he4 : (X3 ++ (two (p.names.length : Int) ++ two 1)).length = 12 + (p.body.length + (entryB p.names.length L p.at_).length) := by rw [hX4, List.length_append]
    rw [he4] at HPM
    exact ⟨⟨p.step L, congrArg _ (by rw [hsnl]; omega), congrArg _ (by rw [hsat]; omega), by rw [HSL.out], HPM.out⟩, by simp [intOf]; omega⟩
  ·rcases (show ls.length ≤ p.names.length ∨ (p.names.length < ls.length ∧ 20 ≤ p.names.length) by omega) with h1 | ⟨h1, h2⟩
   ·go_upto_region 28 with fail
    rcases (HM).out.bytes.2 with ⟨_, h0⟩ | ⟨g, cap, cur, e, _, hg, hcap, _, hcs, htk⟩
    ·omega
    cases e
    have hcg : (wr).cell? ⟨g, 5, none⟩ = some (cur[5]'(by omega)) := by rw [box_cells hg 5]; exact Array.getElem?_eq_getElem _
    have hfg := frozen_of_block hg
    have hgsz : g < (wr).heap.size := heap_lt hg
    have hw5 : IntKind.u8.wrap (p.names.length : Int) = (p.names.length : Int) := by rw [IntKind.wrap_u8]; omega
    have HBY := hide (put_count (k := p.names.length) (by omega) hg htk hcs hcap)
    have HU : Hid (unpack (str (headB p.names.length ++ p.body)) = some ⟨5, true, 0, false, false, false, false, 0, qsOf p.names, [], [], []⟩) := unpack_points (HM).out.few.1 (HM).out.size (HM).out.reads
    have hG := grownBy_setCell (wr) g 5 (.int .u8 (p.names.length : Int))
    have HB2 := hide ((HM).out.below.trans (kb_put hG ((HM).out.blo g rfl) (HM).out.below.size))
    have HW2 := hide (own_grown (HM).out.names hG (fun e => k_apart (HM).out.names (HM).out.bytes (by decide) e rfl))
    have hz2' := hG.size
    clear hG
    go_wp2_with fail
    generalize (wr).setCell ⟨g, 5, none⟩ (.int .u8 (p.names.length : Int)) = W2 at HBY HB2 HW2 hz2' ⊢
    have hun := tUnpack2 W2 g cb (str (headB p.names.length ++ p.body)) (by show (headB p.names.length ++ p.body).length ≤ _; rw [List.length_append, head_len]; omega) (by show (headB p.names.length ++ p.body).length ≤ _; rw [List.length_append, head_len]; omega) (by omega) HBY.out
    have hszh : (str (headB p.names.length ++ p.body)).size = 12 + p.body.length := by show (headB p.names.length ++ p.body).length = _; rw [List.length_append, head_len]
    rw [(unM_of HU.out).1, (unM_of HU.out).2, hszh] at hun
    refine hun.mono ?_
    clear hun hszh HBY hcg hfg hw5
    rintro e w3 ⟨aq3, cq3, aa3, ca3, au3, cu3, ax3, cx3, rfl, H3⟩
    dsimp only [msgCells]
    have hql : (qsOf p.names).length = p.names.length := by unfold qsOf; rw [List.length_mapIdx]
    rw [hql]
    have hb4 := H3.out.1.trans (((Below.refl w3.heap.size w3).alloc (Nat.le_refl _) (.cells #[.int .u16 5, .bool true, .int .i64 0, .bool false, .bool false, .bool false, .bool false, .int .i64 0, .slice aq3 p.names.length cq3, .slice aa3 0 ca3, .slice au3 0 cu3, .slice ax3 0 cx3] 30)).mono H3.out.1.size)
    have HM4 := hide (heap_new w3 (.cells #[.int .u16 5, .bool true, .int .i64 0, .bool false, .bool false, .bool false, .bool false, .int .i64 0, .slice aq3 p.names.length cq3, .slice aa3 0 ca3, .slice au3 0 cu3, .slice ax3 0 cx3] 30))
    have hq4 := (Rows4.at H3.out.2.2).q
    dsimp only at hq4
    rw [hql] at hq4
    have HQ4 := hide (hq4.below ((Below.refl w3.heap.size w3).alloc (Nat.le_refl _) (.cells #[.int .u16 5, .bool true, .int .i64 0, .bool false, .bool false, .bool false, .bool false, .int .i64 0, .slice aq3 p.names.length cq3, .slice aa3 0 ca3, .slice au3 0 cu3, .slice ax3 0 cx3] 30)))
    have HB4 := hide (HB2.out.trans (hb4.mono HB2.out.size))
    have HW4 := hide (own_below HW2.out hb4)
    clear hb4 H3 HB2 HW2 hq4
    have hcm := box_cells HM4.out
    go_wp2_with fail
    clear hcm
    generalize w3.alloc _ = W4 at HM4 HQ4 HB4 HW4 ⊢
    generalize w3.heap.size = M at HM4 ⊢
    have HW0 : Hid (∃ n, W4 = W4.drewN n) := ⟨0, rfl⟩
    go_loopw [14] (fun vi wr2 => ∃ k : Nat, vi = .int .i64 k ∧ k ≤ p.names.length ∧ Hid (∃ n, wr2 = W4.drewN n)) (fun vi _ => p.names.length - (intOf vi).toNat)
    case atStart => exact ⟨0, rfl, Nat.zero_le _, HW0.out⟩
    case round =>
     obtain ⟨k, rfl, hk, HWR⟩ := hrel
     by_cases hlt : k < p.names.length
     ·obtain ⟨nm, hnm⟩ : ∃ nm, p.names[k]? = some nm := ⟨_, List.getElem?_eq_getElem hlt⟩
      have hq : (qsOf p.names)[k]? = some ⟨str nm, (k : Int), 1⟩ := by unfold qsOf; rw [List.getElem?_mapIdx, hnm]; rfl
      obtain ⟨bq, offq, eq_, q0, q1, q2⟩ := lies_q HQ4.out hq
      cases eq_
      obtain ⟨gw, ew, w0⟩ := row_text HW4.out hnm
      cases ew
      have hcw : ∀ p, wr.cell? p = W4.cell? p := by obtain ⟨n, hn⟩ := HWR.out; rw [hn]; intro p; rfl
      have hcm8 : wr.cell? ⟨M, 8, none⟩ = some (.slice (some ⟨bq, offq, none⟩) p.names.length cq3) := (hcw _).trans ((box_cells HM4.out 8).trans rfl)
      rw [← hcw] at q0 q1 q2 w0
      have hw16 : IntKind.u16.wrap (k : Int) = (k : Int) := by rw [IntKind.wrap_u16]; omega
      clear hcw hq hnm
      go_wp2_with fail
      go_quiet (fail)
      go_wp2_with fail
      go_roundw
      case rel =>
       obtain ⟨n, hn⟩ := HWR.out
       have HX : Hid (∃ m, wr.drewN nq = W4.drewN m) := ⟨n + nq, by rw [hn, World.drewN_drewN]⟩
       (repeat apply Exists.intro)
       exact ⟨⟨k + 1, by go_num, by omega, HX⟩, rfl⟩
      case measure => simp [intOf]; omega
     ·go_wp2_with fail
      go_ret
      obtain ⟨n, hn⟩ := HWR.out
      exact ⟨rfl, by rw [hn]; exact below_drewN HB4.out n⟩
   ·go_upto_region 28 with fail
    rcases (HM).out.bytes.2 with ⟨_, h0⟩ | ⟨g, cap, cur, e, _, hg, hcap, _, hcs, htk⟩
    ·omega
    cases e
    have hcg : (wr).cell? ⟨g, 5, none⟩ = some (cur[5]'(by omega)) := by rw [box_cells hg 5]; exact Array.getElem?_eq_getElem _
    have hfg := frozen_of_block hg
    have hgsz : g < (wr).heap.size := heap_lt hg
    have hw5 : IntKind.u8.wrap (p.names.length : Int) = (p.names.length : Int) := by rw [IntKind.wrap_u8]; omega
    have HBY := hide (put_count (k := p.names.length) (by omega) hg htk hcs hcap)
    have HU : Hid (unpack (str (headB p.names.length ++ p.body)) = some ⟨5, true, 0, false, false, false, false, 0, qsOf p.names, [], [], []⟩) := unpack_points (HM).out.few.1 (HM).out.size (HM).out.reads
    have hG := grownBy_setCell (wr) g 5 (.int .u8 (p.names.length : Int))
    have HB2 := hide ((HM).out.below.trans (kb_put hG ((HM).out.blo g rfl) (HM).out.below.size))
    have HW2 := hide (own_grown (HM).out.names hG (fun e => k_apart (HM).out.names (HM).out.bytes (by decide) e rfl))
    have hz2' := hG.size
    clear hG
    go_wp2_with fail
    generalize (wr).setCell ⟨g, 5, none⟩ (.int .u8 (p.names.length : Int)) = W2 at HBY HB2 HW2 hz2' ⊢
    have hun := tUnpack2 W2 g cb (str (headB p.names.length ++ p.body)) (by show (headB p.names.length ++ p.body).length ≤ _; rw [List.length_append, head_len]; omega) (by show (headB p.names.length ++ p.body).length ≤ _; rw [List.length_append, head_len]; omega) (by omega) HBY.out
    have hszh : (str (headB p.names.length ++ p.body)).size = 12 + p.body.length := by show (headB p.names.length ++ p.body).length = _; rw [List.length_append, head_len]
    rw [(unM_of HU.out).1, (unM_of HU.out).2, hszh] at hun
    refine hun.mono ?_
    clear hun hszh HBY hcg hfg hw5
    rintro e w3 ⟨aq3, cq3, aa3, ca3, au3, cu3, ax3, cx3, rfl, H3⟩
    dsimp only [msgCells]
    have hql : (qsOf p.names).length = p.names.length := by unfold qsOf; rw [List.length_mapIdx]
    rw [hql]
    have hb4 := H3.out.1.trans (((Below.refl w3.heap.size w3).alloc (Nat.le_refl _) (.cells #[.int .u16 5, .bool true, .int .i64 0, .bool false, .bool false, .bool false, .bool false, .int .i64 0, .slice aq3 p.names.length cq3, .slice aa3 0 ca3, .slice au3 0 cu3, .slice ax3 0 cx3] 30)).mono H3.out.1.size)
    have HM4 := hide (heap_new w3 (.cells #[.int .u16 5, .bool true, .int .i64 0, .bool false, .bool false, .bool false, .bool false, .int .i64 0, .slice aq3 p.names.length cq3, .slice aa3 0 ca3, .slice au3 0 cu3, .slice ax3 0 cx3] 30))
    have hq4 := (Rows4.at H3.out.2.2).q
    dsimp only at hq4
    rw [hql] at hq4
    have HQ4 := hide (hq4.below ((Below.refl w3.heap.size w3).alloc (Nat.le_refl _) (.cells #[.int .u16 5, .bool true, .int .i64 0, .bool false, .bool false, .bool false, .bool false, .int .i64 0, .slice aq3 p.names.length cq3, .slice aa3 0 ca3, .slice au3 0 cu3, .slice ax3 0 cx3] 30)))
    have HB4 := hide (HB2.out.trans (hb4.mono HB2.out.size))
    have HW4 := hide (own_below HW2.out hb4)
    clear hb4 H3 HB2 HW2 hq4
    have hcm := box_cells HM4.out
    go_wp2_with fail
    clear hcm
    generalize w3.alloc _ = W4 at HM4 HQ4 HB4 HW4 ⊢
    generalize w3.heap.size = M at HM4 ⊢
    have HW0 : Hid (∃ n, W4 = W4.drewN n) := ⟨0, rfl⟩
    go_loopw [14] (fun vi wr2 => ∃ k : Nat, vi = .int .i64 k ∧ k ≤ p.names.length ∧ Hid (∃ n, wr2 = W4.drewN n)) (fun vi _ => p.names.length - (intOf vi).toNat)
    case atStart => exact ⟨0, rfl, Nat.zero_le _, HW0.out⟩
    case round =>
     obtain ⟨k, rfl, hk, HWR⟩ := hrel
     by_cases hlt : k < p.names.length
     ·obtain ⟨nm, hnm⟩ : ∃ nm, p.names[k]? = some nm := ⟨_, List.getElem?_eq_getElem hlt⟩
      have hq : (qsOf p.names)[k]? = some ⟨str nm, (k : Int), 1⟩ := by unfold qsOf; rw [List.getElem?_mapIdx, hnm]; rfl
      obtain ⟨bq, offq, eq_, q0, q1, q2⟩ := lies_q HQ4.out hq
      cases eq_
      obtain ⟨gw, ew, w0⟩ := row_text HW4.out hnm
      cases ew
      have hcw : ∀ p, wr.cell? p = W4.cell? p := by obtain ⟨n, hn⟩ := HWR.out; rw [hn]; intro p; rfl
      have hcm8 : wr.cell? ⟨M, 8, none⟩ = some (.slice (some ⟨bq, offq, none⟩) p.names.length cq3) := (hcw _).trans ((box_cells HM4.out 8).trans rfl)
      rw [← hcw] at q0 q1 q2 w0
      have hw16 : IntKind.u16.wrap (k : Int) = (k : Int) := by rw [IntKind.wrap_u16]; omega
      clear hcw hq hnm
      go_wp2_with fail
      go_quiet (fail)
      go_wp2_with fail
      go_roundw
      case rel =>
       obtain ⟨n, hn⟩ := HWR.out
       have HX : Hid (∃ m, wr.drewN nq = W4.drewN m) := ⟨n + nq, by rw [hn, World.drewN_drewN]⟩
       (repeat apply Exists.intro)
       exact ⟨⟨k + 1, by go_num, by omega, HX⟩, rfl⟩
      case measure => simp [intOf]; omega
     ·go_wp2_with fail
      go_ret
      obtain ⟨n, hn⟩ := HWR.out
      exact ⟨rfl, by rw [hn]; exact below_drewN HB4.out n⟩
end Go.Proofs.YtafoepfhepdcoaaGreat
