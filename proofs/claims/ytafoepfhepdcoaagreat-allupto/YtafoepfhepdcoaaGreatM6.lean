import Derived.Test.YtafoepfhepdcoaaGreatM2
import Derived.Laws.CopyRow
import Derived.OwnWalk
import Derived.Test.YtafoepfhepdcoaaGreatM1
import Derived.Deep.QuietTactic
import Derived.BigQuiet
set_option maxRecDepth 100000
set_option maxHeartbeats 8000000
namespace Go.Trawl
open Go.RowKit
theorem grownBy_setRow (w : World) (g : Nat) (cs : Array Value) : w.grownBy (w.setRow g cs) (some g) :=
 ⟨rfl, rfl, rfl, by simp, fun i _ hne => setRow_other w g i cs (fun e => hne (by rw [e]))⟩
theorem copy_lies {P : Program} (w : World) (t s ty e : TypeId) (i : TypeInfo) (size : Nat) (ht : P.underlying t = some (.slice e)) (hi : P.info? e = some i) (hsize : i.size = size)
  (g n c : Nat) (xs : List Value) (hown : w.ownsRow 0 e size (.slice (some ⟨g, 0, none⟩) n c) n xs) (src : Value) (es : List (List Value)) (hsrc : Lies w size src es) (hes : ∀ x ∈ es, x.length = size ∧ ∀ u ∈ x, u.oneCell' = true) (hle : es.length ≤ n) :
  ∃ w', (Builtin.copy_ #[t, s] ty #[.slice (some ⟨g, 0, none⟩) n c, src]).run P w = .ok (goInt es.length) w' ∧ w'.ownsRow 0 e size (.slice (some ⟨g, 0, none⟩) n c) n (es.flatten ++ xs.drop (es.length * size)) ∧ w.grownBy w' (some g) := by
 obtain ⟨a, c', rfl, hac, h⟩ := hsrc
 have hl := flat_length (sz := size) es (fun x hx => (hes x hx).1)
 have h1 : ∀ u ∈ es.flatten, u.oneCell' = true := by
  intro u hu
  obtain ⟨x, hx, hux⟩ := List.mem_flatten.1 hu
  exact (hes x hx).2 u hux
 have hmin : Nat.min es.length n = es.length := Nat.min_eq_left hle
 have hxl := hown.1
 rcases hown.2 with ⟨h0, _⟩ | ⟨g', cap, cur, e1, _, hg, hnc, hcm, hcs, htake⟩
 ·cases h0
 ·injection e1 with e2 _ e3
  injection e2 with e2
  injection e2 with e4
  subst e3 e4
  have hmul : es.length * size ≤ n * size := Nat.mul_le_mul_right _ hle
  have hmul2 : n * size ≤ c * size := Nat.mul_le_mul_right _ hnc
  have hst := run_storeCells_at P g 0 e es.flatten 0 cur w hg (by rw [hl]; omega) h1
  refine ⟨w.setRow g (es.flatten ++ cur.toList.drop (es.length * size)).toArray, ?_, ?_, grownBy_setRow _ _ _⟩
  ·simp only [Nat.add_zero, Nat.zero_add, List.take_zero, List.nil_append, hl] at hst
   cases a with
   | some ad =>
    have hload := run_loadCells_list (P := P) w ad es.flatten (fun j u hj => by
     rcases h with rfl | ⟨b, off, hab, _, h⟩
     ·simp at hj
     ·obtain ⟨k, x, r, hk, hr, rfl⟩ := flat_get es (fun x hx => (hes x hx).1) j u hj
      have hab' := Option.some.inj hab
      subst hab'
      have := h k x hk r u hr
      have e1 : (⟨b, off, none⟩ : Addr).add (k * size + r) = ⟨b, off + k * size + r, none⟩ := by simp [Addr.add, Nat.add_assoc]
      rw [e1]; exact this)
    rw [hl] at hload
    simp [Builtin.copy_, run_underlying ht, Builtin.lenOf, Builtin.firstCells, sizeOf, typeInfo, hi, hsize, hmin, hload, hst]
   | none =>
    rcases h with rfl | ⟨b, off, hab, _⟩
    ·simp [Builtin.copy_, run_underlying ht, Builtin.lenOf, Builtin.firstCells, sizeOf, typeInfo, hi, storeCells, setRow_self w g cur e (0, 0) hg]
    ·cases hab
  ·refine ⟨by rw [List.length_append, List.length_drop, hl, hxl]; omega, .inr ⟨g, c, _, rfl, Nat.zero_le _, setRow_heap w g cur _ e _ hg, hnc, hcm, ?_, ?_⟩⟩
   ·simp [hl, hcs]; omega
   ·simp only
    rw [List.take_append, List.take_of_length_le (by omega), hl, ← htake, List.drop_take]
theorem made_flat (z : List Value) (hz : 0 < z.length) (n : Nat) : (madeCells z.toArray (n * z.length)).toList = (List.replicate n z).flatten := by
 apply List.ext_getElem?
 intro j
 have hfl := flat_length (sz := z.length) (List.replicate n z) (fun x hx => by rw [List.eq_of_mem_replicate hx])
 rw [List.length_replicate] at hfl
 by_cases hj : j < n * z.length
 ·have hm : j % z.length < z.length := Nat.mod_lt _ hz
  have hd : j / z.length < n := (Nat.div_lt_iff_lt_mul hz).2 hj
  have e1 : j = j / z.length * z.length + j % z.length := by rw [Nat.mul_comm]; exact (Nat.div_add_mod j z.length).symm
  have h2 := flat_at (sz := z.length) (List.replicate n z) (fun x hx => by rw [List.eq_of_mem_replicate hx]) (j / z.length) z (j % z.length) (z[j % z.length]) (by rw [List.getElem?_replicate, if_pos hd]) (by rw [List.getElem?_eq_getElem hm])
  rw [← e1] at h2
  rw [h2]
  simp [madeCells, hj, hm]
 ·rw [List.getElem?_eq_none (by simp [madeCells]; omega), List.getElem?_eq_none (by omega)]
theorem drop_rep_flat (z : List Value) (n k : Nat) : (List.replicate (k + n) z).flatten.drop (k * z.length) = (List.replicate n z).flatten := by
 rw [← List.replicate_append_replicate, List.flatten_append]
 have hfl := flat_length (sz := z.length) (List.replicate k z) (fun x hx => by rw [List.eq_of_mem_replicate hx])
 rw [List.length_replicate] at hfl
 rw [List.drop_append, List.drop_of_length_le (by omega), hfl]
 simp
end Go.Trawl
namespace Go.Proofs.YtafoepfhepdcoaaGreat
open Go.RowKit Go.Trawl
theorem lab_next' {s : ByteArray} {k : Nat} (h : k < s.size) (h1 : 1 ≤ (s[k].toNat : Int)) (h2 : (s[k].toNat : Int) ≤ 63) : behind s k = behind s (k + (1 + s[k].toNat)) := by
 rw [← Nat.add_assoc]; exact lab_next h (by omega) h2
theorem lab_stop2' {s : ByteArray} {k : Nat} (h : k < s.size) (h2 : (s[k].toNat : Int) < 1) : behind s k = k := lab_stop2 h (by omega)
theorem ret_nat {a b : Nat} (h : a = b) : Ending.returned (.int .i64 (a : Int)) = .returned (.int .i64 (b : Int)) := by rw [h]
theorem behS_any (s : ByteArray) (w : World) (hs : s.size ≤ 255) :
  Calls Tryz.prog 167 #[.string s, .int .i64 0] w fun e w' => e = .returned (.int .i64 (behind s 0)) ∧ w' = w := by
 go_enter Tryz.func167, Tryz.ntmps167
 go_wp2
 go_loop [1] (fun i => ∃ k : Nat, i = .int .i64 k ∧ k ≤ 1000 ∧ Hid (behind s 0 = behind s k)) (fun i => s.size - (intOf i).toNat)
 case atStart => exact ⟨0, rfl, by omega, rfl⟩
 case round =>
  obtain ⟨k, rfl, hk, hb⟩ := hrel
  by_cases hlt : k < s.size
  ·go_wp2
   ·have h1 : 1 ≤ (s[k].toNat : Int) := by assumption
    have h2 : (s[k].toNat : Int) ≤ 63 := by assumption
    exact ⟨⟨k + (1 + s[k].toNat), by go_num, by omega, hb.out.trans (lab_next' hlt h1 h2)⟩, by simp [intOf]; omega⟩
   ·go_ret
    exact ⟨ret_nat (hb.out.trans (lab_stop1 hlt (by assumption))).symm, rfl⟩
   ·go_ret
    exact ⟨ret_nat (hb.out.trans (lab_stop2' hlt (by assumption))).symm, rfl⟩
  ·go_wp2
   go_ret
   exact ⟨ret_nat (hb.out.trans (lab_stop3 hlt)).symm, rfl⟩
theorem isName_any (s : ByteArray) (w : World) (hs : s.size ≤ maxLen) :
  Calls Tryz.prog 140 #[.string s] w fun e w' => e = .returned (.bool (nameB s)) ∧ w' = w := by
 unfold maxLen at hs
 by_cases h : s.size ≤ 255
 ·by_cases hb : (behind s 0 : Int) = (s.size : Int) - 1
  ·have h1 : 1 ≤ s.size := by omega
   have hlt : s.size - 1 < s.size := Nat.sub_lt h1 Nat.one_pos
   have HY : Hid (((s[s.size - 1].toNat : Int) == 0) = nameB s) := name_yes rfl h hb hlt
   have hbb : ((behind s 0 : Int) == (s.size : Int) - 1) = true := by simpa using hb
   clear hb
   go_enter Tryz.func140, Tryz.ntmps140
   go_wp2_with (go_at_call 167; refine (behS_any _ _ h).mono ?_; rintro e w' ⟨rfl, rfl⟩)
   go_ret
   exact ⟨ret_bool HY.out, rfl⟩
  ·have HN : Hid (nameB s = false) := name_no rfl hb
   have hbb : ((behind s 0 : Int) == (s.size : Int) - 1) = false := by simpa using hb
   clear hb
   go_enter Tryz.func140, Tryz.ntmps140
   go_wp2_with (go_at_call 167; refine (behS_any _ _ h).mono ?_; rintro e w' ⟨rfl, rfl⟩)
   go_ret
   exact ⟨ret_bool HN.out.symm, rfl⟩
 ·have HN : Hid (nameB s = false) := name_long h
  go_enter Tryz.func140, Tryz.ntmps140
  go_wp2
  go_ret
  exact ⟨ret_bool HN.out.symm, rfl⟩
theorem flag_any (b : Bool) (n : Int) (w : World) :
  Calls Tryz.prog 97 #[.bool b, .int .u16 n] w fun e w' => e = .returned (.int .u16 (bit b n)) ∧ w' = w := by
 cases b
 all_goals
  go_enter Tryz.func97, Tryz.ntmps97
  go_wp2
  go_ret
  exact ⟨rfl, rfl⟩
theorem countQ_any (a : Option Addr) (n c : Nat) (hn : n ≤ 65535) (w : World) :
  Calls Tryz.prog 62 #[.slice a n c] w fun e w' => e = .returned (.int .u16 n) ∧ w' = w := by
 go_enter Tryz.func62, Tryz.ntmps62
 go_wp2
 go_ret
 exact ⟨ret_int (by omega), rfl⟩
theorem countR_any (a : Option Addr) (n c : Nat) (hn : n ≤ 65535) (w : World) :
  Calls Tryz.prog 63 #[.slice a n c] w fun e w' => e = .returned (.int .u16 n) ∧ w' = w := by
 go_enter Tryz.func63, Tryz.ntmps63
 go_wp2
 go_ret
 exact ⟨ret_int (by omega), rfl⟩
def withQ (size : Int) (q : Qn) : Value := if nameB q.name then .tuple #[.int .i64 (size + (q.name.size + 4)), .bool (decide (size + (q.name.size + 4) ≤ 512))] else .tuple #[.int .i64 0, .bool false]
theorem withQ_any (size : Int) (s : ByteArray) (k c : Int) (w : World) (h0 : 0 ≤ size) (h1 : size ≤ 512) (hs : s.size ≤ maxLen) :
  Calls Tryz.prog 95 #[.int .i64 size, .agg #[.string s, .int .u16 k, .int .u16 c]] w fun e w' => e = .returned (withQ size ⟨s, k, c⟩) ∧ Below w.heap.size w w' := by
 by_cases hn : nameB s = true
 ·have hz := nameB_size hn
  have HQ : Hid (withQ size ⟨s, k, c⟩ = .tuple #[.int .i64 (size + (s.size + 4)), .bool (decide (size + (s.size + 4) ≤ 512))]) := by unfold withQ; rw [if_pos hn]; rfl
  go_enter Tryz.func95, Tryz.ntmps95
  go_wp2_with (go_at_call 140; refine (isName_any _ _ hs).mono ?_; rintro e w' ⟨rfl, rfl⟩)
  go_ret2
  exact ⟨by rw [HQ.out]; rfl, (Below.refl _ _).alloc (Nat.le_refl _) _⟩
 ·have hn' : nameB s = false := by simpa using hn
  clear hn
  have HQ : Hid (withQ size ⟨s, k, c⟩ = .tuple #[.int .i64 0, .bool false]) := by unfold withQ; rw [hn']; rfl
  go_enter Tryz.func95, Tryz.ntmps95
  go_wp2_with (go_at_call 140; refine (isName_any _ _ hs).mono ?_; rintro e w' ⟨rfl, rfl⟩)
  go_ret2
  exact ⟨by rw [HQ.out]; rfl, (Below.refl _ _).alloc (Nat.le_refl _) _⟩
def withR (size : Int) (r : Rc) : Value :=
 if okR r && decide (r.data.size ≤ 512) then .tuple #[.int .i64 (size + (r.name.size + 10 + r.data.size)), .bool (decide (size + (r.name.size + 10 + r.data.size) ≤ 512))] else .tuple #[.int .i64 0, .bool false]
theorem withR_any (size : Int) (s : ByteArray) (k c t : Int) (d : ByteArray) (w : World) (h0 : 0 ≤ size) (h1 : size ≤ 512) (hs : s.size ≤ maxLen) (hd : d.size ≤ maxLen) :
  Calls Tryz.prog 96 #[.int .i64 size, .agg #[.string s, .int .u16 k, .int .u16 c, .int .u32 t, .string d]] w fun e w' => e = .returned (withR size ⟨s, k, c, t, d⟩) ∧ Below w.heap.size w w' := by
 have hd' : d.size ≤ 9223372036854775807 := by unfold maxLen at hd; omega
 cases hn : nameB s with
 | false =>
  have HQ : Hid (withR size ⟨s, k, c, t, d⟩ = .tuple #[.int .i64 0, .bool false]) := by show _ = _; unfold withR okR; simp [hn]
  go_enter Tryz.func96, Tryz.ntmps96
  go_wp2_with (go_at_call 140; refine (isName_any _ _ hs).mono ?_; rintro e w' ⟨rfl, rfl⟩)
  go_ret2
  exact ⟨by rw [HQ.out]; rfl, (Below.refl _ _).alloc (Nat.le_refl _) _⟩
 | true =>
  have hz := nameB_size hn
  by_cases hb : d.size ≤ 512
  ·cases hk : named k with
   | false =>
    have HQ : Hid (withR size ⟨s, k, c, t, d⟩ = .tuple #[.int .i64 (size + (s.size + 10 + d.size)), .bool (decide (size + (s.size + 10 + d.size) ≤ 512))]) := by show _ = _; unfold withR okR; simp [hn, hb, hk]
    go_enter Tryz.func96, Tryz.ntmps96
    go_wp2_with (first | (go_at_call 140; refine (isName_any _ _ hs).mono ?_; rintro e w' ⟨rfl, rfl⟩) | (go_at_call 141; refine (isNameType_any _ _).mono ?_; rintro e w' ⟨rfl, rfl⟩))
    go_ret2
    exact ⟨by rw [HQ.out]; rfl, (Below.refl _ _).alloc (Nat.le_refl _) _⟩
   | true =>
    cases hm : nameB d with
    | false =>
     have HQ : Hid (withR size ⟨s, k, c, t, d⟩ = .tuple #[.int .i64 0, .bool false]) := by show _ = _; unfold withR okR; simp [hm, hk]
     go_enter Tryz.func96, Tryz.ntmps96
     go_wp2_with fail
     refine (isName_any _ _ hs).mono ?_
     rintro e w' ⟨rfl, rfl⟩
     go_wp2_with (go_at_call 141; refine (isNameType_any _ _).mono ?_; rintro e w' ⟨rfl, rfl⟩)
     refine (isName_any _ _ hd).mono ?_
     rintro e w' ⟨rfl, rfl⟩
     go_wp2
     go_ret2
     exact ⟨by rw [HQ.out]; rfl, (Below.refl _ _).alloc (Nat.le_refl _) _⟩
    | true =>
     have HQ : Hid (withR size ⟨s, k, c, t, d⟩ = .tuple #[.int .i64 (size + (s.size + 10 + d.size)), .bool (decide (size + (s.size + 10 + d.size) ≤ 512))]) := by show _ = _; unfold withR okR; simp [hn, hb, hm]
     go_enter Tryz.func96, Tryz.ntmps96
     go_wp2_with fail
     refine (isName_any _ _ hs).mono ?_
     rintro e w' ⟨rfl, rfl⟩
     go_wp2_with (go_at_call 141; refine (isNameType_any _ _).mono ?_; rintro e w' ⟨rfl, rfl⟩)
     refine (isName_any _ _ hd).mono ?_
     rintro e w' ⟨rfl, rfl⟩
     go_wp2
     go_ret2
     exact ⟨by rw [HQ.out]; rfl, (Below.refl _ _).alloc (Nat.le_refl _) _⟩
  ·have HQ : Hid (withR size ⟨s, k, c, t, d⟩ = .tuple #[.int .i64 0, .bool false]) := by show _ = _; unfold withR; simp [hb]
   go_enter Tryz.func96, Tryz.ntmps96
   go_wp2_with (go_at_call 140; refine (isName_any _ _ hs).mono ?_; rintro e w' ⟨rfl, rfl⟩)
   go_ret2
   exact ⟨by rw [HQ.out]; rfl, (Below.refl _ _).alloc (Nat.le_refl _) _⟩
theorem flags_fin : ∀ (op code : Fin 16) (r o c wt a : Bool),
  bits BinOp.or IntKind.u16 (bits BinOp.or IntKind.u16 (bits BinOp.or IntKind.u16 (bits BinOp.or IntKind.u16 (bits BinOp.or IntKind.u16 (bits BinOp.or IntKind.u16 (bit r 32768) ((op.val : Int) * 2048)) (bit o 1024)) (bit c 512)) (bit wt 256)) (bit a 128)) (code.val : Int)
   = bit r 32768 + 2048 * (op.val : Int) + bit o 1024 + bit c 512 + bit wt 256 + bit a 128 + (code.val : Int) := by
 decide +kernel
theorem flags_or (op code : Int) (r o c wt a : Bool) (h0 : 0 ≤ op) (h1 : op ≤ 15) (h2 : 0 ≤ code) (h3 : code ≤ 15) :
  bits BinOp.or IntKind.u16 (bits BinOp.or IntKind.u16 (bits BinOp.or IntKind.u16 (bits BinOp.or IntKind.u16 (bits BinOp.or IntKind.u16 (bits BinOp.or IntKind.u16 (bit r 32768) (op * 2048)) (bit o 1024)) (bit c 512)) (bit wt 256)) (bit a 128)) code
   = bit r 32768 + 2048 * op + bit o 1024 + bit c 512 + bit wt 256 + bit a 128 + code := by
 have := flags_fin ⟨op.toNat, by omega⟩ ⟨code.toNat, by omega⟩ r o c wt a
 simp only [Int.toNat_of_nonneg h0, Int.toNat_of_nonneg h2] at this
 exact this
theorem packFlags_any (id op code : Int) (r o c wt a : Bool) (q1 q2 q3 q4 : Value) (w : World) (h0 : 0 ≤ op) (h1 : op ≤ 15) (h2 : 0 ≤ code) (h3 : code ≤ 15) :
  Calls Tryz.prog 61 #[.agg #[.int .u16 id, .bool r, .int .i64 op, .bool o, .bool c, .bool wt, .bool a, .int .i64 code, q1, q2, q3, q4]] w fun e w' => e = .returned (.int .u16 (bit r 32768 + 2048 * op + bit o 1024 + bit c 512 + bit wt 256 + bit a 128 + code)) ∧ ∃ n, w' = (w.alloc (.cells #[.int .u16 id, .bool r, .int .i64 op, .bool o, .bool c, .bool wt, .bool a, .int .i64 code, q1, q2, q3, q4] 30)).drewN n := by
 have HF : Hid _ := flags_or op code r o c wt a h0 h1 h2 h3
 go_enter Tryz.func61, Tryz.ntmps61
 go_wp2
 go_quiet ((go_at_call 97; exact Calls.quiet_of_same (flag_any _ _ _)))
 go_wp2
 go_ret
 exact ⟨ret_int HF.out, _, rfl⟩
theorem u8_info : (Tryz.prog.info? 5).map (fun i => (i.zero, i.size, i.bytes)) = some (some (.int .u8 0), 1, 1) := by kernel_rfl
theorem und_bytes : Tryz.prog.underlying 32 = some (.slice 5) := by kernel_rfl
theorem und_string : Tryz.prog.underlying 9 = some .string := by kernel_rfl
theorem one2 {k : IntKind} {a b : Int} : ∀ u ∈ [Value.int k a, Value.int k b], u.oneCell' = true := by
 intro u hu
 simp at hu
 rcases hu with rfl | rfl <;> rfl
theorem addShort_any (v : Value) (n : Nat) (xs : List Value) (x : Int) (w : World) (h0 : 0 ≤ x) (h1 : x ≤ 65535) (hown : w.ownsRow 0 5 1 v n xs) (hn : n ≤ 1000000) :
  Calls Tryz.prog 64 #[v, .int .u16 x] w fun e w' => ∃ v', e = .returned v' ∧ Grew 5 1 w w' v v' (n + 2) (xs ++ bytesV (two x)) := by
 obtain ⟨i0, hi, hz0, hz1, hz2⟩ := info_parts u8_info
 have HT : Hid _ := two_cells' h0 h1
 go_enter Tryz.func64, Tryz.ntmps64
 go_wp2_with (at_builtin; refine wpList_append_grew _ rfl _ _ 32 rfl 5 i0 (.int .u8 0) 1 1 und_bytes hi hz0 hz1 hz2 rfl (by decide) v n xs rfl ⟨w.heap.size, 0, none⟩ 2 2 [.int .u8 (x / 256), .int .u8 (x % 256)] rfl rfl one2 (hown.alloc _) (cell_two_new _ _ _ _) (by unfold maxLen; omega) (by omega) ?_; intro v' w' hg)
 go_ret
 rw [HT.out]
 exact ⟨_, rfl, hg.pre (World.grownBy_alloc _ _ _)⟩
theorem Grew.box {e : TypeId} {sz : Nat} {w w' : World} {v v' : Value} {n : Nat} {x : List Value} {b : Nat} {o : Obj} (h : Grew e sz w w' v v' n x) (hb : w.heap[b]? = some o ∧ v.ownBlock ≠ some b) : w'.heap[b]? = some o ∧ v'.ownBlock ≠ some b := by
 have hlt : b < w.heap.size := (Array.getElem?_eq_some_iff.1 hb.1).1
 have := h.keeps hlt hb.2
 exact ⟨this.1.trans hb.1, this.2.1⟩
theorem addQ_any (v : Value) (n : Nat) (xs : List Value) (s : ByteArray) (k c : Int) (w : World) (hk0 : 0 ≤ k) (hk1 : k ≤ 65535) (hc0 : 0 ≤ c) (hc1 : c ≤ 65535) (hs : s.size ≤ 255) (hown : w.ownsRow 0 5 1 v n xs) (hn : n ≤ 10000) :
  Calls Tryz.prog 65 #[v, .agg #[.string s, .int .u16 k, .int .u16 c]] w fun e w' => ∃ v', e = .returned v' ∧ Grew 5 1 w w' v v' (n + (qbytes ⟨s, k, c⟩).length) (xs ++ bytesV (qbytes ⟨s, k, c⟩)) := by
 obtain ⟨i0, hi, hz0, hz1, hz2⟩ := info_parts u8_info
 go_enter Tryz.func65, Tryz.ntmps65
 go_wp2_with (at_builtin; refine wpList_append_grew_string _ rfl _ _ 32 9 rfl 5 i0 und_bytes und_string hi hz0 hz1 hz2 v n xs rfl s rfl (hown.alloc _) (by unfold maxLen; omega) (by omega) ?_; intro v1 w1 g1; have b1 := Grew.box g1 ⟨hn_ _ _, own_ne hown (Nat.le_refl _)⟩; have c1 := bc_ b1.1; have B1 := hide b1; clear b1)
 refine (addShort_any _ _ _ _ _ hk0 hk1 g1.own (by omega)).mono ?_
 rintro e w2 ⟨v2, rfl, g2⟩
 have b2 := Grew.box g2 (unhide B1)
 have c2 := bc_ b2.1
 clear c1
 have B2 := hide b2
 clear b2
 go_wp2_with fail
 refine (addShort_any _ _ _ _ _ hc0 hc1 g2.own (by omega)).mono ?_
 rintro e w3 ⟨v3, rfl, g3⟩
 clear c2
 go_wp2_with fail
 go_ret
 have g := ((g1.trans g2).trans g3).pre (World.grownBy_alloc w _ _)
 have e1 : n + s.size + 2 + 2 = n + (qbytes ⟨s, k, c⟩).length := by rw [length_qbytes]; show _ = n + (s.size + 4); omega
 have e2 : xs ++ Lib.strCells s ++ bytesV (two k) ++ bytesV (two c) = xs ++ bytesV (qbytes ⟨s, k, c⟩) := by
  simp only [qbytes, bytesV_append, strCells_bytesV, List.append_assoc]
 rw [e1, e2] at g
 exact ⟨_, rfl, g⟩
theorem wrapU16 (x : Int) : IntKind.u16.wrap x = x % 65536 := by
 simp [IntKind.wrap, IntKind.signed, IntKind.bits]
theorem addR_any (v : Value) (n : Nat) (xs : List Value) (s : ByteArray) (k c t : Int) (d : ByteArray) (w : World) (hk0 : 0 ≤ k) (hk1 : k ≤ 65535) (hc0 : 0 ≤ c) (hc1 : c ≤ 65535) (ht0 : 0 ≤ t) (ht1 : t ≤ 4294967295) (hs : s.size ≤ 255) (hd : d.size ≤ 512) (hown : w.ownsRow 0 5 1 v n xs) (hn : n ≤ 10000) :
  Calls Tryz.prog 66 #[v, .agg #[.string s, .int .u16 k, .int .u16 c, .int .u32 t, .string d]] w fun e w' => ∃ v', e = .returned v' ∧ Grew 5 1 w w' v v' (n + (rbytes ⟨s, k, c, t, d⟩).length) (xs ++ bytesV (rbytes ⟨s, k, c, t, d⟩)) := by
 obtain ⟨i0, hi, hz0, hz1, hz2⟩ := info_parts u8_info
 have HT : Hid (t ≤ 4294967295) := ht1
 clear ht1
 go_enter Tryz.func66, Tryz.ntmps66
 go_wp2_with (at_builtin; refine wpList_append_grew_string _ rfl _ _ 32 9 rfl 5 i0 und_bytes und_string hi hz0 hz1 hz2 v n xs rfl s rfl (hown.alloc _) (by unfold maxLen; omega) (by omega) ?_; intro v1 w1 g1; have b1 := Grew.box g1 ⟨hn_ _ _, own_ne hown (Nat.le_refl _)⟩; have c1 := bc_ b1.1; have B1 := hide b1; clear b1)
 refine (addShort_any _ _ _ _ _ hk0 hk1 g1.own (by omega)).mono ?_
 rintro e w2 ⟨v2, rfl, g2⟩
 have b2 := Grew.box g2 (unhide B1)
 have c2 := bc_ b2.1
 clear c1
 have B2 := hide b2
 clear b2
 go_wp2_with fail
 refine (addShort_any _ _ _ _ _ hc0 hc1 g2.own (by omega)).mono ?_
 rintro e w3 ⟨v3, rfl, g3⟩
 have b3 := Grew.box g3 (unhide B2)
 have c3 := bc_ b3.1
 clear c2
 have B3 := hide b3
 clear b3
 go_wp2_with fail
 rw [wrapU16, show t / 65536 % 65536 = t / 65536 from by have := HT.out; omega]
 refine (addShort_any _ _ _ _ _ (by omega) (by have := HT.out; omega) g3.own (by omega)).mono ?_
 rintro e w4 ⟨v4, rfl, g4⟩
 have b4 := Grew.box g4 (unhide B3)
 have c4 := bc_ b4.1
 clear c3
 have B4 := hide b4
 clear b4
 go_wp2_with fail
 first | rw [wrapU16] | skip
 refine (addShort_any _ _ _ _ _ (by omega) (by omega) g4.own (by omega)).mono ?_
 rintro e w5 ⟨v5, rfl, g5⟩
 have b5 := Grew.box g5 (unhide B4)
 have c5 := bc_ b5.1
 clear c4
 have B5 := hide b5
 clear b5
 go_wp2_with fail
 refine (addShort_any _ _ _ _ _ (by omega) (by omega) g5.own (by omega)).mono ?_
 rintro e w6 ⟨v6, rfl, g6⟩
 have b6 := Grew.box g6 (unhide B5)
 have c6 := bc_ b6.1
 clear c5 b6
 have o6 := g6.own
 go_wp2_with (at_builtin; refine wpList_append_grew_string _ rfl _ _ 32 9 rfl 5 i0 und_bytes und_string hi hz0 hz1 hz2 v6 _ _ rfl d rfl o6 (by unfold maxLen; omega) (by omega) ?_; intro v7 w7 g7)
 go_ret
 have g := ((((((g1.trans g2).trans g3).trans g4).trans g5).trans g6).trans g7).pre (World.grownBy_alloc w _ _)
 have e1 : n + s.size + 2 + 2 + 2 + 2 + 2 + d.size = n + (rbytes ⟨s, k, c, t, d⟩).length := by rw [length_rbytes]; show _ = n + (s.size + 10 + d.size); omega
 have e2 : xs ++ Lib.strCells s ++ bytesV (two k) ++ bytesV (two c) ++ bytesV (two (t / 65536)) ++ bytesV (two (t % 65536)) ++ bytesV (two d.size) ++ Lib.strCells d = xs ++ bytesV (rbytes ⟨s, k, c, t, d⟩) := by
  simp only [rbytes, bytesV_append, strCells_bytesV, List.append_assoc]
 rw [e1, e2] at g
 exact ⟨_, rfl, g⟩
theorem withQ_yes (size : Int) (q : Qn) (w : World) (h0 : 0 ≤ size) (h1 : size ≤ 512) (hq : WfQ q) (hn : nameB q.name = true) (hl : size + (q.name.size + 4) ≤ 512) :
  Calls Tryz.prog 95 #[.int .i64 size, .agg #[.string q.name, .int .u16 q.kind, .int .u16 q.cls]] w fun e w' => e = .returned (.tuple #[.int .i64 (size + (q.name.size + 4)), .bool true]) ∧ Below w.heap.size w w' := by
 have h := withQ_any size q.name q.kind q.cls w h0 h1 (by have := hq.name; unfold maxLen; omega)
 refine h.mono fun e w' ⟨he, hb⟩ => ⟨?_, hb⟩
 rw [he, withQ, if_pos hn, decide_eq_true hl]
theorem withQ_no (size : Int) (q : Qn) (w : World) (h0 : 0 ≤ size) (h1 : size ≤ 512) (hq : WfQ q) (hn : nameB q.name = false ∨ 512 < size + (q.name.size + 4)) :
  Calls Tryz.prog 95 #[.int .i64 size, .agg #[.string q.name, .int .u16 q.kind, .int .u16 q.cls]] w fun e w' => ∃ r, e = .returned (.tuple #[.int .i64 r, .bool false]) ∧ Below w.heap.size w w' := by
 have h := withQ_any size q.name q.kind q.cls w h0 h1 (by have := hq.name; unfold maxLen; omega)
 refine h.mono fun e w' ⟨he, hb⟩ => ?_
 rw [he, withQ]
 rcases hn with hn | hn
 ·rw [if_neg (by rw [hn]; exact Bool.false_ne_true)]; exact ⟨_, rfl, hb⟩
 ·split
  ·exact ⟨_, by rw [decide_eq_false (by simp only []; omega)], hb⟩
  ·exact ⟨_, rfl, hb⟩
theorem withR_yes (size : Int) (r : Rc) (w : World) (h0 : 0 ≤ size) (h1 : size ≤ 512) (hr : WfR r) (hn : okR r = true) (hl : size + (r.name.size + 10 + r.data.size) ≤ 512) :
  Calls Tryz.prog 96 #[.int .i64 size, .agg #[.string r.name, .int .u16 r.kind, .int .u16 r.cls, .int .u32 r.ttl, .string r.data]] w fun e w' => e = .returned (.tuple #[.int .i64 (size + (r.name.size + 10 + r.data.size)), .bool true]) ∧ Below w.heap.size w w' := by
 have h := withR_any size r.name r.kind r.cls r.ttl r.data w h0 h1 (by have := hr.name; unfold maxLen; omega) (by have := hr.data; unfold maxLen; omega)
 refine h.mono fun e w' ⟨he, hb⟩ => ⟨?_, hb⟩
 have : (okR r && decide (r.data.size ≤ 512)) = true := by rw [hn, decide_eq_true (by omega)]; rfl
 rw [he, withR, if_pos this, decide_eq_true hl]
theorem withR_no (size : Int) (r : Rc) (w : World) (h0 : 0 ≤ size) (h1 : size ≤ 512) (hr : WfR r) (hn : okR r = false ∨ 512 < size + (r.name.size + 10 + r.data.size)) :
  Calls Tryz.prog 96 #[.int .i64 size, .agg #[.string r.name, .int .u16 r.kind, .int .u16 r.cls, .int .u32 r.ttl, .string r.data]] w fun e w' => ∃ x, e = .returned (.tuple #[.int .i64 x, .bool false]) ∧ Below w.heap.size w w' := by
 have h := withR_any size r.name r.kind r.cls r.ttl r.data w h0 h1 (by have := hr.name; unfold maxLen; omega) (by have := hr.data; unfold maxLen; omega)
 refine h.mono fun e w' ⟨he, hb⟩ => ?_
 rw [he, withR]
 rcases hn with hn | hn
 ·rw [if_neg (by rw [show okR (⟨r.name, r.kind, r.cls, r.ttl, r.data⟩ : Rc) = false from hn]; exact Bool.false_ne_true)]; exact ⟨_, rfl, hb⟩
 ·split
  ·exact ⟨_, by rw [decide_eq_false (by simp only []; omega)], hb⟩
  ·exact ⟨_, rfl, hb⟩
theorem all_snoc {α : Type} {p : α → Bool} {l : List α} {k : Nat} {x : α} (h : (l.take k).all p = true) (hx : l[k]? = some x) (hp : p x = true) : (l.take (k + 1)).all p = true := by
 rw [take_snoc l k x hx, List.all_append, h]; simp [hp]
theorem bx0 {w wr : World} {o : Obj} (h : Below (w.heap.size + 1) (w.alloc o) wr) : wr.heap[w.heap.size]? = some o := by
 rw [h.block _ (by omega)]; exact hn_ _ _
theorem bx1 {w wr : World} {o : Obj} (h : Below (w.heap.size + 1) (w.alloc o) wr) : Below w.heap.size w wr :=
 ((Below.refl _ _).alloc (Nat.le_refl _) o).trans (h.mono (by omega))
theorem bx2 {w wr : World} {o : Obj} (h : Below (w.heap.size + 1) (w.alloc o) wr) : w.heap.size + 1 ≤ wr.heap.size := by
 have := h.size; simpa using this
theorem packedSize_any (m : Msg) (vq va vu vx : Value) (w : World) (hwf : WfM m) (hat : MsgAt w m vq va vu vx) :
  Calls Tryz.prog 60 #[.agg (mc_ m vq va vu vx)] w fun e w' => Below w.heap.size w w' ∧ ∃ r, e = .returned (.tuple #[.int .i64 r, .bool (packOk m)]) ∧ (packOk m = true → r = 12 + (body m).length) := by
 obtain ⟨aq, cq, hvq, -, hq⟩ := hat.q
 obtain ⟨aa, ca, hva, -, ha⟩ := hat.a
 obtain ⟨au, cu, hvu, -, hu⟩ := hat.u
 obtain ⟨ax, cx, hvx, -, hx⟩ := hat.x
 rw [List.length_map] at hvq hva hvu hvx
 subst hvq hva hvu hvx
 have hop0 := hwf.op0
 have hop1 := hwf.op1
 have hco0 := hwf.code0
 have hco1 := hwf.code1
 have hnq := hwf.nq
 have hna := hwf.na
 have hnu := hwf.nu
 have hnx := hwf.nx
 by_cases hr : 0 ≤ m.op ∧ m.op ≤ 15 ∧ 0 ≤ m.code ∧ m.code ≤ 15
 ·obtain ⟨r1, r2, r3, r4⟩ := hr
  go_enter Tryz.func60, Tryz.ntmps60
  unfold mc_
  go_wp2
  go_loopw [4, 5, 33] (fun s ok i wr => ∃ k : Nat, i = .int .i64 k ∧ k ≤ m.qs.length ∧ s = .int .i64 (12 + (qlen (m.qs.take k) : Int)) ∧ ok = .bool true ∧ Below (w.heap.size + 1) (w.alloc (.cells (mc_ m (.slice aq m.qs.length cq) (.slice aa m.an.length ca) (.slice au m.au.length cu) (.slice ax m.ex.length cx)) 30)) wr ∧ 12 + qlen (m.qs.take k) ≤ 512 ∧ Hid ((m.qs.take k).all okQ = true)) (fun _ _ i _ => m.qs.length - (intOf i).toNat)
  case atStart => exact ⟨0, rfl, Nat.zero_le _, rfl, rfl, Below.refl _ _, by simp [qlen], rfl⟩
  case round =>
   obtain ⟨k, rfl, hk, rfl, rfl, hb, hle, hall⟩ := hrel
   by_cases hlt : k < m.qs.length
   ·obtain ⟨q, hqk⟩ : ∃ q, m.qs[k]? = some q := ⟨_, List.getElem?_eq_getElem hlt⟩
    rcases hq with hq | ⟨b, off, rfl, hbw, hq⟩
    ·rw [List.map_eq_nil_iff] at hq; rw [hq] at hlt; simp at hlt
    ·have hwq := hwf.qs q (List.mem_of_getElem? hqk)
     obtain ⟨c0, c1, c2⟩ := Lies.qat hq hqk
     rw [← (bx1 hb).cell (p := ⟨b, off + k * 3, none⟩) hbw] at c0
     rw [← (bx1 hb).cell (p := ⟨b, off + k * 3 + 1, none⟩) hbw] at c1
     rw [← (bx1 hb).cell (p := ⟨b, off + k * 3 + 2, none⟩) hbw] at c2
     have hsz := bx2 hb
     by_cases hy : nameB q.name = true ∧ 12 + (qlen (m.qs.take k) : Int) + (q.name.size + 4) ≤ 512
     ·have hnext : Hid ((m.qs.take (k + 1)).all okQ = true) := all_snoc hall.out hqk hy.1
      have hql : Hid (qlen (m.qs.take (k + 1)) = qlen (m.qs.take k) + (q.name.size + 4)) := by
       show _ = _
       rw [take_snoc _ _ _ hqk, qlen_append, qlen_one]
      go_wp2_with fail
      refine (withQ_yes _ q _ (by omega) (by omega) hwq hy.1 hy.2).mono ?_
      rintro e w1 ⟨rfl, hb1⟩
      go_wp2_with fail
      have hz := hb1.size
      refine ⟨⟨k + 1, by go_num, by omega, by rw [hql.out]; go_num, rfl, ?_, by rw [hql.out]; omega, hnext⟩, by simp [intOf]; omega⟩
      exact (hb.alloc (by omega) _).trans (hb1.mono (by simp; omega))
     ·have hno : Hid (packOk m = false) := pack_q_no (split_at _ _ _ hqk) (by
       rcases Classical.not_and_iff_not_or_not.1 hy with h | h
       ·exact .inl (by simpa using h)
       ·exact .inr (by omega))
      have hy' : nameB q.name = false ∨ 512 < 12 + (qlen (m.qs.take k) : Int) + (q.name.size + 4) := by
       rcases Classical.not_and_iff_not_or_not.1 hy with h | h
       ·exact .inl (by simpa using h)
       ·exact .inr (by omega)
      clear hy
      go_wp2_with fail
      refine (withQ_no _ q _ (by omega) (by omega) hwq hy').mono ?_
      rintro e w1 ⟨r, rfl, hb1⟩
      go_wp2_with fail
      go_ret2
      refine ⟨?_, 0, by rw [hno.out]; rfl, fun h => by rw [hno.out] at h; cases h⟩
      exact ((bx1 hb).alloc (by omega) _).trans (hb1.mono (by simp; omega))
   ·have hcb := bc_ (bx0 hb)
    simp only [mc_] at hcb
    have hkq : Hid (k = m.qs.length) := by show _ = _; omega
    go_wp2_with fail
    obtain ⟨wa, rfl⟩ : ∃ wa : World, wa = wr := ⟨_, rfl⟩
    have hsa := bx2 hb
    have HB : Hid _ := hb
    have HC : Hid _ := hcb
    clear hb hcb
    go_loopw [4, 5, 54] (fun s ok i wb => ∃ j : Nat, i = .int .i64 j ∧ j ≤ 3 ∧ s = .int .i64 (12 + (qlen m.qs : Int) + (rlen (preR m j) : Int)) ∧ ok = .bool true ∧ Below (wa.heap.size + 1) (wa.alloc (.cells #[.slice aa m.an.length ca, .slice au m.au.length cu, .slice ax m.ex.length cx] 28)) wb ∧ 12 + qlen m.qs + rlen (preR m j) ≤ 512 ∧ Hid ((preR m j).all okR = true)) (fun _ _ i _ => 3 - (intOf i).toNat)
    case atStart => exact ⟨0, rfl, Nat.zero_le _, by rw [hkq.out, List.take_length]; simp [preR, rlen], rfl, Below.refl _ _, by rw [hkq.out, List.take_length] at hle; simpa [preR, rlen] using hle, rfl⟩
    case round =>
     obtain ⟨j, rfl, hj, rfl, rfl, hb2, hle2, hall2⟩ := hrel
     by_cases hj3 : j < 3
     ·obtain ⟨L, v, hv, hL, hpre, ⟨B, hrecs⟩, hlen⟩ := list_at hat hwf j hj3
      obtain ⟨aL, cL, rfl, -, hL⟩ := hL
      rw [List.length_map] at hv
      have ci := bc_ (bx0 hb2) j
      rw [hv] at ci
      have HV := hide hv
      clear hv
      have hj3b : decide ((j : Int) < 3) = true := decide_eq_true (by omega)
      go_wp2_with fail
      obtain ⟨wb, rfl⟩ : ∃ wb : World, wb = wr := ⟨_, rfl⟩
      have HB2 : Hid _ := hb2
      have hsb := bx2 hb2
      clear hb2 ci
      go_loopw [4, 5, 60] (fun s ok i wc => ∃ k : Nat, i = .int .i64 k ∧ k ≤ L.length ∧ s = .int .i64 (12 + (qlen m.qs : Int) + (rlen (preR m j ++ L.take k) : Int)) ∧ ok = .bool true ∧ Below (wa.heap.size + 1) wb wc ∧ 12 + qlen m.qs + rlen (preR m j ++ L.take k) ≤ 512 ∧ Hid ((preR m j ++ L.take k).all okR = true)) (fun _ _ i _ => L.length - (intOf i).toNat)
      case atStart => exact ⟨0, rfl, Nat.zero_le _, by simp, rfl, Below.refl _ _, by simpa using hle2, by show _ = _; rw [List.take_zero, List.append_nil]; exact hall2.out⟩
      case round =>
       obtain ⟨k2, rfl, hk2, rfl, rfl, hb3, hle3, hall3⟩ := hrel
       have hbw : Below w.heap.size w wr := (bx1 HB.out).trans (((bx1 HB2.out).mono (by omega)).trans (hb3.mono (by omega)))
       have HBW := hide hbw
       have hsc := hb3.size
       by_cases hlt2 : k2 < L.length
       ·obtain ⟨r, hrk⟩ : ∃ r, L[k2]? = some r := ⟨_, List.getElem?_eq_getElem hlt2⟩
        rcases hL with hL | ⟨b, off, rfl, hbb, hL⟩
        ·rw [List.map_eq_nil_iff] at hL; rw [hL] at hlt2; simp at hlt2
        ·have hsplit : Hid (recs m = (preR m j ++ L.take k2) ++ r :: (L.drop (k2 + 1) ++ B)) := by
          show _ = _
          rw [hrecs]
          conv => lhs; rw [split_at L k2 r hrk]
          simp
         have hwr := hwf.rs r (by rw [hsplit.out]; simp)
         obtain ⟨c0, c1, c2, c3, c4⟩ := Lies.rat hL hrk
         rw [← hbw.cell (p := ⟨b, off + k2 * 5, none⟩) hbb] at c0
         rw [← hbw.cell (p := ⟨b, off + k2 * 5 + 1, none⟩) hbb] at c1
         rw [← hbw.cell (p := ⟨b, off + k2 * 5 + 2, none⟩) hbb] at c2
         rw [← hbw.cell (p := ⟨b, off + k2 * 5 + 3, none⟩) hbb] at c3
         rw [← hbw.cell (p := ⟨b, off + k2 * 5 + 4, none⟩) hbb] at c4
         clear hbw
         have hwL : w.heap.size + 1 ≤ wr.heap.size := by omega
         by_cases hy : okR r = true ∧ 12 + (qlen m.qs : Int) + (rlen (preR m j ++ L.take k2) : Int) + (r.name.size + 10 + r.data.size) ≤ 512
         ·have hnext : Hid ((preR m j ++ L.take (k2 + 1)).all okR = true) := by
           show _ = _
           rw [take_snoc _ _ _ hrk, ← List.append_assoc, List.all_append, hall3.out]; simp [hy.1]
          have hql : Hid (rlen (preR m j ++ L.take (k2 + 1)) = rlen (preR m j ++ L.take k2) + (r.name.size + 10 + r.data.size)) := by
           show _ = _
           rw [take_snoc _ _ _ hrk, ← List.append_assoc, rlen_append, rlen_one]
          go_wp2_with fail
          refine (withR_yes _ r _ (by omega) (by omega) hwr hy.1 hy.2).mono ?_
          rintro e w1 ⟨rfl, hb4⟩
          go_wp2_with fail
          have hz := hb4.size
          refine ⟨⟨k2 + 1, by go_num, by omega, by rw [hql.out]; go_num, rfl, ?_, by rw [hql.out]; omega, hnext⟩, by simp [intOf]; omega⟩
          exact (hb3.alloc (by omega) _).trans (hb4.mono (by simp; omega))
         ·have hno : Hid (packOk m = false) := pack_r_no hsplit.out (by
           rcases Classical.not_and_iff_not_or_not.1 hy with h | h
           ·exact .inl (by simpa using h)
           ·exact .inr (.inr (by omega)))
          have hy' : okR r = false ∨ 512 < 12 + (qlen m.qs : Int) + (rlen (preR m j ++ L.take k2) : Int) + (r.name.size + 10 + r.data.size) := by
           rcases Classical.not_and_iff_not_or_not.1 hy with h | h
           ·exact .inl (by simpa using h)
           ·exact .inr (by omega)
          clear hy
          go_wp2_with fail
          refine (withR_no _ r _ (by omega) (by omega) hwr hy').mono ?_
          rintro e w1 ⟨x, rfl, hb4⟩
          go_wp2_with fail
          go_ret2
          refine ⟨?_, 0, by rw [hno.out]; rfl, fun h => by rw [hno.out] at h; cases h⟩
          exact (HBW.out.alloc (by omega) _).trans (hb4.mono (by simp; omega))
       ·have hkl : k2 = L.length := by omega
        subst hkl
        go_wp2_with fail
        rw [List.take_length] at hle3 hall3
        exact ⟨⟨j + 1, by go_num, by omega, by rw [hpre, List.take_length], rfl, HB2.out.trans hb3, by rw [hpre]; exact hle3, by rw [hpre]; exact hall3⟩, by simp [intOf]; omega⟩
     ·have hj' : j = 3 := by omega
      subst hj'
      have hyes : Hid (packOk m = true) := by
       refine pack_yes ?_ ?_ ?_ ?_
       ·unfold inRange; exact decide_eq_true ⟨r1, r2, r3, r4⟩
       ·have := hall.out; rw [hkq.out, List.take_length] at this; exact this
       ·have := hall2.out; rw [preR_all] at this; exact this
       ·rw [preR_all] at hle2; exact hle2
      go_wp2_with fail
      go_ret2
      refine ⟨(bx1 HB.out).trans ((bx1 hb2).mono (by omega)), 12 + ((body m).length : Int), ?_, fun _ => rfl⟩
      rw [hyes.out, body_length, ← preR_all, Int.natCast_add, ← Int.add_assoc]
      rfl
 ·have hno : Hid (packOk m = false) := pack_range_no (by unfold inRange; exact decide_eq_false hr)
  have hr' : m.op < 0 ∨ 15 < m.op ∨ m.code < 0 ∨ 15 < m.code := by omega
  clear hr
  go_enter Tryz.func60, Tryz.ntmps60
  unfold mc_
  go_wp2
  all_goals first | (exfalso; omega) | skip
  all_goals go_ret2
  all_goals exact ⟨(Below.refl _ _).alloc (Nat.le_refl _) _, 0, by rw [hno.out]; rfl, fun h => by rw [hno.out] at h; cases h⟩
end Go.Proofs.YtafoepfhepdcoaaGreat
