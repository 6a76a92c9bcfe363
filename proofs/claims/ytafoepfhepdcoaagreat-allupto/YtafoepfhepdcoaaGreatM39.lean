import Derived.Test.YtafoepfhepdcoaaGreatM18
import Derived.Test.YtafoepfhepdcoaaGreatM33
set_option maxRecDepth 100000
set_option maxHeartbeats 8000000
namespace Go.Proofs.YtafoepfhepdcoaaGreat
open Go.RowKit Go.Trawl
theorem small_any (c : Nat) (hc : c < 256) (w : World) :
  Calls Tryz.prog 152 #[.int .u8 c] w fun e w' => e = .returned (.int .u8 (low c)) ∧ w' = w := by
 by_cases h1 : 65 ≤ c
 ·by_cases h2 : c ≤ 90
  ·have HL : Hid (((low c : Nat) : Int) = (c : Int) + 32) := by unfold Hid low; rw [if_pos ⟨h1, h2⟩]; omega
   go_enter Tryz.func152, Tryz.ntmps152
   go_wp2
   go_ret
   exact ⟨ret_int (by rw [HL.out]; omega), rfl⟩
  ·have HL : Hid (low c = c) := by unfold Hid low; rw [if_neg (by omega)]
   go_enter Tryz.func152, Tryz.ntmps152
   go_wp2
   go_ret
   exact ⟨ret_int (by rw [HL.out]), rfl⟩
 ·have HL : Hid (low c = c) := by unfold Hid low; rw [if_neg (by omega)]
  go_enter Tryz.func152, Tryz.ntmps152
  go_wp2
  go_ret
  exact ⟨ret_int (by rw [HL.out]), rfl⟩
theorem q_same (a b : ByteArray) (ha : a.size ≤ 2097152) (w : World) :
  Calls Tryz.prog 117 #[.string a, .string b] w fun e w' => e = .returned (.bool (sameB a b)) ∧ ∃ n, w' = w.drewN n := by
 by_cases hsz : a.size = b.size
 ·have HT : Hid ((∀ i, i < a.size → low (at8 a i) = low (at8 b i)) → sameB a b = true) := fun h => sameB_true hsz h
  go_enter Tryz.func117, Tryz.ntmps117
  go_wp2_with fail
  go_loopw [13] (fun i wr => ∃ k : Nat, i = .int .i64 k ∧ k ≤ a.size ∧ Hid (∃ n, wr = w.drewN n) ∧ Hid (∀ i, i < k → low (at8 a i) = low (at8 b i))) (fun i _ => a.size - (intOf i).toNat)
  case atStart => exact ⟨0, rfl, Nat.zero_le _, ⟨0, rfl⟩, fun i hi => by omega⟩
  case round =>
   obtain ⟨k, rfl, hk, HW, HE⟩ := hrel
   by_cases hlt : k < a.size
   ·have hidx := idx a k hlt
    have hidx2 := idx b k (by omega)
    have l1 := at8_lt a k
    have l2 := at8_lt b k
    have hltb : k < b.size := by omega
    go_wp2_with fail
    go_quiet ((go_at_call 152; exact Calls.quiet_of_same (small_any _ (by omega) _)))
    by_cases he : low (at8 a k) = low (at8 b k)
    ·have HE2 := hide he
     go_wp2_with fail
     refine ⟨⟨k + 1, by go_num, by omega, ?_, fun i hi => ?_⟩, by simp [intOf]; omega⟩
     ·obtain ⟨n, hn⟩ := HW.out
      exact ⟨n + nq, by rw [hn, World.drewN_drewN]⟩
     ·by_cases hik : i = k
      ·rw [hik]; exact HE2.out
      ·exact HE.out i (by omega)
    ·have HF : Hid (sameB a b = false) := sameB_at hlt he
     have hb9 : ((low (at8 a k) : Int) != (low (at8 b k) : Int)) = true := by simp; omega
     go_wp2_with fail
     go_ret
     obtain ⟨n, hn⟩ := HW.out
     exact ⟨ret_bool HF.out.symm, n + nq, by rw [hn, World.drewN_drewN]⟩
   ·go_wp2_with fail
    go_ret
    exact ⟨ret_bool (HT.out (fun i hi => HE.out i (by omega))).symm, HW.out⟩
 ·have HF : Hid (sameB a b = false) := sameB_size hsz
  go_enter Tryz.func117, Tryz.ntmps117
  go_wp2_with fail
  go_ret
  exact ⟨ret_bool HF.out.symm, 0, rfl⟩
theorem from_size (s : ByteArray) (i : Nat) : (from_ s i).size = s.size - i := by
 unfold from_
 rw [ByteArray.size_extract]
 omega
theorem liesN_short (name zone : ByteArray) : ∀ n i, name.size - i < zone.size → liesN name zone n i = false
 | 0, _, _ => rfl
 | n + 1, i, h => by
  unfold liesN
  rw [sameB_size (by rw [from_size]; omega), liesN_short name zone n _ (by omega)]
  simp
theorem liesN_end {name zone : ByteArray} {i : Nat} (h : NameAt name i) (hs : name.size - i ≤ zone.size) : liesN name zone name.size i = sameB (from_ name i) zone := by
 rw [liesN_step h, liesN_short name zone _ _ (by have := h.lt; omega)]
 simp
theorem liesN_next {name zone : ByteArray} {i : Nat} (h : NameAt name i) (h0 : at8 name i ≠ 0) (hs : zone.size < name.size - i) : liesN name zone name.size i = liesN name zone name.size (i + 1 + at8 name i) := by
 rw [liesN_step h, sameB_size (by rw [from_size]; omega)]
 simp [h0]
theorem from_from (s : ByteArray) (i k : Nat) (h : i < s.size) : (from_ s i).extract k (from_ s i).size = from_ s (i + k) := by
 rw [from_size]
 unfold from_
 rw [ByteArray.extract_extract]
 congr 1
 omega
theorem from_at (s : ByteArray) (i : Nat) (h : i < s.size) : at8 (from_ s i) 0 = at8 s i := by
 unfold at8 from_
 rw [ByteArray.data_extract]
 simp only [Array.getD, Array.size_extract]
 have h3 : i < s.size := h
 simp [show 0 < s.size - i by omega, h3]
theorem nameAt_last {s : ByteArray} {i : Nat} (h : NameAt s i) (h0 : at8 s i = 0) : i + 1 = s.size := by
 have := behind_stop s i (by omega)
 have h2 := h.last
 rw [this] at h2
 exact h2
theorem q_liesIn (name zone : ByteArray) (hn : nameB name = true) (hz : nameB zone = true) (w : World) :
  Calls Tryz.prog 155 #[.string name, .string zone] w fun e w' => e = .returned (.bool (liesB name zone)) ∧ ∃ n, w' = w.drewN n := by
 have h0 := nameB_at hn
 have hs := (nameB_size hn)
 have hzs := (nameB_size hz)
 have HL0 : Hid (liesB name zone = liesN name zone name.size 0) := by
  unfold Hid liesB
  exact liesN_enough name zone _ _ 0 h0 (by omega) (by omega)
 have HE0 : Hid (name = from_ name 0) := by
  unfold Hid from_
  rw [ByteArray.extract_zero_size]
 have HN0 := hide h0
 clear h0
 go_enter Tryz.func155, Tryz.ntmps155
 go_wp2_with fail
 go_loopw [0] (fun v wr => ∃ k : Nat, v = .string (from_ name k) ∧ k < name.size ∧ Hid (NameAt name k) ∧ wr = w ∧ Hid (liesB name zone = liesN name zone name.size k)) (fun v _ => match v with | .string s => s.size | _ => 0)
 case atStart => exact ⟨0, by rw [← HE0.out], by omega, HN0.out, rfl, HL0.out⟩
 case round =>
  obtain ⟨k, rfl, hk, HN, hwr, HL⟩ := hrel
  subst hwr
  have hfs := from_size name k
  have l1 := at8_lt name k
  by_cases hgt : zone.size < name.size - k
  ·have h0 : at8 name k ≠ 0 := fun e => by have := nameAt_last HN.out e; omega
   obtain ⟨hnx, h63⟩ := HN.out.next h0
   have HNX := hide hnx
   have hnl := hnx.lt
   have HLX : Hid (liesB name zone = liesN name zone name.size (k + 1 + at8 name k)) := HL.out.trans (liesN_next HN.out h0 hgt)
   have hidx : ∀ W, (Instr.index 9 (.string (from_ name k)) (.int .i64 0)).run Tryz.prog W = .ok (.int .u8 (at8 name k)) W := fun W => by
    have := idx (from_ name k) 0 (by omega) W
    rw [from_at name k hk] at this
    exact this
   have hfx := from_from name k (1 + at8 name k) hk
   rw [show k + (1 + at8 name k) = k + 1 + at8 name k by omega] at hfx
   have HFX := hide hfx
   have hszx := from_size name (k + 1 + at8 name k)
   clear hnx hfx
   generalize hfn : from_ name k = fn at *
   go_wp2_with fail
   have hx : fn.extract (1 + at8 name k) (name.size - k) = from_ name (k + 1 + at8 name k) := by rw [← hfs]; exact HFX.out
   rw [hx]
   refine ⟨⟨k + 1 + at8 name k, rfl, hnl, HNX.out, trivial, HLX.out⟩, ?_⟩
   show (from_ name (k + 1 + at8 name k)).size < fn.size
   omega
  ·have HLX : Hid (liesB name zone = sameB (from_ name k) zone) := HL.out.trans (liesN_end HN.out (by omega))
   have hle : (from_ name k).size ≤ zone.size := by omega
   go_wp2_with fail
   refine (q_same (from_ name k) zone (by omega) _).mono ?_
   rintro e w1 ⟨rfl, n1, hw1⟩
   go_wp2_with fail
   go_ret
   exact ⟨ret_bool HLX.out.symm, n1, rfl⟩
def Tests (w : World) (K : FuncId) (cap : Array Value) (P : Rc → Bool) (l : List Rc) : Prop :=
 ∀ (W : World) (r : Rc), r ∈ l → Below w.heap.size w W → Calls Tryz.prog K (#[.agg #[.string r.name, .int .u16 r.kind, .int .u16 r.cls, .int .u32 r.ttl, .string r.data]] ++ cap) W fun e w' => e = .returned (.bool (P r)) ∧ Hid (Below W.heap.size W w')
theorem only_any (w : World) (v : Value) (l : List Rc) (K : FuncId) (cap : Array Value) (P : Rc → Bool) (hent : Enters Tryz.prog K) (hcl : Tests w K cap P l) (hl : l.length ≤ 65535) (hv : Lies w 5 v (l.map Rc.cells)) :
  Calls Tryz.prog 153 #[v, .func (.func K) #[] cap] w fun e w' => ∃ (a : Option Addr) (c : Nat), e = .returned (.slice a (l.filter P).length c) ∧ Hid (OL w w' (l.filter P) (.slice a (l.filter P).length c)) := by
 obtain ⟨i0, hi, hz0, hz1, hz2⟩ := info_parts rI0
 obtain ⟨av, cv, rfl, -, hv⟩ := hv
 rw [List.length_map]
 have HV := hide hv
 have HCL := hide hcl
 unfold Enters at hent
 have H0 : Hid (OL w w [] (.slice none 0 0)) := ⟨Below.refl _ _, World.ownsRow_nil _ _ _ _, fun g hg => by cases hg⟩
 clear hv hcl
 go_enter Tryz.func153, Tryz.ntmps153
 go_wp2_with fail
 go_loopw [5, 10] (fun u i wr => ∃ (k : Nat) (xs : List Rc) (a : Option Addr) (c : Nat), u = .slice a xs.length c ∧ i = .int .i64 k ∧ k ≤ l.length ∧ xs.length ≤ k ∧ Hid (xs = (l.take k).filter P) ∧ Hid (OL w wr xs (.slice a xs.length c))) (fun _ i _ => l.length - (intOf i).toNat)
 case atStart => exact ⟨0, [], none, 0, rfl, rfl, Nat.zero_le _, by simp, rfl, H0.out⟩
 case round =>
  obtain ⟨k, xs, a, c, rfl, rfl, hk, hxl, HX, HO⟩ := hrel
  by_cases hin : k < l.length
  ·obtain ⟨r, hr⟩ : ∃ r, l[k]? = some r := ⟨_, List.getElem?_eq_getElem hin⟩
   rcases HV.out with he | ⟨b, off, rfl, hbl, hc⟩
   ·exfalso; have := congrArg List.length he; simp at this; subst this; simp at hin
   obtain ⟨c0, c1, c2, c3, c4⟩ := Lies.rat hc hr
   have HM := hide (List.mem_of_getElem? hr)
   have HTK : Hid ((l.take (k + 1)).filter P = xs ++ [r].filter P) := by
    unfold Hid
    rw [take_snoc l k r hr, List.filter_append, HX.out]
   have t1 : ∀ o u, w.cell? ⟨b, o, none⟩ = some u → wr.cell? ⟨b, o, none⟩ = some u := fun o u => cell_of_heap (HO.out.below.block b hbl)
   replace c0 := t1 _ _ c0
   replace c1 := t1 _ _ c1
   replace c2 := t1 _ _ c2
   replace c3 := t1 _ _ c3
   replace c4 := t1 _ _ c4
   have hwz := HO.out.below.size
   have HOa : Hid (OL w (wr.alloc (.cells #[.string r.name, .int .u16 r.kind, .int .u16 r.cls, .int .u32 r.ttl, .string r.data] 69)) xs (.slice a xs.length c)) := ⟨HO.out.below.alloc hwz _, HO.out.own.alloc _, HO.out.new⟩
   have HR := hide (hn_ wr (.cells #[.string r.name, .int .u16 r.kind, .int .u16 r.cls, .int .u32 r.ttl, .string r.data] 69))
   obtain ⟨nm, kd, cl, tt, dt⟩ := r
   dsimp only at c0 c1 c2 c3 c4 HOa HR
   clear hc hr t1
   go_wp2_with fail
   refine (HCL.out _ ⟨nm, kd, cl, tt, dt⟩ HM.out HOa.out.below).mono ?_
   rintro e w2 ⟨rfl, HB2⟩
   have HO2 : Hid (OL w w2 xs (.slice a xs.length c)) := ⟨HOa.out.below.trans (HB2.out.mono HOa.out.below.size), own_below HOa.out.own HB2.out, HOa.out.new⟩
   have HR2 := hide ((HB2.out.block _ (hl_ HR.out)).trans HR.out)
   clear HB2 HOa HR c0 c1 c2 c3 c4
   have hcr := bc_ HR2.out
   by_cases hp : P ⟨nm, kd, cl, tt, dt⟩ = true
   ·rw [hp]
    have HP := hide hp
    clear hp
    go_wp2_with (at_builtin; refine wpList_append_grew _ rfl _ _ 28 rfl 69 i0 _ 5 40 uRs hi hz0 hz1 hz2 rfl (by decide) (.slice a xs.length c) xs.length ((xs.map Rc.cells).flatten) rfl ⟨w2.heap.size, 0, none⟩ 1 1 [.string nm, .int .u16 kd, .int .u16 cl, .int .u32 tt, .string dt] rfl rfl one_r5 (HO2.out.own.alloc _) (cells_new w2 #[.string nm, .int .u16 kd, .int .u16 cl, .int .u32 tt, .string dt] _) (by unfold maxLen; omega) (by omega) ?_; intro v5 w5 g5; obtain ⟨a5, c5, rfl⟩ := os_ g5.own; have HG5 := hide g5; clear g5)
    have hlen : (xs ++ [(⟨nm, kd, cl, tt, dt⟩ : Rc)]).length = xs.length + 1 := by simp
    refine ⟨⟨k + 1, xs ++ [⟨nm, kd, cl, tt, dt⟩], a5, c5, by rw [hlen], by go_num, by omega, by rw [hlen]; omega, ?_, ?_⟩, by simp [intOf]; omega⟩
    ·unfold Hid
     rw [HTK.out, List.filter_cons_of_pos HP.out, List.filter_nil]
    ·rw [hlen]
     exact HO2.out.next HG5.out
   ·have hp2 : P ⟨nm, kd, cl, tt, dt⟩ = false := by simpa using hp
    rw [hp2]
    have HP := hide hp
    clear hp hp2
    go_wp2_with fail
    refine ⟨⟨k + 1, xs, a, c, rfl, by go_num, by omega, by omega, ?_, HO2.out⟩, by simp [intOf]; omega⟩
    unfold Hid
    rw [HTK.out, List.filter_cons_of_neg HP.out, List.filter_nil, List.append_nil]
  ·go_wp2_with fail
   go_ret
   have e : xs = l.filter P := by rw [HX.out, List.take_of_length_le (by omega)]
   subst e
   exact ⟨_, _, rfl, HO.out⟩
attribute [local go_sem] mf
def credB (zone : ByteArray) (r : Rc) : Bool := decide (r.cls = 1) && liesB r.name zone
def kindB (name : ByteArray) (kind : Int) (r : Rc) : Bool := decide (r.kind = kind) && sameB r.name name
theorem cred1_any (W : World) (r : Rc) (cb blk : Nat) (zone : ByteArray) (hcb : W.cell? ⟨cb, 0, none⟩ = some (.pointer (some ⟨blk, 0, none⟩))) (hz : W.cell? ⟨blk, 4, none⟩ = some (.string zone)) (hbl : cb < W.heap.size) (hbk : blk < W.heap.size) (hn : nameB r.name = true) (hzn : nameB zone = true) :
  Calls Tryz.prog 154 #[.agg #[.string r.name, .int .u16 r.kind, .int .u16 r.cls, .int .u32 r.ttl, .string r.data], .pointer (some ⟨cb, 0, none⟩)] W fun e w' => e = .returned (.bool (credB zone r)) ∧ Hid (Below W.heap.size W w') := by
 have hb1 := (Below.refl W.heap.size W).alloc (Nat.le_refl _) (.cells #[.string r.name, .int .u16 r.kind, .int .u16 r.cls, .int .u32 r.ttl, .string r.data] 69)
 have hcb1 := cell_of_heap (hb1.block cb hbl) hcb
 have hz1 := cell_of_heap (hb1.block blk hbk) hz
 have hcr := bc_ (hn_ W (.cells #[.string r.name, .int .u16 r.kind, .int .u16 r.cls, .int .u32 r.ttl, .string r.data] 69))
 have HB := hide hb1
 have HN := hide hn
 have HZ := hide hzn
 obtain ⟨nm, kd, cl, tt, dt⟩ := r
 dsimp only at *
 clear hb1 hcb hz hn hzn
 by_cases hcls : cl = 1
 ·subst hcls
  have HC : Hid (credB zone ⟨nm, kd, 1, tt, dt⟩ = liesB nm zone) := by simp [Hid, credB]
  go_enter Tryz.func154, Tryz.ntmps154
  go_wp2_with fail
  generalize W.alloc _ = W1 at HB hcb1 hz1 hcr ⊢
  go_region_held3 (fun w' => w'.cell? ⟨W.heap.size, 2, none⟩ = some (.int .u16 1) ∧ w'.cell? ⟨W.heap.size, 0, none⟩ = some (.string nm) ∧ w'.cell? ⟨cb, 0, none⟩ = some (.pointer (some ⟨blk, 0, none⟩)) ∧ w'.cell? ⟨blk, 4, none⟩ = some (.string zone)) (first | (go_keep; done) | exact hs5) (first | (go_at_call 155; refine (q_liesIn nm zone HN.out HZ.out W1.drew).mono ?_; rintro e w5 ⟨rfl, n5, hw5⟩; have hs5 : w5.cell? ⟨W.heap.size, 2, none⟩ = some (.int .u16 1) ∧ w5.cell? ⟨W.heap.size, 0, none⟩ = some (.string nm) ∧ w5.cell? ⟨cb, 0, none⟩ = some (.pointer (some ⟨blk, 0, none⟩)) ∧ w5.cell? ⟨blk, 4, none⟩ = some (.string zone) := by rw [hw5]; exact ⟨hcr 2, hcr 0, hcb1, hz1⟩))
  clear hcr hcb1 hz1 hs5 hw5
  have HB5 := hide (below_drewN HB.out (1 + n5))
  go_wp2_with fail
  go_ret
  exact ⟨ret_bool HC.out.symm, HB5.out⟩
 ·have HC : Hid (credB zone ⟨nm, kd, cl, tt, dt⟩ = false) := by simp [Hid, credB, hcls]
  have hb : ((cl : Int) == 1) = false := by simp; exact hcls
  go_enter Tryz.func154, Tryz.ntmps154
  go_wp2_with fail
  generalize W.alloc _ = W1 at HB hcb1 hz1 hcr ⊢
  go_quiet (fail)
  go_wp2_with fail
  go_ret
  exact ⟨ret_bool HC.out.symm, below_drewN HB.out _⟩
theorem of1_any (W : World) (r : Rc) (kb nb : Nat) (kind : Int) (name : ByteArray) (hkb : W.cell? ⟨kb, 0, none⟩ = some (.int .u16 kind)) (hnb : W.cell? ⟨nb, 0, none⟩ = some (.string name)) (hbl : kb < W.heap.size) (hbk : nb < W.heap.size) (hn : r.name.size ≤ 2097152) :
  Calls Tryz.prog 156 #[.agg #[.string r.name, .int .u16 r.kind, .int .u16 r.cls, .int .u32 r.ttl, .string r.data], .pointer (some ⟨kb, 0, none⟩), .pointer (some ⟨nb, 0, none⟩)] W fun e w' => e = .returned (.bool (kindB name kind r)) ∧ Hid (Below W.heap.size W w') := by
 have hb1 := (Below.refl W.heap.size W).alloc (Nat.le_refl _) (.cells #[.string r.name, .int .u16 r.kind, .int .u16 r.cls, .int .u32 r.ttl, .string r.data] 69)
 have hkb1 := cell_of_heap (hb1.block kb hbl) hkb
 have hnb1 := cell_of_heap (hb1.block nb hbk) hnb
 have HB := hide hb1
 obtain ⟨nm, kd, cl, tt, dt⟩ := r
 dsimp only at *
 clear hb1 hkb hnb
 by_cases hk : kd = kind
 ·subst hk
  have HC : Hid (kindB name kd ⟨nm, kd, cl, tt, dt⟩ = sameB nm name) := by simp [Hid, kindB]
  go_enter Tryz.func156, Tryz.ntmps156
  go_wp2_with fail
  refine (q_same nm name hn _).mono ?_
  rintro e w5 ⟨rfl, n5, hw5⟩
  have HB5 : Hid (Below W.heap.size W w5) := by rw [hw5]; exact below_drewN HB.out n5
  clear hw5
  go_wp2_with fail
  go_ret
  exact ⟨ret_bool HC.out.symm, HB5.out⟩
 ·have HC : Hid (kindB name kind ⟨nm, kd, cl, tt, dt⟩ = false) := by simp [Hid, kindB, hk]
  have hb : ((kd : Int) == kind) = false := by simp; exact hk
  go_enter Tryz.func156, Tryz.ntmps156
  go_wp2_with fail
  go_ret
  exact ⟨ret_bool HC.out.symm, HB.out⟩
theorem ent_cred : Enters Tryz.prog 154 := enters_of Tryz.func154 (by kernel_rfl) rfl
theorem ent_of : Enters Tryz.prog 156 := enters_of Tryz.func156 (by kernel_rfl) rfl
theorem OL.before {w w1 wr : World} {xs : List Rc} {v : Value} (hb : Below w.heap.size w w1) (h : OL w1 wr xs v) : OL w wr xs v := ⟨hb.trans (h.below.mono hb.size), h.own, fun g hg => Nat.le_trans hb.size (h.new g hg)⟩
theorem q_credible (w : World) (c : QC) (r : List QC) (v : Value) (l : List Rc) (h : Chain w (c :: r)) (hz : nameB c.ch.zone = true) (hl : l.length ≤ 65535) (hnm : ∀ x ∈ l, nameB x.name = true) (hv : Lies w 5 v (l.map Rc.cells)) :
  Calls Tryz.prog 118 #[.pointer (some ⟨c.blk, 0, none⟩), v] w fun e w' => ∃ (a : Option Addr) (k : Nat), e = .returned (.slice a (l.filter (credB c.ch.zone)).length k) ∧ Hid (OL w w' (l.filter (credB c.ch.zone)) (.slice a (l.filter (credB c.ch.zone)).length k)) := by
 have hb1 := (Below.refl w.heap.size w).alloc (Nat.le_refl _) (.cells #[.pointer (some ⟨c.blk, 0, none⟩)] 146)
 have hx1 := hn_ w (.cells #[.pointer (some ⟨c.blk, 0, none⟩)] 146)
 have hc1 := (hb1.block _ (hl_ h.1)).trans h.1
 have HT : Hid (Tests (w.alloc (.cells #[.pointer (some ⟨c.blk, 0, none⟩)] 146)) 154 #[.pointer (some ⟨w.heap.size, 0, none⟩)] (credB c.ch.zone) l) := by
  intro W x hx hb
  have e1 := (hb.block _ (hl_ hx1)).trans hx1
  have e2 := (hb.block _ (hl_ hc1)).trans hc1
  exact cred1_any W x w.heap.size c.blk c.ch.zone ((bc_ e1 0).trans rfl) ((bc_ e2 4).trans rfl) (hl_ e1) (hl_ e2) (hnm x hx) hz
 have HB := hide hb1
 have HV := hide (hv.below hb1)
 obtain ⟨av, cv, rfl, _⟩ := hv
 clear hb1 hx1 hc1 h
 rw [List.length_map] at HV ⊢
 go_enter Tryz.func118, Tryz.ntmps118
 go_wp2_with fail
 refine (only_any _ _ l 154 #[.pointer (some ⟨w.heap.size, 0, none⟩)] (credB c.ch.zone) ent_cred HT.out hl HV.out).mono ?_
 rintro e w2 ⟨a2, c2, rfl, H2⟩
 go_wp2_with fail
 go_ret
 exact ⟨a2, c2, rfl, H2.out.before HB.out⟩
theorem q_of (w : World) (v : Value) (l : List Rc) (name : ByteArray) (kind : Int) (hl : l.length ≤ 65535) (hnm : ∀ x ∈ l, x.name.size ≤ 2097152) (hv : Lies w 5 v (l.map Rc.cells)) :
  Calls Tryz.prog 119 #[v, .string name, .int .u16 kind] w fun e w' => ∃ (a : Option Addr) (k : Nat), e = .returned (.slice a (l.filter (kindB name kind)).length k) ∧ Hid (OL w w' (l.filter (kindB name kind)) (.slice a (l.filter (kindB name kind)).length k)) := by
 have hb1 : Below w.heap.size w ((w.alloc (.cells #[.string name] 9)).alloc (.cells #[.int .u16 kind] 26)) := ((Below.refl _ _).alloc (Nat.le_refl _) _).alloc (by rw [as_]; omega) _
 have hx1 := heap_old (hn_ w (.cells #[.string name] 9)) (.cells #[.int .u16 kind] 26)
 have hx2 := hn_ (w.alloc (.cells #[.string name] 9)) (.cells #[.int .u16 kind] 26)
 rw [as_] at hx2
 have HT : Hid (Tests ((w.alloc (.cells #[.string name] 9)).alloc (.cells #[.int .u16 kind] 26)) 156 #[.pointer (some ⟨w.heap.size + 1, 0, none⟩), .pointer (some ⟨w.heap.size, 0, none⟩)] (kindB name kind) l) := by
  intro W x hx hb
  have e1 := (hb.block _ (hl_ hx1)).trans hx1
  have e2 := (hb.block _ (hl_ hx2)).trans hx2
  exact of1_any W x (w.heap.size + 1) w.heap.size kind name ((bc_ e2 0).trans rfl) ((bc_ e1 0).trans rfl) (hl_ e2) (hl_ e1) (hnm x hx)
 have HB := hide hb1
 have HV := hide (hv.below hb1)
 obtain ⟨av, cv, rfl, _⟩ := hv
 clear hb1 hx1 hx2
 rw [List.length_map] at HV ⊢
 go_enter Tryz.func119, Tryz.ntmps119
 go_wp2_with fail
 refine (only_any _ _ l 156 #[.pointer (some ⟨w.heap.size + 1, 0, none⟩), .pointer (some ⟨w.heap.size, 0, none⟩)] (kindB name kind) ent_of HT.out hl HV.out).mono ?_
 rintro e w2 ⟨a2, c2, rfl, H2⟩
 go_wp2_with fail
 go_ret
 exact ⟨a2, c2, rfl, H2.out.before HB.out⟩
end Go.Proofs.YtafoepfhepdcoaaGreat
namespace Go.Proofs.YtafoepfhepdcoaaGreat
open Go.RowKit Go.Trawl
def belowB (c : Ch) (r : Rc) : Bool := decide (r.kind = 2) && !sameB r.name c.zone && liesB c.name r.name
def zoneV (o : Option Rc) : Value := match o with
 | some x => .tuple #[.string x.name, .bool true]
 | none => .tuple #[.string ⟨#[]⟩, .bool false]
theorem find_take {α : Type} {P : α → Bool} {l : List α} {k : Nat} {r : α} (h : l[k]? = some r) (hn : (l.take k).find? P = none) : (l.take (k + 1)).find? P = if P r then some r else none := by
 rw [take_snoc l k r h, List.find?_append, hn]
 simp [List.find?]
 split <;> simp_all
theorem find_hit {α : Type} {P : α → Bool} {l : List α} {k : Nat} {r : α} (h : l[k]? = some r) (hn : (l.take k).find? P = none) (hp : P r = true) : l.find? P = some r := by
 have e : l = l.take (k + 1) ++ l.drop (k + 1) := (List.take_append_drop _ _).symm
 rw [e, List.find?_append, find_take h hn, if_pos hp]
 rfl
theorem q_zoneBelow (w : World) (c : QC) (r : List QC) (v : Value) (l : List Rc) (h : Chain w (c :: r)) (hcn : nameB c.ch.name = true) (hl : l.length ≤ 65535) (hnm : ∀ x ∈ l, nameB x.name = true) (hv : Lies w 5 v (l.map Rc.cells)) :
  Calls Tryz.prog 120 #[.pointer (some ⟨c.blk, 0, none⟩), v] w fun e w' => e = .returned (zoneV (l.find? (belowB c.ch))) ∧ Hid (Below w.heap.size w w') := by
 obtain ⟨av, cv, rfl, -, hv⟩ := hv
 rw [List.length_map]
 have HV := hide hv
 have HNM := hide hnm
 have HCN := hide hcn
 have hbx := h.1
 have hbl := hl_ hbx
 obtain ⟨ch, blk, vs, vn⟩ := c
 obtain ⟨cnm, ckd, czn, csv, csn, cns⟩ := ch
 dsimp only at *
 have HBX := hide hbx
 clear hv hnm hcn h hbx
 obtain ⟨F, hF⟩ : ∃ F, F = l.find? (belowB ⟨cnm, ckd, czn, csv, csn, cns⟩) := ⟨_, rfl⟩
 rw [← hF]
 have HF := hide hF
 clear hF
 go_enter Tryz.func120, Tryz.ntmps120
 go_wp2_with fail
 go_loopw [10] (fun i wr => ∃ (k : Nat), i = .int .i64 k ∧ k ≤ l.length ∧ Hid ((l.take k).find? (belowB ⟨cnm, ckd, czn, csv, csn, cns⟩) = none) ∧ Hid (Below w.heap.size w wr)) (fun i _ => l.length - (intOf i).toNat)
 case atStart => exact ⟨0, rfl, Nat.zero_le _, by simp [Hid], Below.refl _ _⟩
 case round =>
  obtain ⟨k, rfl, hk, HX, HO⟩ := hrel
  by_cases hin : k < l.length
  ·obtain ⟨x, hr⟩ : ∃ x, l[k]? = some x := ⟨_, List.getElem?_eq_getElem hin⟩
   rcases HV.out with he | ⟨b, off, rfl, hbl2, hc⟩
   ·exfalso; have := congrArg List.length he; simp at this; subst this; simp at hin
   obtain ⟨c0, c1, c2, c3, c4⟩ := Lies.rat hc hr
   have HN1 := hide (HNM.out x (List.mem_of_getElem? hr))
   have HTK : Hid ((l.take (k + 1)).find? (belowB ⟨cnm, ckd, czn, csv, csn, cns⟩) = if belowB ⟨cnm, ckd, czn, csv, csn, cns⟩ x then some x else none) := find_take hr HX.out
   have HTH := hide (fun hp => find_hit (P := belowB ⟨cnm, ckd, czn, csv, csn, cns⟩) hr HX.out hp)
   have t1 : ∀ o u, w.cell? ⟨b, o, none⟩ = some u → wr.cell? ⟨b, o, none⟩ = some u := fun o u => cell_of_heap (HO.out.block b hbl2)
   replace c0 := t1 _ _ c0
   replace c1 := t1 _ _ c1
   replace c2 := t1 _ _ c2
   replace c3 := t1 _ _ c3
   replace c4 := t1 _ _ c4
   have hwz := HO.out.size
   have HOa : Hid (Below w.heap.size w (wr.alloc (.cells #[.string x.name, .int .u16 x.kind, .int .u16 x.cls, .int .u32 x.ttl, .string x.data] 69))) := HO.out.alloc hwz _
   have hcr := bc_ (hn_ wr (.cells #[.string x.name, .int .u16 x.kind, .int .u16 x.cls, .int .u32 x.ttl, .string x.data] 69))
   have hcc := bc_ ((HOa.out.block blk hbl).trans HBX.out)
   simp only [qcCells] at hcc
   obtain ⟨nm, kd, cl, tt, dt⟩ := x
   dsimp only at c0 c1 c2 c3 c4 HOa hcr hcc HN1
   have hnz := nameB_size HN1.out
   clear hc hr t1
   go_wp2_with fail
   generalize wr.alloc _ = W1 at HOa hcr hcc ⊢
   by_cases h2 : kd = 2
   ·by_cases hsm : sameB nm czn = true
    ·have HP : Hid (belowB ⟨cnm, ckd, czn, csv, csn, cns⟩ ⟨nm, kd, cl, tt, dt⟩ = false) := by simp [Hid, belowB, hsm]
     subst h2
     go_quiet ((go_at_call 117; exact Calls.quiet_of (q_same nm czn (by omega) _)))
     go_wp2_with fail
     exact ⟨⟨k + 1, by go_num, by omega, by unfold Hid; rw [HTK.out, HP.out]; rfl, below_drewN HOa.out _⟩, by simp [intOf]; omega⟩
    ·have hsm2 : sameB nm czn = false := by simpa using hsm
     subst h2
     go_quiet ((first | (go_at_call 117; exact Calls.quiet_of (q_same nm czn (by omega) _)) | (go_at_call 155; exact Calls.quiet_of (q_liesIn cnm nm HCN.out HN1.out _))))
     by_cases hls : liesB cnm nm = true
     ·have HP : Hid (belowB ⟨cnm, ckd, czn, csv, csn, cns⟩ ⟨nm, 2, cl, tt, dt⟩ = true) := by simp [Hid, belowB, hsm2, hls]
      rw [hls]
      go_wp2_with fail
      refine bodyPost_ret (results_tmp2 rfl _ _ _) rfl ?_
      have e := HTH.out HP.out
      exact ⟨by rw [HF.out, e]; rfl, below_drewN HOa.out _⟩
     ·have hls2 : liesB cnm nm = false := by simpa using hls
      have HP : Hid (belowB ⟨cnm, ckd, czn, csv, csn, cns⟩ ⟨nm, 2, cl, tt, dt⟩ = false) := by simp [Hid, belowB, hls2]
      rw [hls2]
      go_wp2_with fail
      exact ⟨⟨k + 1, by go_num, by omega, by unfold Hid; rw [HTK.out, HP.out]; rfl, below_drewN HOa.out _⟩, by simp [intOf]; omega⟩
   ·have HP : Hid (belowB ⟨cnm, ckd, czn, csv, csn, cns⟩ ⟨nm, kd, cl, tt, dt⟩ = false) := by simp [Hid, belowB, h2]
    have hb : ((kd : Int) == 2) = false := by simp; exact h2
    go_quiet (fail)
    go_wp2_with fail
    exact ⟨⟨k + 1, by go_num, by omega, by unfold Hid; rw [HTK.out, HP.out]; rfl, below_drewN HOa.out _⟩, by simp [intOf]; omega⟩
  ·go_wp2_with fail
   refine bodyPost_ret (results_tmp2 rfl _ _ _) rfl ?_
   have e : F = none := by rw [HF.out]; have := HX.out; rw [List.take_of_length_le (by omega)] at this; exact this
   exact ⟨by rw [e]; rfl, HO.out⟩
attribute [local go_sem] mf
theorem enter1_any (W : World) (n dt : ByteArray) (rb : Nat) (hrb : W.cell? ⟨rb, 4, none⟩ = some (.string dt)) (hn : n.size ≤ 2097152) :
  Calls Tryz.prog 161 #[.string n, .pointer (some ⟨rb, 0, none⟩)] W fun e w' => e = .returned (.bool (sameB n dt)) ∧ ∃ m, w' = W.drewN m := by
 go_enter Tryz.func161, Tryz.ntmps161
 go_wp2_with fail
 refine (q_same n dt hn W).mono ?_
 rintro e w1 ⟨rfl, m, hw⟩
 have HW : Hid (∃ m, w1 = W.drewN m) := ⟨m, hw⟩
 clear hw
 go_wp2_with fail
 go_ret
 exact ⟨rfl, HW.out⟩
theorem ent_enter : Enters Tryz.prog 161 := enters_of Tryz.func161 (by kernel_rfl) rfl
theorem any_snoc {α : Type} {P : α → Bool} {l : List α} {k : Nat} {x : α} (h : l[k]? = some x) (hn : (l.take k).any P = false) : (l.take (k + 1)).any P = P x := by
 rw [take_snoc l k x h, List.any_append, hn]
 simp
theorem any_hit {α : Type} {P : α → Bool} {l : List α} {k : Nat} {x : α} (h : l[k]? = some x) (hp : P x = true) : l.any P = true := List.any_eq_true.2 ⟨x, List.mem_of_getElem? h, hp⟩
theorem index_texts (w : World) (v : Value) (l : List ByteArray) (dt : ByteArray) (rb : Nat) (hrb : w.cell? ⟨rb, 4, none⟩ = some (.string dt)) (hn : ∀ n ∈ l, n.size ≤ 2097152) (hl : l.length ≤ 65535) (hv : Lies w 1 v (textsV l)) :
  Calls Tryz.prog 174 #[v, .func (.func 161) #[] #[.pointer (some ⟨rb, 0, none⟩)]] w fun e w' => ∃ i : Int, e = .returned (.int .i64 i) ∧ Hid (decide (0 ≤ i) = l.any (fun n => sameB n dt)) ∧ ∃ m, w' = w.drewN m := by
 obtain ⟨av, cv, rfl, -, hv⟩ := hv
 have hlen : (textsV l).length = l.length := by simp [textsV]
 rw [hlen]
 have HV := hide hv
 have HN := hide hn
 have hent := ent_enter
 unfold Enters at hent
 clear hv hn hlen
 go_enter Tryz.func174, Tryz.ntmps174
 go_wp2_with fail
 go_loopw [8] (fun i wr => ∃ (k : Nat), i = .int .i64 k ∧ k ≤ l.length ∧ Hid ((l.take k).any (fun n => sameB n dt) = false) ∧ Hid (∃ m, wr = w.drewN m)) (fun i _ => l.length - (intOf i).toNat)
 case atStart => exact ⟨0, rfl, Nat.zero_le _, by simp [Hid], 0, rfl⟩
 case round =>
  obtain ⟨k, rfl, hk, HX, HO⟩ := hrel
  have hcw : ∀ p, wr.cell? p = w.cell? p := by obtain ⟨m, rfl⟩ := HO.out; intro p; rfl
  by_cases hin : k < l.length
  ·obtain ⟨x, hr⟩ : ∃ x, l[k]? = some x := ⟨_, List.getElem?_eq_getElem hin⟩
   rcases HV.out with he | ⟨b, off, rfl, hbl2, hc⟩
   ·exfalso; have := congrArg List.length he; simp [textsV] at this; subst this; simp at hin
   have hcx : wr.cell? ⟨b, off + k, none⟩ = some (.string x) := by
    rw [hcw]
    have := hc k [.string x] (by simp [textsV, hr]) 0 (.string x) rfl
    simpa using this
   have hrb' : wr.cell? ⟨rb, 4, none⟩ = some (.string dt) := by rw [hcw]; exact hrb
   have hxs := HN.out x (List.mem_of_getElem? hr)
   have HTK : Hid ((l.take (k + 1)).any (fun n => sameB n dt) = sameB x dt) := any_snoc hr HX.out
   have HTH : Hid (sameB x dt = true → l.any (fun n => sameB n dt) = true) := fun hp => any_hit hr hp
   clear hc hr hcw
   go_wp2_with fail
   refine (enter1_any wr x dt rb hrb' hxs).mono ?_
   rintro e w1 ⟨rfl, m, hw⟩
   have HW : Hid (∃ m, w1 = w.drewN m) := by
    obtain ⟨m0, h0⟩ := HO.out
    exact ⟨m0 + m, by rw [hw, h0, World.drewN_drewN]⟩
   clear hw hcx hrb'
   by_cases hp : sameB x dt = true
   ·rw [hp]
    go_wp2_with fail
    go_ret
    exact ⟨k, rfl, by unfold Hid; rw [HTH.out hp]; simp, HW.out⟩
   ·have hp2 : sameB x dt = false := by simpa using hp
    rw [hp2]
    go_wp2_with fail
    exact ⟨⟨k + 1, by go_num, by omega, by unfold Hid; rw [HTK.out, hp2], HW.out⟩, by simp [intOf]; omega⟩
  ·go_wp2_with fail
   go_ret
   have e : l.any (fun n => sameB n dt) = false := by have := HX.out; rw [List.take_of_length_le (by omega)] at this; exact this
   exact ⟨-1, rfl, by unfold Hid; rw [e]; decide, HO.out⟩
theorem has_texts (w : World) (v : Value) (l : List ByteArray) (dt : ByteArray) (rb : Nat) (hrb : w.cell? ⟨rb, 4, none⟩ = some (.string dt)) (hn : ∀ n ∈ l, n.size ≤ 2097152) (hl : l.length ≤ 65535) (hv : Lies w 1 v (textsV l)) :
  Calls Tryz.prog 160 #[v, .func (.func 161) #[] #[.pointer (some ⟨rb, 0, none⟩)]] w fun e w' => e = .returned (.bool (l.any (fun n => sameB n dt))) ∧ ∃ m, w' = w.drewN m := by
 have HV := hide hv
 have HN := hide hn
 clear hv hn
 go_enter Tryz.func160, Tryz.ntmps160
 go_wp2_with fail
 refine (index_texts w v l dt rb hrb HN.out hl HV.out).mono ?_
 rintro e w1 ⟨i, rfl, HI, HW⟩
 go_wp2_with fail
 go_ret
 exact ⟨ret_bool HI.out, HW⟩
end Go.Proofs.YtafoepfhepdcoaaGreat
namespace Go.Proofs.YtafoepfhepdcoaaGreat
open Go.RowKit Go.Trawl
attribute [local go_sem] mf
theorem ahead1_any (W : World) (r : Rc) (n : ByteArray) (nb : Nat) (hnb : W.cell? ⟨nb, 0, none⟩ = some (.string n)) (hbl : nb < W.heap.size) (hn : n.size ≤ 2097152) :
  Calls Tryz.prog 173 #[.agg #[.string r.name, .int .u16 r.kind, .int .u16 r.cls, .int .u32 r.ttl, .string r.data], .pointer (some ⟨nb, 0, none⟩)] W fun e w' => e = .returned (.bool (sameB n r.data)) ∧ Hid (Below W.heap.size W w') := by
 have hb1 := (Below.refl W.heap.size W).alloc (Nat.le_refl _) (.cells #[.string r.name, .int .u16 r.kind, .int .u16 r.cls, .int .u32 r.ttl, .string r.data] 69)
 have hnb1 := cell_of_heap (hb1.block nb hbl) hnb
 have HB := hide hb1
 obtain ⟨nm, kd, cl, tt, dt⟩ := r
 dsimp only at *
 clear hb1 hnb
 go_enter Tryz.func173, Tryz.ntmps173
 go_wp2_with fail
 refine (q_same n dt hn _).mono ?_
 rintro e w5 ⟨rfl, n5, hw5⟩
 have HB5 : Hid (Below W.heap.size W w5) := by rw [hw5]; exact below_drewN HB.out n5
 clear hw5
 go_wp2_with fail
 go_ret
 exact ⟨rfl, HB5.out⟩
theorem ent_ahead : Enters Tryz.prog 173 := enters_of Tryz.func173 (by kernel_rfl) rfl
theorem index_recs (w : World) (v : Value) (l : List Rc) (n : ByteArray) (nb : Nat) (hnb : w.cell? ⟨nb, 0, none⟩ = some (.string n)) (hbl : nb < w.heap.size) (hn : n.size ≤ 2097152) (hl : l.length ≤ 65535) (hv : Lies w 5 v (l.map Rc.cells)) :
  Calls Tryz.prog 177 #[v, .func (.func 173) #[] #[.pointer (some ⟨nb, 0, none⟩)]] w fun e w' => ∃ i : Int, e = .returned (.int .i64 i) ∧ Hid (decide (0 ≤ i) = l.any (fun r => sameB n r.data)) ∧ Hid (Below w.heap.size w w') := by
 obtain ⟨av, cv, rfl, -, hv⟩ := hv
 rw [List.length_map]
 have HV := hide hv
 have hent := ent_ahead
 unfold Enters at hent
 clear hv
 go_enter Tryz.func177, Tryz.ntmps177
 go_wp2_with fail
 go_loopw [8] (fun i wr => ∃ (k : Nat), i = .int .i64 k ∧ k ≤ l.length ∧ Hid ((l.take k).any (fun r => sameB n r.data) = false) ∧ Hid (Below w.heap.size w wr)) (fun i _ => l.length - (intOf i).toNat)
 case atStart => exact ⟨0, rfl, Nat.zero_le _, by simp [Hid], Below.refl _ _⟩
 case round =>
  obtain ⟨k, rfl, hk, HX, HO⟩ := hrel
  by_cases hin : k < l.length
  ·obtain ⟨x, hr⟩ : ∃ x, l[k]? = some x := ⟨_, List.getElem?_eq_getElem hin⟩
   rcases HV.out with he | ⟨b, off, rfl, hbl2, hc⟩
   ·exfalso; have := congrArg List.length he; simp at this; subst this; simp at hin
   obtain ⟨c0, c1, c2, c3, c4⟩ := Lies.rat hc hr
   have t1 : ∀ o u, w.cell? ⟨b, o, none⟩ = some u → wr.cell? ⟨b, o, none⟩ = some u := fun o u => cell_of_heap (HO.out.block b hbl2)
   replace c0 := t1 _ _ c0
   replace c1 := t1 _ _ c1
   replace c2 := t1 _ _ c2
   replace c3 := t1 _ _ c3
   replace c4 := t1 _ _ c4
   have hnb' := cell_of_heap (HO.out.block nb hbl) hnb
   have hwz := HO.out.size
   have HTK : Hid ((l.take (k + 1)).any (fun r => sameB n r.data) = sameB n x.data) := any_snoc hr HX.out
   have HTH : Hid (sameB n x.data = true → l.any (fun r => sameB n r.data) = true) := fun hp => any_hit hr hp
   obtain ⟨nm, kd, cl, tt, dt⟩ := x
   dsimp only at c0 c1 c2 c3 c4 HTK HTH
   clear hc hr t1
   go_wp2_with fail
   refine (ahead1_any wr ⟨nm, kd, cl, tt, dt⟩ n nb hnb' (by omega) hn).mono ?_
   rintro e w1 ⟨rfl, HB1⟩
   have HW := hide (HO.out.trans (HB1.out.mono HO.out.size))
   clear c0 c1 c2 c3 c4 hnb' HB1
   dsimp only
   by_cases hp : sameB n dt = true
   ·rw [hp]
    go_wp2_with fail
    go_ret
    exact ⟨k, rfl, by unfold Hid; rw [HTH.out hp]; simp, HW.out⟩
   ·have hp2 : sameB n dt = false := by simpa using hp
    rw [hp2]
    go_wp2_with fail
    exact ⟨⟨k + 1, by go_num, by omega, by unfold Hid; rw [HTK.out, hp2], HW.out⟩, by simp [intOf]; omega⟩
  ·go_wp2_with fail
   go_ret
   have e : l.any (fun r => sameB n r.data) = false := by have := HX.out; rw [List.take_of_length_le (by omega)] at this; exact this
   exact ⟨-1, rfl, by unfold Hid; rw [e]; decide, HO.out⟩
theorem has_recs (w : World) (v : Value) (l : List Rc) (n : ByteArray) (nb : Nat) (hnb : w.cell? ⟨nb, 0, none⟩ = some (.string n)) (hbl : nb < w.heap.size) (hn : n.size ≤ 2097152) (hl : l.length ≤ 65535) (hv : Lies w 5 v (l.map Rc.cells)) :
  Calls Tryz.prog 172 #[v, .func (.func 173) #[] #[.pointer (some ⟨nb, 0, none⟩)]] w fun e w' => e = .returned (.bool (l.any (fun r => sameB n r.data))) ∧ Hid (Below w.heap.size w w') := by
 have HV := hide hv
 clear hv
 go_enter Tryz.func172, Tryz.ntmps172
 go_wp2_with fail
 refine (index_recs w v l n nb hnb hbl hn hl HV.out).mono ?_
 rintro e w1 ⟨i, rfl, HI, HW⟩
 go_wp2_with fail
 go_ret
 exact ⟨ret_bool HI.out, HW.out⟩
end Go.Proofs.YtafoepfhepdcoaaGreat
