import Derived.Test.YtafoepfhepdcoaaGreatM1
import Derived.Test.YtafoepfhepdcoaaGreatM2
import Derived.Laws.StructEq
import Derived.Test.YtafoepfhepdcoaaGreatM3
set_option maxRecDepth 100000
set_option maxHeartbeats 8000000
namespace Go.Proofs.YtafoepfhepdcoaaGreat
open Go.RowKit Go.Trawl
theorem undQ : Tryz.prog.underlying 41 = some (.struct (Tryz.prog.fieldsOf 41)) := by kernel_rfl
theorem stQ : Tryz.prog.stoodInHeld 41 = false := by kernel_rfl
theorem egQ : Tryz.prog.eqGuardType Tryz.prog.depth 41 = false := by kernel_rfl
theorem undR : Tryz.prog.underlying 69 = some (.struct (Tryz.prog.fieldsOf 69)) := by kernel_rfl
theorem stR : Tryz.prog.stoodInHeld 69 = false := by kernel_rfl
theorem egR : Tryz.prog.eqGuardType Tryz.prog.depth 69 = false := by kernel_rfl
theorem equalQ (s t : ByteArray) (a b c d : Int) (W : World) : (Op.equalIn 10000 41 (.agg #[.string s, .int .u16 a, .int .u16 b]) (.agg #[.string t, .int .u16 c, .int .u16 d])).run Tryz.prog W = .ok (s.toList == t.toList && (a == c && b == d)) W := by
 rw [run_equalIn_struct W 9999 41 _ _ undQ stQ]
 simp only [Program.fieldsOf, Tryz.underlying41]
 go_simp
 by_cases h1 : s.toList = t.toList <;> by_cases h2 : a = c <;> by_cases h3 : b = d <;> simp [h1, h2, h3]
theorem equalR (s t s' t' : ByteArray) (a b c d e f : Int) (W : World) : (Op.equalIn 10000 69 (.agg #[.string s, .int .u16 a, .int .u16 b, .int .u32 c, .string t]) (.agg #[.string s', .int .u16 d, .int .u16 e, .int .u32 f, .string t'])).run Tryz.prog W = .ok (s.toList == s'.toList && (a == d && (b == e && (c == f && t.toList == t'.toList)))) W := by
 rw [run_equalIn_struct W 9999 69 _ _ undR stR]
 simp only [Program.fieldsOf, Tryz.underlying69]
 go_simp
 by_cases h1 : s.toList = s'.toList <;> by_cases h2 : a = d <;> by_cases h3 : b = e <;> by_cases h4 : c = f <;> by_cases h5 : t.toList = t'.toList <;> simp [h1, h2, h3, h4, h5]
theorem guardQ (op : BinOp) (x y : Operand) (xs ys : Array Value) (W : World) : (eqGuard op 41 x y (.agg xs) (.agg ys)).run Tryz.prog W = .ok () W := run_eqGuard_agg W op _ x y xs ys egQ
theorem guardR (op : BinOp) (x y : Operand) (xs ys : Array Value) (W : World) : (eqGuard op 69 x y (.agg xs) (.agg ys)).run Tryz.prog W = .ok () W := run_eqGuard_agg W op _ x y xs ys egR
theorem buildQ (s : ByteArray) (a : Int) (W : World) : (Instr.build 41 #[(0, .string s), (1, .int .u16 a)]).run Tryz.prog W = .ok (.agg #[.string s, .int .u16 a, .int .u16 0]) W := run_build W _ _ _ (by kernel_rfl)
theorem buildR (s : ByteArray) (a : Int) (W : World) : (Instr.build 69 #[(0, .string s), (3, .int .u32 a)]).run Tryz.prog W = .ok (.agg #[.string s, .int .u16 0, .int .u16 0, .int .u32 a, .string ⟨#[]⟩]) W := run_build W _ _ _ (by kernel_rfl)
theorem buildQ0 (W : World) : (Instr.build 41 #[]).run Tryz.prog W = .ok (.agg #[.string ⟨#[]⟩, .int .u16 0, .int .u16 0]) W := run_build W _ _ _ (by kernel_rfl)
theorem buildR0 (W : World) : (Instr.build 69 #[]).run Tryz.prog W = .ok (.agg #[.string ⟨#[]⟩, .int .u16 0, .int .u16 0, .int .u32 0, .string ⟨#[]⟩]) W := run_build W _ _ _ (by kernel_rfl)
def signV (mk i : Int) : Int := wrap64 (mk + wrap64 (i * (1 + mk / 256))) % 256
theorem sign_any (m i : Int) (h0 : 0 ≤ m) (h1 : m ≤ 1000000000) (w : World) :
  Calls Tryz.prog 94 #[.int .i64 m, .int .i64 i] w fun e w' => e = .returned (.int .u8 (signV m i)) ∧ w' = w := by
 go_enter Tryz.func94, Tryz.ntmps94
 go_wp2
 go_ret
 exact ⟨rfl, rfl⟩
def bM (mk : Int) (j : Nat) : Value := .int .u8 (signV mk j)
def rM (mk : Int) : Value := .int .u32 (1000000 + mk)
def qM (mk : Int) : List Value := [.string ⟨#[109, 97, 114, 107]⟩, .int .u16 (IntKind.u16.wrap mk), .int .u16 0]
def cM (mk : Int) : List Value := [.string ⟨#[109, 97, 114, 107]⟩, .int .u16 0, .int .u16 0, .int .u32 mk, .string ⟨#[]⟩]
def bEs (mk : Int) (n : Nat) : List (List Value) := (List.range n).map fun j => [bM mk j]
def RowM (U : Nat → Prop) (w : World) (e : TypeId) (sz : Nat) (v : Value) (es : List (List Value)) : Prop :=
 ∃ a c, v = .slice a es.length c ∧ es.length ≤ 4194304 ∧ (es = [] ∨ ∃ g cur, a = some ⟨g, 0, none⟩ ∧ U g ∧ w.heap[g]? = some (.cells cur e) ∧
  ∀ i x, es[i]? = some x → ∀ j u, x[j]? = some u → cur[i * sz + j]? = some u)
structure HoldM (U : Nat → Prop) (w : World) (hb : Nat) (vb vr vq vc : Value) (mk : Int) (lb lr lq lc : Nat) : Prop where
 use : U hb
 box : w.heap[hb]? = some (.cells #[vb, vr, vq, vc, .int .i64 mk] 121)
 lo : 1 ≤ mk
 hi : mk ≤ 100000000
 b : RowM U w 5 1 vb (bEs mk lb)
 r : RowM U w 54 1 vr (List.replicate lr [rM mk])
 q : RowM U w 41 3 vq (List.replicate lq (qM mk))
 c : RowM U w 69 5 vc (List.replicate lc (cM mk))
theorem RowM.cell {w : World} {e : TypeId} {sz : Nat} {g : Nat} {cur : Array Value} {es : List (List Value)} (hg : w.heap[g]? = some (.cells cur e))
  (h : ∀ i x, es[i]? = some x → ∀ j u, x[j]? = some u → cur[i * sz + j]? = some u) {i : Nat} {x : List Value} (hi : es[i]? = some x) {j : Nat} {u : Value} (hj : x[j]? = some u) : w.cell? ⟨g, i * sz + j, none⟩ = some u := by
 rw [bc_ hg]; exact h i x hi j u hj
attribute [local go_sem] equalQ equalR guardQ guardR buildQ buildR buildQ0 buildR0
theorem marked_any (U : Nat → Prop) (w : World) (hb : Nat) (vb vr vq vc : Value) (mk : Int) (lb lr lq lc : Nat) (h : HoldM U w hb vb vr vq vc mk lb lr lq lc) :
  Calls Tryz.prog 59 #[.pointer (some ⟨hb, 0, none⟩)] w fun e w' => e = .returned (.bool true) ∧ ∃ n, w' = w.drewN n := by
 obtain ⟨-, hbox, hlo, hhi, ⟨ab, cb, hvb, hnb, hb'⟩, ⟨ar, cr, hvr, hnr, hr'⟩, ⟨aq, cq, hvq, hnq, hq'⟩, ⟨ac, cc, hvc, hnc, hc'⟩⟩ := h
 have l1 : (bEs mk lb).length = lb := by simp [bEs]
 rw [l1] at hvb hnb
 rw [List.length_replicate] at hvr hnr hvq hnq hvc hnc
 subst hvb hvr hvq hvc
 have HBX := hide hbox
 have hcb := bc_ hbox
 have hlo' : 0 ≤ mk := by omega
 have HW0 : Hid (∃ n, w = w.drewN n) := ⟨0, rfl⟩
 clear l1 hbox
 go_enter Tryz.func59, Tryz.ntmps59
 go_wp2_with fail
 go_loopw [3, 4] (fun ok i wr => ∃ k : Nat, i = .int .i64 k ∧ k ≤ lb ∧ ok = .bool true ∧ Hid (∃ n, wr = w.drewN n)) (fun _ i _ => lb - (intOf i).toNat)
 case atStart => exact ⟨0, rfl, Nat.zero_le _, rfl, HW0.out⟩
 case round =>
  obtain ⟨k, rfl, hk, rfl, HW⟩ := hrel
  have hcw : ∀ p, wr.cell? p = w.cell? p := by obtain ⟨n, rfl⟩ := HW.out; intro p; rfl
  have hcb := bc_ (HBX.out)
  have hcr : ∀ o, wr.cell? ⟨hb, o, none⟩ = _ := fun o => (hcw ⟨hb, o, none⟩).trans (hcb o)
  clear hcb
  by_cases hlt : k < lb
  ·rcases hb' with he | ⟨g, cur, rfl, _, hg, hc⟩
   ·exfalso; have := congrArg List.length he; simp [bEs] at this; omega
   ·have ck := RowM.cell (w := w) hg hc (i := k) (x := [bM mk k]) (by simp [bEs, hlt]) (j := 0) (u := bM mk k) rfl
    simp only [Nat.mul_one, Nat.add_zero, bM] at ck
    rw [← hcw] at ck
    clear hg hc hcw hlo'
    go_wp2_with fail
    go_quiet ((go_at_call 94; exact Calls.quiet_of_same (sign_any _ _ (by omega) (by omega) _)))
    go_wp2_with fail
    exact ⟨⟨k + 1, by go_num, by omega, rfl, by obtain ⟨n, hn⟩ := HW.out; exact ⟨n + nq, by rw [hn, World.drewN_drewN]⟩⟩, by simp [intOf]; omega⟩
  ·have HW0 := HW
   clear hcw
   obtain ⟨wx, rfl⟩ : ∃ wx : World, wx = wr := ⟨_, rfl⟩
   go_wp2_with fail
   go_loopw [3, 5] (fun ok i wr => ∃ k : Nat, i = .int .i64 k ∧ k ≤ lr ∧ ok = .bool true ∧ Hid (∃ n, wr = w.drewN n)) (fun _ i _ => lr - (intOf i).toNat)
   case atStart => exact ⟨0, rfl, Nat.zero_le _, rfl, HW0.out⟩
   case round =>
    obtain ⟨k, rfl, hk, rfl, HW⟩ := hrel
    have hcw : ∀ p, wr.cell? p = w.cell? p := by obtain ⟨n, rfl⟩ := HW.out; intro p; rfl
    have hcb := bc_ (HBX.out)
    have hcr : ∀ o, wr.cell? ⟨hb, o, none⟩ = _ := fun o => (hcw ⟨hb, o, none⟩).trans (hcb o)
    clear hcb
    by_cases hlt : k < lr
    ·rcases hr' with he | ⟨g, cur, rfl, _, hg, hc⟩
     ·exfalso; have := congrArg List.length he; simp  at this; omega
     ·have ck := RowM.cell (w := w) hg hc (i := k) (x := [rM mk]) (by simp [hlt]) (j := 0) (u := rM mk) rfl
      simp only [Nat.mul_one, Nat.add_zero, rM] at ck
      rw [← hcw] at ck
      clear hg hc hcw hlo'
      go_wp2_with fail
      go_quiet (fail)
      go_wp2_with fail
      exact ⟨⟨k + 1, by go_num, by omega, rfl, by obtain ⟨n, hn⟩ := HW.out; exact ⟨n + nq, by rw [hn, World.drewN_drewN]⟩⟩, by simp [intOf]; omega⟩
    ·have HW0 := HW
     clear hcw
     obtain ⟨wx, rfl⟩ : ∃ wx : World, wx = wr := ⟨_, rfl⟩
     go_wp2_with fail
     go_loopw [3, 6] (fun ok i wr => ∃ k : Nat, i = .int .i64 k ∧ k ≤ lq ∧ ok = .bool true ∧ Hid (∃ n, wr = w.drewN n)) (fun _ i _ => lq - (intOf i).toNat)
     case atStart => exact ⟨0, rfl, Nat.zero_le _, rfl, HW0.out⟩
     case round =>
      obtain ⟨k, rfl, hk, rfl, HW⟩ := hrel
      have hcw : ∀ p, wr.cell? p = w.cell? p := by obtain ⟨n, rfl⟩ := HW.out; intro p; rfl
      have hcb := bc_ (HBX.out)
      have hcr : ∀ o, wr.cell? ⟨hb, o, none⟩ = _ := fun o => (hcw ⟨hb, o, none⟩).trans (hcb o)
      clear hcb
      by_cases hlt : k < lq
      ·rcases hq' with he | ⟨g, cur, rfl, _, hg, hc⟩
       ·exfalso; have := congrArg List.length he; simp  at this; omega
       ·have c0 := RowM.cell (w := w) hg hc (i := k) (x := qM mk) (by simp [hlt]) (j := 0) (u := .string ⟨#[109, 97, 114, 107]⟩) rfl
        have c1 := RowM.cell (w := w) hg hc (i := k) (x := qM mk) (by simp [hlt]) (j := 1) (u := .int .u16 (IntKind.u16.wrap mk)) rfl
        have c2 := RowM.cell (w := w) hg hc (i := k) (x := qM mk) (by simp [hlt]) (j := 2) (u := .int .u16 0) rfl
        rw [← hcw] at c0 c1 c2
        simp only [Nat.add_zero] at c0
        clear hg hc hcw hlo'
        go_wp2_with fail
        go_quiet (fail)
        go_wp2_with fail
        exact ⟨⟨k + 1, by go_num, by omega, rfl, by obtain ⟨n, hn⟩ := HW.out; exact ⟨n + nq, by rw [hn, World.drewN_drewN]⟩⟩, by simp [intOf]; omega⟩
      ·have HW0 := HW
       clear hcw
       obtain ⟨wx, rfl⟩ : ∃ wx : World, wx = wr := ⟨_, rfl⟩
       go_wp2_with fail
       go_loopw [3, 7] (fun ok i wr => ∃ k : Nat, i = .int .i64 k ∧ k ≤ lc ∧ ok = .bool true ∧ Hid (∃ n, wr = w.drewN n)) (fun _ i _ => lc - (intOf i).toNat)
       case atStart => exact ⟨0, rfl, Nat.zero_le _, rfl, HW0.out⟩
       case round =>
        obtain ⟨k, rfl, hk, rfl, HW⟩ := hrel
        have hcw : ∀ p, wr.cell? p = w.cell? p := by obtain ⟨n, rfl⟩ := HW.out; intro p; rfl
        have hcb := bc_ (HBX.out)
        have hcr : ∀ o, wr.cell? ⟨hb, o, none⟩ = _ := fun o => (hcw ⟨hb, o, none⟩).trans (hcb o)
        clear hcb
        by_cases hlt : k < lc
        ·rcases hc' with he | ⟨g, cur, rfl, _, hg, hc⟩
         ·exfalso; have := congrArg List.length he; simp  at this; omega
         ·have c0 := RowM.cell (w := w) hg hc (i := k) (x := cM mk) (by simp [hlt]) (j := 0) (u := .string ⟨#[109, 97, 114, 107]⟩) rfl
          have c1 := RowM.cell (w := w) hg hc (i := k) (x := cM mk) (by simp [hlt]) (j := 1) (u := .int .u16 0) rfl
          have c2 := RowM.cell (w := w) hg hc (i := k) (x := cM mk) (by simp [hlt]) (j := 2) (u := .int .u16 0) rfl
          have c3 := RowM.cell (w := w) hg hc (i := k) (x := cM mk) (by simp [hlt]) (j := 3) (u := .int .u32 mk) rfl
          have c4 := RowM.cell (w := w) hg hc (i := k) (x := cM mk) (by simp [hlt]) (j := 4) (u := .string ⟨#[]⟩) rfl
          rw [← hcw] at c0 c1 c2 c3 c4
          simp only [Nat.add_zero] at c0
          clear hg hc hcw hlo'
          go_wp2_with fail
          go_quiet (fail)
          go_wp2_with fail
          exact ⟨⟨k + 1, by go_num, by omega, rfl, by obtain ⟨n, hn⟩ := HW.out; exact ⟨n + nq, by rw [hn, World.drewN_drewN]⟩⟩, by simp [intOf]; omega⟩
        ·have HW0 := HW
         clear hcw
         obtain ⟨wx, rfl⟩ : ∃ wx : World, wx = wr := ⟨_, rfl⟩
         go_wp2_with fail
         go_ret
         exact ⟨rfl, HW0.out⟩
end Go.Proofs.YtafoepfhepdcoaaGreat
