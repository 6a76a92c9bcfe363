import Derived.Test.YtafoepfhepdcoaaGreatM15
import Derived.Great.BuildSlice
/- free and step, of a Pack; the script. -/
namespace Go.Proofs.YtafoepfhepdcoaaGreat
open Go.RowKit Go.Trawl

/-- A step of a script, and where its lists lie. -/
structure OpV where
  kind : Int
  n : Int
  m : Msg
  vq : Value
  va : Value
  vu : Value
  vx : Value
  s : ByteArray
  frm : Int
  b : Int
  d : Int
  c : Int
  t : Int
  vr : Value
  rs : List Int
def OpV.arr (o : OpV) : Array Value :=
  #[.int .i64 o.kind, .int .i64 o.n, .int .u16 o.m.id, .bool o.m.resp, .int .i64 o.m.op, .bool o.m.own, .bool o.m.cut, .bool o.m.wanted, .bool o.m.able, .int .i64 o.m.code, o.vq, o.va, o.vu, o.vx,
    .string o.s, .int .u32 o.frm, .int .i64 o.b, .int .i64 o.d, .int .i64 o.c, .int .i64 o.t, o.vr]
def OpV.cells (o : OpV) : List Value := o.arr.toList
structure OpAt (w : World) (o : OpV) : Prop where
  k0 : -9223372036854775808 ≤ o.kind
  k1 : o.kind ≤ 9223372036854775807
  n0 : -9223372036854775808 ≤ o.n
  n1 : o.n ≤ 9223372036854775807
  wf : WfM o.m
  msg : MsgAt w o.m o.vq o.va o.vu o.vx
  s : o.s.size ≤ 2097152
  f0 : 0 ≤ o.frm
  f1 : o.frm ≤ 4294967295
  r : Lies w 1 o.vr (o.rs.map fun x => [.int .u32 x])
  rn : o.rs.length ≤ 2097152
  b0 : -9223372036854775808 ≤ o.b
  b1 : o.b ≤ 9223372036854775807
  d0 : -9223372036854775808 ≤ o.d
  d1 : o.d ≤ 9223372036854775807
  c0 : -9223372036854775808 ≤ o.c
  c1 : o.c ≤ 9223372036854775807
  t0 : -9223372036854775808 ≤ o.t
  t1 : o.t ≤ 9223372036854775807
  rs : ∀ x ∈ o.rs, 0 ≤ x ∧ x ≤ 4294967295
theorem OpAt.below {w w' : World} {o : OpV} (h : OpAt w o) (hb : Below w.heap.size w w') : OpAt w' o :=
  { h with msg := h.msg.below hb, r := h.r.below hb }

/-- A struct is loaded whose cells are known. -/
theorem wpList_load_cells {P : Program} (w : World) {ops : Array Oper} {rest : List Oper} {o : Oper} {a : Act} {Q : Exit → Act → World → Prop} (hgd : o.guard = none) (ty : TypeId) (x : Operand) (ho : o.op = .load ty x)
    (ad : Addr) (hx : a.eval x = .pointer (some ad)) (cs : Array Value) (d : TypeDesc) (hu : P.underlying ty = some d) (hd : (match d with | .struct _ | .array _ _ => true | _ => false) = true) (hi : (P.info? ty).map (·.size) = some cs.size)
    (hc : ∀ j v, cs.toList[j]? = some v → w.cell? (ad.add j) = some v)
    (h : wpList P ops Q rest (a.put o.dst (.agg cs)) w) : wpList P ops Q (o :: rest) a w := by
  refine wpList_plain hgd fun K hK => ?_
  have hl := run_loadCells_list (P := P) w ad cs.toList hc
  have hr : (loadVar ty ad).run P w = .ok (.agg cs) w := by
    cases hq : P.info? ty with
    | none => simp [hq] at hi
    | some i =>
      have hs : i.size = cs.size := by simpa [hq] using hi
      have hagg : (isAgg ty).run P w = .ok true w := by
        unfold isAgg
        rw [Sem.run_bind, run_underlying hu w]
        cases d <;> simp_all
      simp only [Array.length_toList, Array.toArray_toList] at hl
      simp [loadVar, Sem.run_bind, hagg, sizeOf, typeInfo, hq, hs, hl]
  unfold Oper.wp execOp
  simp only [ho, hx, Instr.loadAt, Instr.sureAddr, Sem.run_bind, Sem.run_pure, Result.andThen_ok, hr]
  exact hK _ _ h
theorem undO : Tryz.prog.underlying 79 = some (.struct (Tryz.prog.fieldsOf 79)) := by kernel_rfl
theorem oI : (Tryz.prog.info? 79).map (·.size) = some 21 := by kernel_rfl

set_option maxRecDepth 10000 in
set_option maxHeartbeats 1000000 in
theorem free1 (w : World) (B ws : Nat) (U : Nat → Prop) (vps : Value) (hs : List Nat) (vh : Value) (o : OpV) (hk : o.kind = 1) (hl : hs.length ≤ 99999960) (hst : St B U w ws vps hs vh) (ho : OpAt w o) :
    Calls Tryz.prog 50 #[ptrV ws, .agg o.arr] w fun e w' => e = .returned (.bool true) ∧ Below B w w' ∧ ∃ U' hs' vh', St B U' w' ws vps hs' vh' ∧ hs'.length = hs.length + 20 ∧ Went w w' ws (fun _ => False) U U' vh vh' := by
  have HST := hide hst
  have HO := hide ho
  clear hst ho
  unfold ptrV OpV.arr
  rw [hk]
  go_enter Tryz.func50, Tryz.ntmps50
  go_wp2_with fail
  have hbl : Below w.heap.size w (w.alloc (.cells o.arr 79)) := (Below.refl _ _).alloc (Nat.le_refl _) _
  unfold OpV.arr at hbl
  rw [hk] at hbl
  refine (packed_any _ B ws U vps hs vh o.m o.vq o.va o.vu o.vx hl (HST.out.below hbl) HO.out.wf (HO.out.msg.below hbl)).mono ?_
  rintro e w2 ⟨rfl, hb2, U2, hs2, vh2, hex1, hex2, hex3⟩
  have hex := (⟨U2, hs2, vh2, hex1, hex2, Went.after hbl hex3⟩ : ∃ U' hs' vh', St B U' w2 ws vps hs' vh' ∧ hs'.length = hs.length + 20 ∧ Went w w2 ws (fun _ => False) U U' vh vh')
  have HB2 := hide ((hbl.mono HST.out.sz).trans hb2)
  have HE := hide hex
  clear hb2 hex hex1 hex2 hex3 hbl
  go_wp2_with fail
  go_ret
  exact ⟨rfl, HB2.out, HE.out⟩

set_option maxRecDepth 10000 in
set_option maxHeartbeats 1000000 in
theorem step1 (w : World) (B ws : Nat) (U : Nat → Prop) (vps : Value) (hs : List Nat) (vh : Value) (o : OpV) (hk : o.kind = 1) (hl : hs.length ≤ 99999960) (hst : St B U w ws vps hs vh) (ho : OpAt w o) :
    Calls Tryz.prog 28 #[ptrV ws, .agg o.arr] w fun e w' => e = .returned (.bool true) ∧ Below B w w' ∧ ∃ U' hs' vh', St B U' w' ws vps hs' vh' ∧ hs'.length = hs.length + 20 ∧ Went w w' ws (fun _ => False) U U' vh vh' := by
  obtain ⟨kind, n, m, vq, va, vu, vx, s, frm, b, d, c, t, vr, rs⟩ := o
  dsimp only at hk
  subst hk
  have HST := hide hst
  have HO := hide ho
  clear hst ho
  unfold ptrV OpV.arr
  dsimp only
  go_enter Tryz.func28, Tryz.ntmps28
  go_wp2_with (refine wpList_load_cells _ rfl 79 _ rfl ⟨w.heap.size, 0, none⟩ rfl (OpV.arr ⟨1, n, m, vq, va, vu, vx, s, frm, b, d, c, t, vr, rs⟩) _ undO rfl oI (cells_new w (OpV.arr ⟨1, n, m, vq, va, vu, vx, s, frm, b, d, c, t, vr, rs⟩) 79) ?_)
  have hbl : Below w.heap.size w (w.alloc (.cells (OpV.arr ⟨1, n, m, vq, va, vu, vx, s, frm, b, d, c, t, vr, rs⟩) 79)) := (Below.refl _ _).alloc (Nat.le_refl _) _
  refine (free1 _ B ws U vps hs vh ⟨1, n, m, vq, va, vu, vx, s, frm, b, d, c, t, vr, rs⟩ rfl hl (HST.out.below hbl) (HO.out.below hbl)).mono ?_
  rintro e w2 ⟨rfl, hb2, U2, hs2, vh2, hex1, hex2, hex3⟩
  have hex := (⟨U2, hs2, vh2, hex1, hex2, Went.after hbl hex3⟩ : ∃ U' hs' vh', St B U' w2 ws vps hs' vh' ∧ hs'.length = hs.length + 20 ∧ Went w w2 ws (fun _ => False) U U' vh vh')
  have HB2 := hide ((hbl.mono HST.out.sz).trans hb2)
  have HE := hide hex
  clear hb2 hex hex1 hex2 hex3 hbl
  go_wp2_with fail
  go_ret
  exact ⟨rfl, HB2.out, HE.out⟩
end Go.Proofs.YtafoepfhepdcoaaGreat

/- UpTo: every Pack of a script. -/
namespace Go.Proofs.YtafoepfhepdcoaaGreat
open Go.RowKit Go.Trawl

theorem buildW (W : World) : (Instr.build 84 #[]).run Tryz.prog W = .ok (.agg #[.slice none 0 0, .slice none 0 0]) W := run_build W _ _ _ (by kernel_rfl)
attribute [local go_sem] buildW

theorem St.start (w : World) : St w.heap.size (fun _ => False) (w.alloc (.cells #[.slice none 0 0, .slice none 0 0] 84)) w.heap.size (.slice none 0 0) [] (.slice none 0 0) := by
  refine ⟨⟨heap_new _ _, World.ownsRow_nil _ _ _ _, (fun k hk => by cases hk), (fun h hh => by cases hh)⟩, fun k hk => hk.elim, Nat.le_refl _, by rw [alloc_size]; omega⟩

/-- The script's cells. -/
theorem scr_at {w : World} {a : Option Addr} {n c : Nat} {os : List OpV} (h : Lies w 21 (.slice a n c) (os.map OpV.cells)) {k : Nat} {o : OpV} (ho : os[k]? = some o) :
    ∃ b off, a = some ⟨b, off, none⟩ ∧ w.cell? ⟨b, off + k * 21, none⟩ = some (.int .i64 o.kind) ∧ ∀ j v, o.arr.toList[j]? = some v → w.cell? ((⟨b, off + k * 21, none⟩ : Addr).add j) = some v := by
  obtain ⟨_, _, hv, _, hc⟩ := h
  rcases hc with he | ⟨b, off, he, _, hc⟩
  · exfalso
    have h1 := congrArg List.length he
    simp at h1
    rw [h1] at ho
    simp at ho
  · subst he
    injection hv with hv
    have h2 := hc k o.cells (by simp [ho])
    refine ⟨b, off, hv, h2 0 _ rfl, fun j v hj => ?_⟩
    have e1 : (⟨b, off + k * 21, none⟩ : Addr).add j = ⟨b, off + k * 21 + j, none⟩ := by simp [Addr.add]
    rw [e1]
    exact h2 j v hj

set_option maxRecDepth 10000 in
set_option maxHeartbeats 2000000 in
theorem upTo1 (w : World) (v : Value) (os : List OpV) (hn : os.length ≤ 4000000) (hv : Lies w 21 v (os.map OpV.cells)) (hat : ∀ o ∈ os, OpAt w o) :
    Calls Tryz.prog 13 #[v, .int .i64 1, .int .i64 1] w fun e w' => e = .returned (.int .i64 (-1)) ∧ Below w.heap.size w w' := by
  have hv0 := hv
  obtain ⟨a, c, rfl, -⟩ := hv0
  rw [List.length_map] at hv ⊢
  have HV := hide hv
  have HAT := hide hat
  have HS := hide (St.start w)
  clear hv hat
  go_enter Tryz.func13, Tryz.ntmps13
  go_wp2_with fail
  go_loopw [8] (fun i wr => ∃ (k : Nat) (U : Nat → Prop) (hs : List Nat) (vh : Value), i = .int .i64 k ∧ k ≤ os.length ∧ hs.length ≤ 20 * k ∧ Hid (St w.heap.size U wr w.heap.size (.slice none 0 0) hs vh) ∧ Hid (Below w.heap.size w wr)) (fun i _ => os.length - (intOf i).toNat)
  case atStart => exact ⟨0, _, [], _, rfl, Nat.zero_le _, by simp, HS.out, (Below.refl _ _).alloc (Nat.le_refl _) _⟩
  case round =>
    obtain ⟨k, U, hs, vh, rfl, hk, hhs, HST, HB⟩ := hrel
    by_cases hlt : k < os.length
    · obtain ⟨o, ho⟩ : ∃ o, os[k]? = some o := ⟨_, List.getElem?_eq_getElem hlt⟩
      have hoa := HAT.out o (List.mem_of_getElem? ho)
      obtain ⟨b, off, rfl, hkc, hcs⟩ := scr_at (HV.out.below HB.out) ho
      have HC := hide hcs
      have HOA := hide (hoa.below HB.out)
      clear hcs ho hoa
      by_cases h1 : o.kind < 1
      · have hd1 : decide (o.kind < 1) = true := by simp; exact h1
        go_wp2_with fail
        exact ⟨⟨k + 1, U, hs, vh, by go_num, by omega, by omega, HST.out, HB.out⟩, by simp [intOf]; omega⟩
      · by_cases h2 : 1 < o.kind
        · have hd1 : decide (o.kind < 1) = false := by simp; omega
          have hd2 : decide (1 < o.kind) = true := by simp; omega
          go_wp2_with fail
          exact ⟨⟨k + 1, U, hs, vh, by go_num, by omega, by omega, HST.out, HB.out⟩, by simp [intOf]; omega⟩
        · have hk1 : o.kind = 1 := by omega
          rw [hk1] at hkc
          have HK1 := hide hk1
          clear h1 h2 hk1
          go_wp2_with (refine wpList_load_cells _ rfl 79 _ rfl ⟨b, off + k * 21, none⟩ rfl o.arr _ undO rfl oI HC.out ?_)
          refine (step1 wr w.heap.size w.heap.size U (.slice none 0 0) hs vh o HK1.out (by omega) HST.out HOA.out).mono ?_
          rintro e w2 ⟨rfl, hb2, U2, hs2, vh2, hst2, hl2, -⟩
          have HST2 := hide hst2
          have HB2 := hide (HB.out.trans hb2)
          clear hkc hb2 hst2
          go_wp2_with fail
          refine (looks_any w2 w.heap.size w.heap.size U2 (.slice none 0 0) hs2 vh2 (by omega) HST2.out.world).mono ?_
          rintro e w3 ⟨rfl, n3, hw3⟩
          have HST3 : Hid (St w.heap.size U2 w3 w.heap.size (.slice none 0 0) hs2 vh2) := by rw [hw3]; exact HST2.out.below (below_drewN (Below.refl _ _) n3)
          have HB3 : Hid (Below w.heap.size w w3) := by rw [hw3]; exact below_drewN HB2.out n3
          clear hw3
          go_wp2_with fail
          exact ⟨⟨k + 1, U2, hs2, vh2, by go_num, by omega, by omega, HST3.out, HB3.out⟩, by simp [intOf]; omega⟩
    · go_wp2_with fail
      go_ret
      exact ⟨rfl, HB.out⟩
end Go.Proofs.YtafoepfhepdcoaaGreat

/- example: the document's examples, as a script. -/
namespace Go.Proofs.YtafoepfhepdcoaaGreat
open Go.RowKit Go.Trawl

def nilE : Value := .slice none 0 0
def zM : Msg := ⟨0, false, 0, false, false, false, false, 0, [], [], [], []⟩
def nmA : ByteArray := ⟨#[1, 97, 0]⟩
def mQ : Msg := ⟨1, false, 0, false, false, false, false, 0, [⟨nmA, 1, 1⟩], [], [], []⟩
def mR : Msg := ⟨1, true, 0, true, false, false, false, 0, [⟨nmA, 1, 1⟩], [⟨nmA, 1, 1, 0, ⟨#[1, 2, 3, 4]⟩⟩], [], []⟩
def m16 : Msg := ⟨0, false, 16, false, false, false, false, 0, [], [], [], []⟩
def opM (k : Int) (m : Msg) (vq va vu vx : Value) : OpV := ⟨k, 0, m, vq, va, vu, vx, ⟨#[]⟩, 0, 0, 0, 0, 0, .slice none 0 0, []⟩
def opS (k f : Int) (s : ByteArray) : OpV := ⟨k, 0, zM, .slice none 0 0, .slice none 0 0, .slice none 0 0, .slice none 0 0, s, f, 0, 0, 0, 0, .slice none 0 0, []⟩
def opC (b d c t : Int) (vr : Value) (rs : List Int) : OpV := ⟨3, 0, zM, .slice none 0 0, .slice none 0 0, .slice none 0 0, .slice none 0 0, ⟨#[]⟩, 0, b, d, c, t, vr, rs⟩

theorem buildQ3 (s : ByteArray) (a b : Int) (W : World) : (Instr.build 41 #[(0, .string s), (1, .int .u16 a), (2, .int .u16 b)]).run Tryz.prog W = .ok (.agg #[.string s, .int .u16 a, .int .u16 b]) W := run_build W _ _ _ (by kernel_rfl)
theorem buildR4 (s t : ByteArray) (a b : Int) (W : World) : (Instr.build 69 #[(0, .string s), (1, .int .u16 a), (2, .int .u16 b), (4, .string t)]).run Tryz.prog W = .ok (.agg #[.string s, .int .u16 a, .int .u16 b, .int .u32 0, .string t]) W := run_build W _ _ _ (by kernel_rfl)
theorem buildM1 (i : Int) (a : Option Addr) (n c : Nat) (W : World) : (Instr.build 30 #[(0, .int .u16 i), (8, .slice a n c)]).run Tryz.prog W = .ok (.agg #[.int .u16 i, .bool false, .int .i64 0, .bool false, .bool false, .bool false, .bool false, .int .i64 0, .slice a n c, .slice none 0 0, .slice none 0 0, .slice none 0 0]) W := run_build W _ _ _ (by kernel_rfl)
theorem buildM16 (i : Int) (W : World) : (Instr.build 30 #[(2, .int .i64 i)]).run Tryz.prog W = .ok (.agg #[.int .u16 0, .bool false, .int .i64 i, .bool false, .bool false, .bool false, .bool false, .int .i64 0, .slice none 0 0, .slice none 0 0, .slice none 0 0, .slice none 0 0]) W := run_build W _ _ _ (by kernel_rfl)
theorem buildC5 (x y z t : Int) (a : Option Addr) (n c : Nat) (W : World) : (Instr.build 57 #[(0, .int .i64 x), (1, .int .i64 y), (2, .int .i64 z), (3, .int .i64 t), (4, .slice a n c)]).run Tryz.prog W = .ok (.agg #[.int .i64 x, .int .i64 y, .int .i64 z, .int .i64 t, .slice a n c]) W := run_build W _ _ _ (by kernel_rfl)
theorem buildOM (k i o d : Int) (r w' c' w2 ab : Bool) (a1 a2 a3 a4 : Option Addr) (n1 n2 n3 n4 c1 c2 c3 c4 : Nat) (q : List Qn) (x y z : List Rc) (W : World) :
    (Instr.build 79 #[(0, .int .i64 k), (2, .agg #[.int .u16 i, .bool r, .int .i64 o, .bool w', .bool c', .bool w2, .bool ab, .int .i64 d, .slice a1 n1 c1, .slice a2 n2 c2, .slice a3 n3 c3, .slice a4 n4 c4])]).run Tryz.prog W =
      .ok (.agg (opM k ⟨i, r, o, w', c', w2, ab, d, q, x, y, z⟩ (.slice a1 n1 c1) (.slice a2 n2 c2) (.slice a3 n3 c3) (.slice a4 n4 c4)).arr) W := run_build W _ _ _ (by kernel_rfl)
theorem buildOQ (a1 : Option Addr) (n1 c1 : Nat) (W : World) : (Instr.build 79 #[(0, .int .i64 1), (2, .agg #[.int .u16 1, .bool false, .int .i64 0, .bool false, .bool false, .bool false, .bool false, .int .i64 0, .slice a1 n1 c1, .slice none 0 0, .slice none 0 0, .slice none 0 0])]).run Tryz.prog W =
      .ok (.agg (opM 1 mQ (.slice a1 n1 c1) (.slice none 0 0) (.slice none 0 0) (.slice none 0 0)).arr) W := run_build W _ _ _ (by kernel_rfl)
theorem buildOR (a1 a2 : Option Addr) (n1 c1 n2 c2 : Nat) (W : World) : (Instr.build 79 #[(0, .int .i64 1), (2, .agg #[.int .u16 1, .bool true, .int .i64 0, .bool true, .bool false, .bool false, .bool false, .int .i64 0, .slice a1 n1 c1, .slice a2 n2 c2, .slice none 0 0, .slice none 0 0])]).run Tryz.prog W =
      .ok (.agg (opM 1 mR (.slice a1 n1 c1) (.slice a2 n2 c2) (.slice none 0 0) (.slice none 0 0)).arr) W := run_build W _ _ _ (by kernel_rfl)
theorem buildO16 (W : World) : (Instr.build 79 #[(0, .int .i64 1), (2, .agg #[.int .u16 0, .bool false, .int .i64 16, .bool false, .bool false, .bool false, .bool false, .int .i64 0, .slice none 0 0, .slice none 0 0, .slice none 0 0, .slice none 0 0])]).run Tryz.prog W =
      .ok (.agg (opM 1 m16 (.slice none 0 0) (.slice none 0 0) (.slice none 0 0) (.slice none 0 0)).arr) W := run_build W _ _ _ (by kernel_rfl)
theorem buildOS (k : Int) (s : ByteArray) (W : World) : (Instr.build 79 #[(0, .int .i64 k), (3, .string s)]).run Tryz.prog W = .ok (.agg (opS k 0 s).arr) W := run_build W _ _ _ (by kernel_rfl)
theorem buildOF (k f : Int) (s : ByteArray) (W : World) : (Instr.build 79 #[(0, .int .i64 k), (4, .int .u32 f), (3, .string s)]).run Tryz.prog W = .ok (.agg (opS k f s).arr) W := run_build W _ _ _ (by kernel_rfl)
theorem buildO0 (k : Int) (W : World) : (Instr.build 79 #[(0, .int .i64 k)]).run Tryz.prog W = .ok (.agg (opS k 0 ⟨#[]⟩).arr) W := run_build W _ _ _ (by kernel_rfl)
theorem buildOC (b d x t : Int) (a : Option Addr) (n c : Nat) (W : World) : (Instr.build 79 #[(0, .int .i64 3), (5, .agg #[.int .i64 b, .int .i64 d, .int .i64 x, .int .i64 t, .slice a n c])]).run Tryz.prog W = .ok (.agg (opC b d x t (.slice a n c) [7]).arr) W := run_build W _ _ _ (by kernel_rfl)

theorem oI3 : (Tryz.prog.info? 79).map (fun i => (i.zero, i.size, i.bytes)) = some (some (.agg (opS 0 0 ⟨#[]⟩).arr), 21, 224) := by kernel_rfl
theorem uO : Tryz.prog.underlying 22 = some (.slice 79) := by kernel_rfl
theorem fill14 (o0 o1 o2 o3 o4 o5 o6 o7 o8 o9 o10 o11 o12 o13 : OpV) :
    Instr.fill (fun i => some (i * 21, 21)) ((Array.range (14 * 21)).map ((Value.agg (opS 0 0 ⟨#[]⟩).arr).cells[· % (Value.agg (opS 0 0 ⟨#[]⟩).arr).cells.size]!))
      [(0, .agg o0.arr), (1, .agg o1.arr), (2, .agg o2.arr), (3, .agg o3.arr), (4, .agg o4.arr), (5, .agg o5.arr), (6, .agg o6.arr), (7, .agg o7.arr), (8, .agg o8.arr), (9, .agg o9.arr), (10, .agg o10.arr), (11, .agg o11.arr), (12, .agg o12.arr), (13, .agg o13.arr)] =
      some (([o0, o1, o2, o3, o4, o5, o6, o7, o8, o9, o10, o11, o12, o13].map OpV.cells).flatten.toArray) := by kernel_rfl

theorem wpList_script {ops : Array Oper} {rest : List Oper} {o : Oper} {a : Act} {w : World} {Q : Exit → Act → World → Prop} (hgd : o.guard = none) (x0 x1 x2 x3 x4 x5 x6 x7 x8 x9 x10 x11 x12 x13 : Operand)
    (ho : o.op = .buildSlice 22 14 #[(0, x0), (1, x1), (2, x2), (3, x3), (4, x4), (5, x5), (6, x6), (7, x7), (8, x8), (9, x9), (10, x10), (11, x11), (12, x12), (13, x13)]) (o0 o1 o2 o3 o4 o5 o6 o7 o8 o9 o10 o11 o12 o13 : OpV)
    (h0 : a.eval x0 = .agg o0.arr) (h1 : a.eval x1 = .agg o1.arr) (h2 : a.eval x2 = .agg o2.arr) (h3 : a.eval x3 = .agg o3.arr) (h4 : a.eval x4 = .agg o4.arr) (h5 : a.eval x5 = .agg o5.arr) (h6 : a.eval x6 = .agg o6.arr) (h7 : a.eval x7 = .agg o7.arr) (h8 : a.eval x8 = .agg o8.arr) (h9 : a.eval x9 = .agg o9.arr) (h10 : a.eval x10 = .agg o10.arr) (h11 : a.eval x11 = .agg o11.arr) (h12 : a.eval x12 = .agg o12.arr) (h13 : a.eval x13 = .agg o13.arr)
    (h : wpList Tryz.prog ops Q rest (a.put o.dst (.slice (some ⟨w.heap.size, 0, none⟩) 14 14)) (w.alloc (.cells (([o0, o1, o2, o3, o4, o5, o6, o7, o8, o9, o10, o11, o12, o13].map OpV.cells).flatten.toArray) 79))) : wpList Tryz.prog ops Q (o :: rest) a w := by
  obtain ⟨io, io0, io1, io2, io3⟩ := info_parts oI3
  refine wpList_buildSlice hgd 22 79 14 _ ho _ io _ uO io0 io1 (by rw [io2]; decide) (by rw [io2]; decide) ?_ h
  rw [io2]
  simp only [List.map_toArray, List.map_cons, List.map_nil, h0, h1, h2, h3, h4, h5, h6, h7, h8, h9, h10, h11, h12, h13]
  exact fill14 o0 o1 o2 o3 o4 o5 o6 o7 o8 o9 o10 o11 o12 o13
end Go.Proofs.YtafoepfhepdcoaaGreat
