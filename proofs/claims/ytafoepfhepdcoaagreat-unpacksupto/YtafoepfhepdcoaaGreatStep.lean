/- free and step, of a Pack; the script. -/
import Derived.Test.YtafoepfhepdcoaaGreatPacked
namespace Go.Proofs.YtafoepfhepdcoaaGreat
open Go.RowKit Go.Trawl

/-- A step of a script, and where its lists lie. -/
structure OpV where
  kind : Int
  n : Int
  m : Msg
  vq : Value
  va : Value
  vu : Value
  vx : Value
  s : ByteArray
  frm : Int
  b : Int
  d : Int
  c : Int
  t : Int
  vr : Value
  rs : List Int
def OpV.arr (o : OpV) : Array Value :=
  #[.int .i64 o.kind, .int .i64 o.n, .int .u16 o.m.id, .bool o.m.resp, .int .i64 o.m.op, .bool o.m.own, .bool o.m.cut, .bool o.m.wanted, .bool o.m.able, .int .i64 o.m.code, o.vq, o.va, o.vu, o.vx,
    .string o.s, .int .u32 o.frm, .int .i64 o.b, .int .i64 o.d, .int .i64 o.c, .int .i64 o.t, o.vr]
def OpV.cells (o : OpV) : List Value := o.arr.toList
structure OpAt (w : World) (o : OpV) : Prop where
  k0 : -9223372036854775808 ≤ o.kind
  k1 : o.kind ≤ 9223372036854775807
  n0 : -9223372036854775808 ≤ o.n
  n1 : o.n ≤ 9223372036854775807
  wf : WfM o.m
  msg : MsgAt w o.m o.vq o.va o.vu o.vx
  s : o.s.size ≤ 2097152
  f0 : 0 ≤ o.frm
  f1 : o.frm ≤ 4294967295
  r : Lies w 1 o.vr (o.rs.map fun x => [.int .u32 x])
  rn : o.rs.length ≤ 2097152
  b0 : -9223372036854775808 ≤ o.b
  b1 : o.b ≤ 9223372036854775807
  d0 : -9223372036854775808 ≤ o.d
  d1 : o.d ≤ 9223372036854775807
  c0 : -9223372036854775808 ≤ o.c
  c1 : o.c ≤ 9223372036854775807
  t0 : -9223372036854775808 ≤ o.t
  t1 : o.t ≤ 9223372036854775807
  rs : ∀ x ∈ o.rs, 0 ≤ x ∧ x ≤ 4294967295
theorem OpAt.below {w w' : World} {o : OpV} (h : OpAt w o) (hb : Below w.heap.size w w') : OpAt w' o :=
  { h with msg := h.msg.below hb, r := h.r.below hb }

/-- A struct is loaded whose cells are known. -/
theorem wpList_load_cells {P : Program} (w : World) {ops : Array Oper} {rest : List Oper} {o : Oper} {a : Act} {Q : Exit → Act → World → Prop} (hgd : o.guard = none) (ty : TypeId) (x : Operand) (ho : o.op = .load ty x)
    (ad : Addr) (hx : a.eval x = .pointer (some ad)) (cs : Array Value) (d : TypeDesc) (hu : P.underlying ty = some d) (hd : (match d with | .struct _ | .array _ _ => true | _ => false) = true) (hi : (P.info? ty).map (·.size) = some cs.size)
    (hc : ∀ j v, cs.toList[j]? = some v → w.cell? (ad.add j) = some v)
    (h : wpList P ops Q rest (a.put o.dst (.agg cs)) w) : wpList P ops Q (o :: rest) a w := by
  refine wpList_plain hgd fun K hK => ?_
  have hl := run_loadCells_list (P := P) w ad cs.toList hc
  have hr : (loadVar ty ad).run P w = .ok (.agg cs) w := by
    cases hq : P.info? ty with
    | none => simp [hq] at hi
    | some i =>
      have hs : i.size = cs.size := by simpa [hq] using hi
      have hagg : (isAgg ty).run P w = .ok true w := by
        unfold isAgg
        rw [Sem.run_bind, run_underlying hu w]
        cases d <;> simp_all
      simp only [Array.length_toList, Array.toArray_toList] at hl
      simp [loadVar, Sem.run_bind, hagg, sizeOf, typeInfo, hq, hs, hl]
  unfold Oper.wp execOp
  simp only [ho, hx, Instr.loadAt, Instr.sureAddr, Sem.run_bind, Sem.run_pure, Result.andThen_ok, hr]
  exact hK _ _ h
theorem undO : Tryz.prog.underlying 79 = some (.struct (Tryz.prog.fieldsOf 79)) := by kernel_rfl
theorem oI : (Tryz.prog.info? 79).map (·.size) = some 21 := by kernel_rfl

set_option maxRecDepth 10000 in
set_option maxHeartbeats 1000000 in
theorem free1 (w : World) (B ws : Nat) (U : Nat → Prop) (vps : Value) (hs : List Nat) (vh : Value) (o : OpV) (hk : o.kind = 1) (hl : hs.length ≤ 99999960) (hst : St B U w ws vps hs vh) (ho : OpAt w o) :
    Calls Tryz.prog 50 #[ptrV ws, .agg o.arr] w fun e w' => e = .returned (.bool true) ∧ Below B w w' ∧ ∃ U' hs' vh', St B U' w' ws vps hs' vh' ∧ hs'.length = hs.length + 20 ∧ Went w w' ws (fun _ => False) U U' vh vh' := by
  have HST := hide hst
  have HO := hide ho
  clear hst ho
  unfold ptrV OpV.arr
  rw [hk]
  go_enter Tryz.func50, Tryz.ntmps50
  go_wp2_with fail
  have hbl : Below w.heap.size w (w.alloc (.cells o.arr 79)) := (Below.refl _ _).alloc (Nat.le_refl _) _
  unfold OpV.arr at hbl
  rw [hk] at hbl
  refine (packed_any _ B ws U vps hs vh o.m o.vq o.va o.vu o.vx hl (HST.out.below hbl) HO.out.wf (HO.out.msg.below hbl)).mono ?_
  rintro e w2 ⟨rfl, hb2, U2, hs2, vh2, hex1, hex2, hex3⟩
  have hex := (⟨U2, hs2, vh2, hex1, hex2, Went.after hbl hex3⟩ : ∃ U' hs' vh', St B U' w2 ws vps hs' vh' ∧ hs'.length = hs.length + 20 ∧ Went w w2 ws (fun _ => False) U U' vh vh')
  have HB2 := hide ((hbl.mono HST.out.sz).trans hb2)
  have HE := hide hex
  clear hb2 hex hex1 hex2 hex3 hbl
  go_wp2_with fail
  go_ret
  exact ⟨rfl, HB2.out, HE.out⟩

set_option maxRecDepth 10000 in
set_option maxHeartbeats 1000000 in
theorem step1 (w : World) (B ws : Nat) (U : Nat → Prop) (vps : Value) (hs : List Nat) (vh : Value) (o : OpV) (hk : o.kind = 1) (hl : hs.length ≤ 99999960) (hst : St B U w ws vps hs vh) (ho : OpAt w o) :
    Calls Tryz.prog 28 #[ptrV ws, .agg o.arr] w fun e w' => e = .returned (.bool true) ∧ Below B w w' ∧ ∃ U' hs' vh', St B U' w' ws vps hs' vh' ∧ hs'.length = hs.length + 20 ∧ Went w w' ws (fun _ => False) U U' vh vh' := by
  obtain ⟨kind, n, m, vq, va, vu, vx, s, frm, b, d, c, t, vr, rs⟩ := o
  dsimp only at hk
  subst hk
  have HST := hide hst
  have HO := hide ho
  clear hst ho
  unfold ptrV OpV.arr
  dsimp only
  go_enter Tryz.func28, Tryz.ntmps28
  go_wp2_with (refine wpList_load_cells _ rfl 79 _ rfl ⟨w.heap.size, 0, none⟩ rfl (OpV.arr ⟨1, n, m, vq, va, vu, vx, s, frm, b, d, c, t, vr, rs⟩) _ undO rfl oI (cells_new w (OpV.arr ⟨1, n, m, vq, va, vu, vx, s, frm, b, d, c, t, vr, rs⟩) 79) ?_)
  have hbl : Below w.heap.size w (w.alloc (.cells (OpV.arr ⟨1, n, m, vq, va, vu, vx, s, frm, b, d, c, t, vr, rs⟩) 79)) := (Below.refl _ _).alloc (Nat.le_refl _) _
  refine (free1 _ B ws U vps hs vh ⟨1, n, m, vq, va, vu, vx, s, frm, b, d, c, t, vr, rs⟩ rfl hl (HST.out.below hbl) (HO.out.below hbl)).mono ?_
  rintro e w2 ⟨rfl, hb2, U2, hs2, vh2, hex1, hex2, hex3⟩
  have hex := (⟨U2, hs2, vh2, hex1, hex2, Went.after hbl hex3⟩ : ∃ U' hs' vh', St B U' w2 ws vps hs' vh' ∧ hs'.length = hs.length + 20 ∧ Went w w2 ws (fun _ => False) U U' vh vh')
  have HB2 := hide ((hbl.mono HST.out.sz).trans hb2)
  have HE := hide hex
  clear hb2 hex hex1 hex2 hex3 hbl
  go_wp2_with fail
  go_ret
  exact ⟨rfl, HB2.out, HE.out⟩
end Go.Proofs.YtafoepfhepdcoaaGreat
