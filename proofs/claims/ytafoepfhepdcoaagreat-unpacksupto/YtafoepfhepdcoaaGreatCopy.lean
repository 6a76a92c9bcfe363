/- 'copy' of a slice that lies there into a row of the call's own. -/
import Derived.Test.YtafoepfhepdcoaaGreatRead
import Derived.Laws.CopyRow
import Derived.OwnWalk
namespace Go.Trawl
open Go.RowKit

theorem grownBy_setRow (w : World) (g : Nat) (cs : Array Value) : w.grownBy (w.setRow g cs) (some g) :=
  ⟨rfl, rfl, rfl, by simp, fun i _ hne => setRow_other w g i cs (fun e => hne (by rw [e]))⟩

theorem copy_lies {P : Program} (w : World) (t s ty e : TypeId) (i : TypeInfo) (size : Nat) (ht : P.underlying t = some (.slice e)) (hi : P.info? e = some i) (hsize : i.size = size)
    (g n c : Nat) (xs : List Value) (hown : w.ownsRow 0 e size (.slice (some ⟨g, 0, none⟩) n c) n xs) (src : Value) (es : List (List Value)) (hsrc : Lies w size src es) (hes : ∀ x ∈ es, x.length = size ∧ ∀ u ∈ x, u.oneCell' = true) (hle : es.length ≤ n) :
    ∃ w', (Builtin.copy_ #[t, s] ty #[.slice (some ⟨g, 0, none⟩) n c, src]).run P w = .ok (goInt es.length) w' ∧ w'.ownsRow 0 e size (.slice (some ⟨g, 0, none⟩) n c) n (es.flatten ++ xs.drop (es.length * size)) ∧ w.grownBy w' (some g) := by
  obtain ⟨a, c', rfl, hac, h⟩ := hsrc
  have hl := flat_length (sz := size) es (fun x hx => (hes x hx).1)
  have h1 : ∀ u ∈ es.flatten, u.oneCell' = true := by
    intro u hu
    obtain ⟨x, hx, hux⟩ := List.mem_flatten.1 hu
    exact (hes x hx).2 u hux
  have hmin : Nat.min es.length n = es.length := Nat.min_eq_left hle
  have hxl := hown.1
  rcases hown.2 with ⟨h0, _⟩ | ⟨g', cap, cur, e1, _, hg, hnc, hcm, hcs, htake⟩
  · cases h0
  · injection e1 with e2 _ e3
    injection e2 with e2
    injection e2 with e4
    subst e3 e4
    have hmul : es.length * size ≤ n * size := Nat.mul_le_mul_right _ hle
    have hmul2 : n * size ≤ c * size := Nat.mul_le_mul_right _ hnc
    have hst := run_storeCells_at P g 0 e es.flatten 0 cur w hg (by rw [hl]; omega) h1
    refine ⟨w.setRow g (es.flatten ++ cur.toList.drop (es.length * size)).toArray, ?_, ?_, grownBy_setRow _ _ _⟩
    · simp only [Nat.add_zero, Nat.zero_add, List.take_zero, List.nil_append, hl] at hst
      cases a with
      | some ad =>
        have hload := run_loadCells_list (P := P) w ad es.flatten (fun j u hj => by
          rcases h with rfl | ⟨b, off, hab, _, h⟩
          · simp at hj
          · obtain ⟨k, x, r, hk, hr, rfl⟩ := flat_get es (fun x hx => (hes x hx).1) j u hj
            have hab' := Option.some.inj hab
            subst hab'
            have := h k x hk r u hr
            have e1 : (⟨b, off, none⟩ : Addr).add (k * size + r) = ⟨b, off + k * size + r, none⟩ := by simp [Addr.add, Nat.add_assoc]
            rw [e1]; exact this)
        rw [hl] at hload
        simp [Builtin.copy_, run_underlying ht, Builtin.lenOf, Builtin.firstCells, sizeOf, typeInfo, hi, hsize, hmin, hload, hst]
      | none =>
        rcases h with rfl | ⟨b, off, hab, _⟩
        · simp [Builtin.copy_, run_underlying ht, Builtin.lenOf, Builtin.firstCells, sizeOf, typeInfo, hi, storeCells, setRow_self w g cur e (0, 0) hg]
        · cases hab
    · refine ⟨by rw [List.length_append, List.length_drop, hl, hxl]; omega, .inr ⟨g, c, _, rfl, Nat.zero_le _, setRow_heap w g cur _ e _ hg, hnc, hcm, ?_, ?_⟩⟩
      · simp [hl, hcs]; omega
      · simp only
        rw [List.take_append, List.take_of_length_le (by omega), hl, ← htake, List.drop_take]

theorem wpList_copy_lies {P : Program} (w : World) {ops : Array Oper} {rest : List Oper} {o : Oper} {a : Act} {Q : Exit → Act → World → Prop} (hgd : o.guard = none) (d x : Operand) (t s : TypeId) (ho : o.op = .call { callee := .builtin .copy, args := #[d, x], argTypes := #[t, s] })
    (e : TypeId) (i : TypeInfo) (size : Nat) (ht : P.underlying t = some (.slice e)) (hi : P.info? e = some i) (hsize : i.size = size)
    (g n c : Nat) (xs : List Value) (hd : a.eval d = .slice (some ⟨g, 0, none⟩) n c) (src : Value) (es : List (List Value)) (hx : a.eval x = src) (hes : ∀ x ∈ es, x.length = size ∧ ∀ u ∈ x, u.oneCell' = true) (hle : es.length ≤ n)
    (hown : w.ownsRow 0 e size (.slice (some ⟨g, 0, none⟩) n c) n xs) (hsrc : Lies w size src es)
    (h : ∀ w', w'.ownsRow 0 e size (.slice (some ⟨g, 0, none⟩) n c) n (es.flatten ++ xs.drop (es.length * size)) → w.grownBy w' (some g) → wpList P ops Q rest (a.put o.dst (goInt es.length)) w') : wpList P ops Q (o :: rest) a w := by
  refine wpList_plain hgd fun K hK => ?_
  obtain ⟨w', hr, h2, h3⟩ := copy_lies (P := P) w t s o.type e i size ht hi hsize g n c xs hown src es hsrc hes hle
  unfold Oper.wp execOp
  simp only [ho, resolve, invoke, builtin, Sem.run_bind, Sem.run_pure, Result.andThen_ok, List.map_toArray, List.map_cons, List.map_nil, hd, hx, hr]
  exact hK _ _ (h w' h2 h3)

/-- What a new row holds, element by element. -/
theorem made_flat (z : List Value) (hz : 0 < z.length) (n : Nat) : (madeCells z.toArray (n * z.length)).toList = (List.replicate n z).flatten := by
  apply List.ext_getElem?
  intro j
  have hfl := flat_length (sz := z.length) (List.replicate n z) (fun x hx => by rw [List.eq_of_mem_replicate hx])
  rw [List.length_replicate] at hfl
  by_cases hj : j < n * z.length
  · have hm : j % z.length < z.length := Nat.mod_lt _ hz
    have hd : j / z.length < n := (Nat.div_lt_iff_lt_mul hz).2 hj
    have e1 : j = j / z.length * z.length + j % z.length := by rw [Nat.mul_comm]; exact (Nat.div_add_mod j z.length).symm
    have h2 := flat_at (sz := z.length) (List.replicate n z) (fun x hx => by rw [List.eq_of_mem_replicate hx]) (j / z.length) z (j % z.length) (z[j % z.length]) (by rw [List.getElem?_replicate, if_pos hd]) (by rw [List.getElem?_eq_getElem hm])
    rw [← e1] at h2
    rw [h2]
    simp [madeCells, hj, hm]
  · rw [List.getElem?_eq_none (by simp [madeCells]; omega), List.getElem?_eq_none (by omega)]
theorem drop_rep_flat (z : List Value) (n k : Nat) : (List.replicate (k + n) z).flatten.drop (k * z.length) = (List.replicate n z).flatten := by
  rw [← List.replicate_append_replicate, List.flatten_append]
  have hfl := flat_length (sz := z.length) (List.replicate k z) (fun x hx => by rw [List.eq_of_mem_replicate hx])
  rw [List.length_replicate] at hfl
  rw [List.drop_append, List.drop_of_length_le (by omega), hfl]
  simp
end Go.Trawl
