/- append to a row of the call's own: the block stays, or it is new -/
import Derived.Test.YthhceggcdaljdaaGreatG02
import Derived.ArgAppend
import Derived.Test.YthhceggcdaljdaaGreatG03
namespace Go.Proofs.YthhceggcdaljdaaGreat
open Go.RowKit
set_option linter.unusedVariables false
set_option linter.unusedSimpArgs false

/-- the block stays, or it is a new one -/
def StaysOrNew (w : World) (v v' : Value) : Prop := v'.ownBlock = v.ownBlock ∨ ∀ k, v'.ownBlock = some k → w.heap.size ≤ k
namespace RowKind
variable {α : Type} {R : RowKind α}
theorem run_appendB {w : World} {B : Nat} {v vx : Value} {xs ys : List α} (hown : R.Own B w v xs) (hz : R.App w vx ys) (hlen : xs.length + ys.length ≤ 1000000) (hB : B ≤ w.heap.size) (ty : TypeId) :
    ∃ v' w', (Builtin.append_ #[R.tS, R.tS] ty #[v, vx]).run Tryz.prog w = .ok v' w' ∧ R.Own B w' v' (xs ++ ys) ∧ w.grownBy w' v.ownBlock ∧ StaysOrNew w v v' := by
  obtain ⟨i0, hi, hz0, hz1, hz2⟩ := info_parts R.info
  obtain ⟨ad, c, rfl, hc⟩ := hz
  have hm : xs.length + ys.length ≤ maxLen := by unfold maxLen; omega
  obtain ⟨v', w', hr, h1, h2, _⟩ := run_append_own (P := Tryz.prog) w B R.tS ty R.tE i0 R.zero R.k R.bytes R.under hi hz0 hz1 hz2 R.zlen R.k0 v xs.length (R.cells xs) hown ad ys.length c (R.cells ys) (R.cells_len ys) hc one_cells hm (byt_ok hlen) hB
  refine ⟨v', w', hr, ?_, h2, ?_⟩
  · unfold Own
    rw [R.cells_append, List.length_append]
    exact h1
  · obtain ⟨hl, ⟨rfl, hn⟩ | ⟨g, cap, cur, rfl, hg0, hg, hle, hmx, hcs, htk⟩⟩ := hown
    · have hx : xs = [] := List.length_eq_zero_iff.1 hn
      subst hx
      obtain ⟨v2, w2, hr2, k1, _, _⟩ := run_append_own (P := Tryz.prog) w w.heap.size R.tS ty R.tE i0 R.zero R.k R.bytes R.under hi hz0 hz1 hz2 R.zlen R.k0 (.slice none 0 0) 0 [] (World.ownsRow_nil w _ R.tE R.k) ad ys.length c (R.cells ys) (R.cells_len ys) hc one_cells (by simpa using hm) (byt_ok (by simpa using hlen)) (Nat.le_refl _)
      rw [hr] at hr2
      injection hr2 with e1 e2
      subst e1
      subst e2
      exact .inr fun k hk => (World.ownsRow.lt k1 k hk).1
    · by_cases hroom : xs.length + ys.length ≤ cap
      · have hk := R.k0
        have hsz : ∀ j, j < (R.cells ys).length → xs.length * i0.size + j < cur.size := fun j hj => by
          rw [R.cells_len] at hj
          rw [hcs, hz1]
          have : (xs.length + ys.length) * R.k ≤ cap * R.k := Nat.mul_le_mul_right _ hroom
          rw [Nat.add_mul] at this
          omega
        have hrun := run_append_room_cells (P := Tryz.prog) w R.tS ty R.tE i0 R.under hi g 0 xs.length cap ad ys.length c (R.cells ys) (by rw [hz1]; exact R.cells_len ys) hc one_cells hroom
          (fun j hj => by rw [Nat.zero_add]; unfold World.cell?; simp only [hg]; rw [Array.getElem?_eq_getElem (hsz j hj)]; rfl)
          (fun j hj => by unfold World.frozen?; simp only [hg]; simp)
        rw [hr] at hrun
        injection hrun with e1 e2
        subst e1
        exact .inl rfl
      · obtain ⟨v2, w2, hr2, k1, _⟩ := run_append_arg_grows (P := Tryz.prog) w R.tS ty R.tE i0 R.zero R.k R.bytes R.under hi hz0 hz1 hz2 R.zlen R.k0 ⟨g, 0, none⟩ xs.length cap (R.cells xs) (R.cells_len xs)
          (fun j u hj => by
            rw [Addr.add_lit, Nat.zero_add]
            unfold World.cell?
            simp only [hg]
            rw [← htk] at hj
            rw [List.getElem?_take] at hj
            split at hj
            · simpa using hj
            · cases hj)
          ad ys.length c (R.cells ys) (R.cells_len ys) hc (by omega) hm (byt_ok hlen)
        rw [hr] at hr2
        injection hr2 with e1 e2
        subst e1
        subst e2
        exact .inr fun k hk => (World.ownsRow.lt k1 k hk).1
theorem wp_of_runB {P : Program} {o : Oper} {a : Act} {K : Act → World → Prop} {Q : Exit → Act → World → Prop} {w w' : World} {v : Value} {s x : Operand} {t : TypeId}
    (ho : o.op = .call { callee := .builtin .append, args := #[s, x], argTypes := #[t, t] }) (hr : (Builtin.append_ #[t, t] o.type #[a.eval s, a.eval x]).run P w = .ok v w') (h : K (a.put o.dst v) w') : o.wp P a w K Q := by
  unfold Oper.wp execOp
  simp only [ho, resolve, invoke, builtin, Sem.run_bind, Sem.run_pure, Result.andThen_ok, List.map_toArray, List.map_cons, List.map_nil, hr]
  exact h
theorem Own.appendB {ops : Array Oper} {rest : List Oper} {o : Oper} {a : Act} {Q : Exit → Act → World → Prop} {w : World} (hgd : o.guard = none) (s x : Operand)
    (ho : o.op = .call { callee := .builtin .append, args := #[s, x], argTypes := #[R.tS, R.tS] }) {B : Nat} {v vx : Value} {xs : List α} (hown : R.Own B w v xs) (hs : a.eval s = v) (ys : List α)
    (hx : a.eval x = vx) (hz : R.App w vx ys) (hlen : xs.length + ys.length ≤ 1000000) (hbase : B ≤ w.heap.size)
    (h : ∀ v' w', R.Own B w' v' (xs ++ ys) → w.grownBy w' v.ownBlock → StaysOrNew w v v' → wpList Tryz.prog ops Q rest (a.put o.dst v') w') : wpList Tryz.prog ops Q (o :: rest) a w := by
  obtain ⟨v', w', hr, h1, h2, h3⟩ := run_appendB hown hz hlen hbase o.type
  refine wpList_plain hgd fun _ hK => wp_of_runB ho (by rw [hs, hx]; exact hr) (hK _ _ (h v' w' h1 h2 h3))
theorem Own.appendBR {ops : Array Oper} {o : Oper} {a : Act} {K : Act → World → Prop} {Q : Exit → Act → World → Prop} {E : Prop} {w : World} (hgd : o.guard = none) (s x : Operand)
    (ho : o.op = .call { callee := .builtin .append, args := #[s, x], argTypes := #[R.tS, R.tS] }) {B : Nat} {v vx : Value} {xs : List α} (hown : R.Own B w v xs) (hs : a.eval s = v) (ys : List α)
    (hx : a.eval x = vx) (hz : R.App w vx ys) (hlen : xs.length + ys.length ≤ 1000000) (hbase : B ≤ w.heap.size)
    (h : ∀ v' w', R.Own B w' v' (xs ++ ys) → w.grownBy w' v.ownBlock → StaysOrNew w v v' → K (a.put o.dst v') w') :
    if Region.wanted o (yielded ops a.tmps) = true then Oper.wp Tryz.prog o a w K Q else E := by
  have hw : Region.wanted o (yielded ops a.tmps) = true := by simp [Region.wanted, hgd]
  rw [if_pos hw]
  obtain ⟨v', w', hr, h1, h2, h3⟩ := run_appendB hown hz hlen hbase o.type
  exact wp_of_runB ho (by rw [hs, hx]; exact hr) (h v' w' h1 h2 h3)
end RowKind
end Go.Proofs.YthhceggcdaljdaaGreat
/- a row of the call's own: an element is stored in its place; the rest of it is cleared and cut off -/
namespace Go.Proofs.YthhceggcdaljdaaGreat
open Go.RowKit
set_option linter.unusedVariables false
set_option linter.unusedSimpArgs false
set_option linter.unusedSectionVars false

theorem run_storeCells_at (P : Program) (b o : Nat) : ∀ (vs : List Value) (i : Nat) (w : World) (c : Array Value), rowOf w b = some c → o + i + vs.length ≤ c.size → (∀ v ∈ vs, v.oneCell' = true) →
    (storeCells ⟨b, o, none⟩ vs i).run P w = .ok () (setRow w b (putFrom c (o + i) vs))
  | [], i, w, c, hc, _, _ => by rw [putFrom, setRow_self hc]; rfl
  | v :: rest, i, w, c, hc, hn, ho => by
    simp only [List.length_cons] at hn
    have hi : o + i < c.size := by omega
    have hcell : w.cell? ⟨b, o + i, none⟩ = some c[o + i] := by rw [rowOf_cell hc]; exact Array.getElem?_eq_getElem hi
    have hst : (store ((⟨b, o, none⟩ : Addr).add i) v).run P w = .ok () (w.setCell ⟨b, o + i, none⟩ v) := by
      rw [Addr.add_lit, run_store P w _ v _ (ho v (by simp)), hcell]
      simp only [rowOf_frozen hc]
      rfl
    have hrow : rowOf (w.setCell ⟨b, o + i, none⟩ v) b = some (c.setIfInBounds (o + i) v) := by rw [rowOf_setCell_same, hc]; rfl
    have ih := run_storeCells_at P b o rest (i + 1) (w.setCell ⟨b, o + i, none⟩ v) (c.setIfInBounds (o + i) v) hrow (by simp; omega) (fun x hx => ho x (by simp [hx]))
    rw [storeCells, Sem.run_bind, hst]
    show (storeCells ⟨b, o, none⟩ rest (i + 1)).run P (w.setCell ⟨b, o + i, none⟩ v) = _
    rw [ih, setCell_row hc, setRow_setRow]
    rfl
theorem grown_setRow (w : World) (g : Nat) (c : Array Value) : w.grownBy (setRow w g c) (some g) :=
  ⟨rfl, rfl, rfl, by rw [size_setRow]; exact Nat.le_refl _, fun k _ hne => heap_setRow w g c k fun e => hne (by rw [e])⟩
namespace RowKind
section
variable {α : Type} [Inhabited α] {R : RowKind α}
theorem Own.row {B : Nat} {w : World} {g n cap : Nat} {xs : List α} (h : R.Own B w (.slice (some ⟨g, 0, none⟩) n cap) xs) :
    ∃ cur, w.heap[g]? = some (.cells cur R.tE (0, 0)) ∧ n = xs.length ∧ B ≤ g ∧ xs.length ≤ cap ∧ cap ≤ maxLen ∧ cur.size = cap * R.k ∧ cur.toList.take (xs.length * R.k) = R.cells xs := by
  obtain ⟨h1, h2⟩ := h
  rcases h2 with ⟨e, _⟩ | ⟨g', cap', cur, e, hB, hg, hc, hm, hs, ht⟩
  · cases e
  · simp only [Value.slice.injEq, Option.some.injEq, Addr.mk.injEq, and_true] at e
    obtain ⟨e1, e2, e3⟩ := e
    subst e1; subst e3
    exact ⟨cur, hg, e2, hB, hc, hm, hs, ht⟩
theorem Own.rowOf {B : Nat} {w : World} {g n cap : Nat} {xs : List α} {cur : Array Value} (hg : w.heap[g]? = some (.cells cur R.tE (0, 0))) : Go.Proofs.YthhceggcdaljdaaGreat.rowOf w g = some cur := by
  unfold Go.Proofs.YthhceggcdaljdaaGreat.rowOf
  rw [hg]
  simp
theorem heap_set {w : World} {g : Nat} {cur c : Array Value} {t : TypeId} (hg : w.heap[g]? = some (.cells cur t (0, 0))) : (setRow w g c).heap[g]? = some (.cells c t (0, 0)) := by
  simp [setRow, Array.getElem?_modify, hg]
theorem cells_at {xs : List α} {t : Nat} (ht : t < xs.length * R.k) : (R.cells xs)[t]? = (R.enc xs[t / R.k]!)[t % R.k]? := by
  have hk := R.k0
  have e : t = t / R.k * R.k + t % R.k := by rw [Nat.mul_comm]; exact (Nat.div_add_mod t R.k).symm
  have hq : t / R.k < xs.length := Nat.div_lt_of_lt_mul (by rw [Nat.mul_comm]; exact ht)
  have := R.cells_get xs (t / R.k) hq (t % R.k) (Nat.mod_lt _ hk)
  rw [← e] at this
  exact this
theorem Own.setAt {B : Nat} {w : World} {g n cap : Nat} {xs : List α} (h : R.Own B w (.slice (some ⟨g, 0, none⟩) n cap) xs) {i : Nat} (hi : i < xs.length) (x : α) {cur : Array Value} (hg : w.heap[g]? = some (.cells cur R.tE (0, 0))) :
    R.Own B (setRow w g (putFrom cur (i * R.k) (R.enc x))) (.slice (some ⟨g, 0, none⟩) n cap) (xs.set i x) := by
  obtain ⟨cur', hg', hn, hB, hc, hm, hs, ht⟩ := h.row
  rw [hg] at hg'
  simp only [Option.some.injEq, Obj.cells.injEq, and_true] at hg'
  subst hg'
  have hk := R.k0
  have hle : (i + 1) * R.k ≤ cap * R.k := Nat.mul_le_mul_right _ (by omega)
  rw [Nat.add_mul, Nat.one_mul] at hle
  refine ⟨R.cells_len _, .inr ⟨g, cap, putFrom cur (i * R.k) (R.enc x), by rw [List.length_set, hn], hB, heap_set hg, by rw [List.length_set]; exact hc, hm, by rw [size_putFrom, hs], ?_⟩⟩
  rw [List.length_set]
  refine List.ext_getElem? fun t => ?_
  rw [List.getElem?_take]
  split
  · rename_i hlt
    rw [Array.getElem?_toList, get_putFrom _ _ _ _ (by rw [R.len]; omega), R.len, cells_at (by rw [List.length_set]; exact hlt)]
    have e : t = t / R.k * R.k + t % R.k := by rw [Nat.mul_comm]; exact (Nat.div_add_mod t R.k).symm
    have hmod := Nat.mod_lt t hk
    by_cases hq : t / R.k = i
    · rw [if_pos (by rw [← hq]; omega), hq, getElem!_pos _ i (by rw [List.length_set]; exact hi), List.getElem_set_self]
      congr 1
      rw [← hq]
      omega
    · have hne : ¬ (i * R.k ≤ t ∧ t < i * R.k + R.k) := by
        rintro ⟨q1, q2⟩
        apply hq
        have := (Nat.le_div_iff_mul_le hk).2 q1
        have := (Nat.div_lt_iff_lt_mul hk).2 (show t < (i + 1) * R.k by rw [Nat.add_mul]; omega)
        omega
      have hql : t / R.k < xs.length := Nat.div_lt_of_lt_mul (by rw [Nat.mul_comm]; exact hlt)
      have hl : (xs.set i x)[t / R.k]! = xs[t / R.k]! := by
        rw [getElem!_pos _ _ (by rw [List.length_set]; exact hql), getElem!_pos xs _ hql, List.getElem_set_ne (Ne.symm hq)]
      rw [if_neg hne, hl, ← cells_at hlt, ← ht, List.getElem?_take, if_pos hlt, Array.getElem?_toList]
  · rename_i hlt
    rw [List.getElem?_eq_none (by rw [R.cells_len, List.length_set]; omega)]
theorem Own.clearAt {B : Nat} {w : World} {g n cap : Nat} {xs : List α} (h : R.Own B w (.slice (some ⟨g, 0, none⟩) n cap) xs) {i : Nat} (hi : i ≤ xs.length) {zs : List Value} (hz : zs.length = (xs.length - i) * R.k) {cur : Array Value} (hg : w.heap[g]? = some (.cells cur R.tE (0, 0))) :
    R.Own B (setRow w g (putFrom cur (i * R.k) zs)) (.slice (some ⟨g, 0, none⟩) i cap) (xs.take i) := by
  obtain ⟨cur', hg', hn, hB, hc, hm, hs, ht⟩ := h.row
  rw [hg] at hg'
  simp only [Option.some.injEq, Obj.cells.injEq, and_true] at hg'
  subst hg'
  have hk := R.k0
  have hlen : (xs.take i).length = i := by rw [List.length_take]; omega
  have hmul : i * R.k + (xs.length - i) * R.k = xs.length * R.k := by rw [← Nat.add_mul]; congr 1; omega
  have hle : xs.length * R.k ≤ cap * R.k := Nat.mul_le_mul_right _ hc
  refine ⟨R.cells_len _, .inr ⟨g, cap, putFrom cur (i * R.k) zs, by rw [hlen], hB, heap_set hg, by rw [hlen]; omega, hm, by rw [size_putFrom, hs], ?_⟩⟩
  rw [hlen]
  refine List.ext_getElem? fun t => ?_
  rw [List.getElem?_take]
  split
  · rename_i hlt
    rw [Array.getElem?_toList, get_putFrom _ _ _ _ (by rw [hz]; omega), if_neg (by omega), cells_at (by rw [hlen]; exact hlt)]
    have hql : t / R.k < i := Nat.div_lt_of_lt_mul (by rw [Nat.mul_comm]; exact hlt)
    have hl : (xs.take i)[t / R.k]! = xs[t / R.k]! := by
      rw [getElem!_pos _ _ (by rw [hlen]; exact hql), getElem!_pos xs _ (by omega), List.getElem_take]
    rw [hl, ← cells_at (by omega), ← ht, List.getElem?_take, if_pos (by omega), Array.getElem?_toList]
  · rename_i hlt
    rw [List.getElem?_eq_none (by rw [R.cells_len, hlen]; omega)]
/-- an element (a whole struct) is stored in its place -/
theorem Own.storeAt {ops : Array Oper} {rest : List Oper} {o : Oper} {a : Act} {Q : Exit → Act → World → Prop} {w : World} {B : Nat} {g n cap : Nat} {xs : List α} (h : R.Own B w (.slice (some ⟨g, 0, none⟩) n cap) xs)
    (hsz : ∀ w, (Go.sizeOf R.tE).run Tryz.prog w = .ok R.k w) {i : Nat} (hi : i < xs.length) (u : α) (hgd : o.guard = none) (x y : Operand) (ho : o.op = .store R.tE x y) (hx : a.eval x = .pointer (some ⟨g, i * R.k, none⟩)) (hy : a.eval y = .agg (R.enc u).toArray)
    (hk : ∀ w', R.Own B w' (.slice (some ⟨g, 0, none⟩) n cap) (xs.set i u) → w.grownBy w' (some g) → wpList Tryz.prog ops Q rest (a.put o.dst undef) w') : wpList Tryz.prog ops Q (o :: rest) a w := by
  obtain ⟨cur, hg, hn, hB, hc, hm, hs, ht⟩ := h.row
  have hle : (i + 1) * R.k ≤ cap * R.k := Nat.mul_le_mul_right _ (by omega)
  rw [Nat.add_mul, Nat.one_mul] at hle
  have hst := run_storeCells_at Tryz.prog g (i * R.k) (R.enc u) 0 w cur (Own.rowOf (R := R) (B := B) (n := n) (cap := cap) (xs := xs) hg) (by rw [R.len, hs]; omega) (R.one u)
  refine wpList_plain hgd fun _ hK => ?_
  have hrun : (Instr.storeAt R.tE (.pointer (some ⟨g, i * R.k, none⟩)) (.agg (R.enc u).toArray)).run Tryz.prog w = .ok () (setRow w g (putFrom cur (i * R.k) (R.enc u))) := by
    simp [Instr.storeAt, Instr.sureAddr, storeVar, Sem.run_bind, hsz, Result.andThen, Value.cells, R.len, hst]
  unfold Oper.wp execOp
  simp only [ho, hx, hy, Sem.run_bind, hrun, Result.andThen, Sem.run_pure, Oper.upon_skip]
  exact hK _ _ (hk _ (h.setAt hi u hg) (grown_setRow _ _ _))
/-- what is behind the first i elements is cleared -/
theorem Own.clearL {ops : Array Oper} {rest : List Oper} {o : Oper} {a : Act} {Q : Exit → Act → World → Prop} {w : World} {B : Nat} {g n cap : Nat} {xs : List α} (h : R.Own B w (.slice (some ⟨g, 0, none⟩) n cap) xs)
    (hzv : ∀ w, (zeroValue R.tE).run Tryz.prog w = .ok R.zero w) (hz1 : ∀ u ∈ R.zero.cells.toList, u.oneCell' = true) {i c : Nat} (hi : i ≤ xs.length) (hgd : o.guard = none) (x : Operand) (ho : o.op = .call { callee := .builtin .clear, args := #[x], argTypes := #[R.tS] })
    (hx : a.eval x = .slice (some ⟨g, i * R.k, none⟩) (xs.length - i) c)
    (hk : ∀ w', R.Own B w' (.slice (some ⟨g, 0, none⟩) i cap) (xs.take i) → w.grownBy w' (some g) → wpList Tryz.prog ops Q rest (a.put o.dst (.tuple #[])) w') : wpList Tryz.prog ops Q (o :: rest) a w := by
  obtain ⟨cur, hg, hn, hB, hc, hm, hs, ht⟩ := h.row
  have hle : xs.length * R.k ≤ cap * R.k := Nat.mul_le_mul_right _ hc
  have hmul : i * R.k + (xs.length - i) * R.k = xs.length * R.k := by rw [← Nat.add_mul]; congr 1; omega
  have hzl : (Builtin.zeroCells R.zero.cells (xs.length - i)).toList.length = (xs.length - i) * R.k := by
    simp [Builtin.zeroCells, R.zlen]
  have hrun : ∃ w', (Builtin.clear_ #[R.tS] o.type #[.slice (some ⟨g, i * R.k, none⟩) (xs.length - i) c]).run Tryz.prog w = .ok (.tuple #[]) w' ∧ R.Own B w' (.slice (some ⟨g, 0, none⟩) i cap) (xs.take i) ∧ w.grownBy w' (some g) := by
    by_cases hz : xs.length - i = 0
    · refine ⟨w, ?_, ?_, ⟨rfl, rfl, rfl, Nat.le_refl _, fun _ _ _ => rfl⟩⟩
      · rw [hz]
        simp [Builtin.clear_, run_underlying R.under]
      · obtain rfl : i = xs.length := by omega
        rw [List.take_length]
        rw [hn] at h
        exact h
    · have hst := run_storeCells_at Tryz.prog g (i * R.k) (Builtin.zeroCells R.zero.cells (xs.length - i)).toList 0 w cur (Own.rowOf (R := R) (B := B) (n := n) (cap := cap) (xs := xs) hg) (by rw [hzl, hs]; omega) (fun v hv => by
        simp only [Builtin.zeroCells, Array.toList_map, List.mem_map, Array.toList_range, List.mem_range] at hv
        obtain ⟨j, hj, rfl⟩ := hv
        have hlt : j % R.zero.cells.size < R.zero.cells.size := Nat.mod_lt _ (by rw [R.zlen]; exact R.k0)
        rw [getElem!_pos R.zero.cells _ hlt]
        exact hz1 _ (by rw [← Array.getElem_toList]; exact List.getElem_mem _))
      refine ⟨_, ?_, h.clearAt hi hzl hg, grown_setRow _ _ _⟩
      obtain ⟨m, hm'⟩ : ∃ m, xs.length - i = m + 1 := ⟨xs.length - i - 1, by omega⟩
      rw [hm'] at hst ⊢
      simp [Builtin.clear_, run_underlying R.under, hzv, hst]
  obtain ⟨w', hr, h1, h2⟩ := hrun
  refine wpList_plain hgd fun _ hK => ?_
  unfold Oper.wp execOp
  simp only [ho, resolve, invoke, builtin, Sem.run_bind, Sem.run_pure, Result.andThen_ok, List.map_toArray, List.map_cons, List.map_nil, hx, hr]
  exact hK _ _ (hk _ h1 h2)
end
end RowKind
end Go.Proofs.YthhceggcdaljdaaGreat
