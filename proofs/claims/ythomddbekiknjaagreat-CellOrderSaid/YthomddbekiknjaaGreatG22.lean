/- append to a row of the call's own: the block stays, or it is new -/
import Derived.Test.YthomddbekiknjaaGreatG01
import Derived.ArgAppend
import Derived.Test.YthomddbekiknjaaGreatG02
import Derived.Laws.AppendOwn
import Derived.Test.YthomddbekiknjaaGreatG21
namespace Go.Proofs.YthomddbekiknjaaGreat
open Go.RowKit
set_option linter.unusedVariables false
set_option linter.unusedSimpArgs false

/-- the block stays, or it is a new one -/
def StaysOrNew (w : World) (v v' : Value) : Prop := v'.ownBlock = v.ownBlock ∨ ∀ k, v'.ownBlock = some k → w.heap.size ≤ k
namespace RowKind
variable {α : Type} {R : RowKind α}
theorem run_appendB {w : World} {B : Nat} {v vx : Value} {xs ys : List α} (hown : R.Own B w v xs) (hz : R.App w vx ys) (hlen : xs.length + ys.length ≤ 1000000) (hB : B ≤ w.heap.size) (ty : TypeId) :
    ∃ v' w', (Builtin.append_ #[R.tS, R.tS] ty #[v, vx]).run Tryz.prog w = .ok v' w' ∧ R.Own B w' v' (xs ++ ys) ∧ w.grownBy w' v.ownBlock ∧ StaysOrNew w v v' := by
  obtain ⟨i0, hi, hz0, hz1, hz2⟩ := info_parts R.info
  obtain ⟨ad, c, rfl, hc⟩ := hz
  have hm : xs.length + ys.length ≤ maxLen := by unfold maxLen; omega
  obtain ⟨v', w', hr, h1, h2, _⟩ := run_append_own (P := Tryz.prog) w B R.tS ty R.tE i0 R.zero R.k R.bytes R.under hi hz0 hz1 hz2 R.zlen R.k0 v xs.length (R.cells xs) hown ad ys.length c (R.cells ys) (R.cells_len ys) hc one_cells hm (byt_ok hlen) hB
  refine ⟨v', w', hr, ?_, h2, ?_⟩
  · unfold Own
    rw [R.cells_append, List.length_append]
    exact h1
  · obtain ⟨hl, ⟨rfl, hn⟩ | ⟨g, cap, cur, rfl, hg0, hg, hle, hmx, hcs, htk⟩⟩ := hown
    · have hx : xs = [] := List.length_eq_zero_iff.1 hn
      subst hx
      obtain ⟨v2, w2, hr2, k1, _, _⟩ := run_append_own (P := Tryz.prog) w w.heap.size R.tS ty R.tE i0 R.zero R.k R.bytes R.under hi hz0 hz1 hz2 R.zlen R.k0 (.slice none 0 0) 0 [] (World.ownsRow_nil w _ R.tE R.k) ad ys.length c (R.cells ys) (R.cells_len ys) hc one_cells (by simpa using hm) (byt_ok (by simpa using hlen)) (Nat.le_refl _)
      rw [hr] at hr2
      injection hr2 with e1 e2
      subst e1
      subst e2
      exact .inr fun k hk => (World.ownsRow.lt k1 k hk).1
    · by_cases hroom : xs.length + ys.length ≤ cap
      · have hk := R.k0
        have hsz : ∀ j, j < (R.cells ys).length → xs.length * i0.size + j < cur.size := fun j hj => by
          rw [R.cells_len] at hj
          rw [hcs, hz1]
          have : (xs.length + ys.length) * R.k ≤ cap * R.k := Nat.mul_le_mul_right _ hroom
          rw [Nat.add_mul] at this
          omega
        have hrun := run_append_room_cells (P := Tryz.prog) w R.tS ty R.tE i0 R.under hi g 0 xs.length cap ad ys.length c (R.cells ys) (by rw [hz1]; exact R.cells_len ys) hc one_cells hroom
          (fun j hj => by rw [Nat.zero_add]; unfold World.cell?; simp only [hg]; rw [Array.getElem?_eq_getElem (hsz j hj)]; rfl)
          (fun j hj => by unfold World.frozen?; simp only [hg]; simp)
        rw [hr] at hrun
        injection hrun with e1 e2
        subst e1
        exact .inl rfl
      · obtain ⟨v2, w2, hr2, k1, _⟩ := run_append_arg_grows (P := Tryz.prog) w R.tS ty R.tE i0 R.zero R.k R.bytes R.under hi hz0 hz1 hz2 R.zlen R.k0 ⟨g, 0, none⟩ xs.length cap (R.cells xs) (R.cells_len xs)
          (fun j u hj => by
            rw [Addr.add_lit, Nat.zero_add]
            unfold World.cell?
            simp only [hg]
            rw [← htk] at hj
            rw [List.getElem?_take] at hj
            split at hj
            · simpa using hj
            · cases hj)
          ad ys.length c (R.cells ys) (R.cells_len ys) hc (by omega) hm (byt_ok hlen)
        rw [hr] at hr2
        injection hr2 with e1 e2
        subst e1
        subst e2
        exact .inr fun k hk => (World.ownsRow.lt k1 k hk).1
theorem wp_of_runB {P : Program} {o : Oper} {a : Act} {K : Act → World → Prop} {Q : Exit → Act → World → Prop} {w w' : World} {v : Value} {s x : Operand} {t : TypeId}
    (ho : o.op = .call { callee := .builtin .append, args := #[s, x], argTypes := #[t, t] }) (hr : (Builtin.append_ #[t, t] o.type #[a.eval s, a.eval x]).run P w = .ok v w') (h : K (a.put o.dst v) w') : o.wp P a w K Q := by
  unfold Oper.wp execOp
  simp only [ho, resolve, invoke, builtin, Sem.run_bind, Sem.run_pure, Result.andThen_ok, List.map_toArray, List.map_cons, List.map_nil, hr]
  exact h
theorem Own.appendB {ops : Array Oper} {rest : List Oper} {o : Oper} {a : Act} {Q : Exit → Act → World → Prop} {w : World} (hgd : o.guard = none) (s x : Operand)
    (ho : o.op = .call { callee := .builtin .append, args := #[s, x], argTypes := #[R.tS, R.tS] }) {B : Nat} {v vx : Value} {xs : List α} (hown : R.Own B w v xs) (hs : a.eval s = v) (ys : List α)
    (hx : a.eval x = vx) (hz : R.App w vx ys) (hlen : xs.length + ys.length ≤ 1000000) (hbase : B ≤ w.heap.size)
    (h : ∀ v' w', R.Own B w' v' (xs ++ ys) → w.grownBy w' v.ownBlock → StaysOrNew w v v' → wpList Tryz.prog ops Q rest (a.put o.dst v') w') : wpList Tryz.prog ops Q (o :: rest) a w := by
  obtain ⟨v', w', hr, h1, h2, h3⟩ := run_appendB hown hz hlen hbase o.type
  refine wpList_plain hgd fun _ hK => wp_of_runB ho (by rw [hs, hx]; exact hr) (hK _ _ (h v' w' h1 h2 h3))
theorem Own.appendBR {ops : Array Oper} {o : Oper} {a : Act} {K : Act → World → Prop} {Q : Exit → Act → World → Prop} {E : Prop} {w : World} (hgd : o.guard = none) (s x : Operand)
    (ho : o.op = .call { callee := .builtin .append, args := #[s, x], argTypes := #[R.tS, R.tS] }) {B : Nat} {v vx : Value} {xs : List α} (hown : R.Own B w v xs) (hs : a.eval s = v) (ys : List α)
    (hx : a.eval x = vx) (hz : R.App w vx ys) (hlen : xs.length + ys.length ≤ 1000000) (hbase : B ≤ w.heap.size)
    (h : ∀ v' w', R.Own B w' v' (xs ++ ys) → w.grownBy w' v.ownBlock → StaysOrNew w v v' → K (a.put o.dst v') w') :
    if Region.wanted o (yielded ops a.tmps) = true then Oper.wp Tryz.prog o a w K Q else E := by
  have hw : Region.wanted o (yielded ops a.tmps) = true := by simp [Region.wanted, hgd]
  rw [if_pos hw]
  obtain ⟨v', w', hr, h1, h2, h3⟩ := run_appendB hown hz hlen hbase o.type
  exact wp_of_runB ho (by rw [hs, hx]; exact hr) (h v' w' h1 h2 h3)
end RowKind
end Go.Proofs.YthomddbekiknjaaGreat
/- a row of the call's own: an element is stored in its place; the rest of it is cleared and cut off -/
namespace Go.Proofs.YthomddbekiknjaaGreat
open Go.RowKit
set_option linter.unusedVariables false
set_option linter.unusedSimpArgs false
set_option linter.unusedSectionVars false

theorem run_storeCells_at (P : Program) (b o : Nat) : ∀ (vs : List Value) (i : Nat) (w : World) (c : Array Value), rowOf w b = some c → o + i + vs.length ≤ c.size → (∀ v ∈ vs, v.oneCell' = true) →
    (storeCells ⟨b, o, none⟩ vs i).run P w = .ok () (setRow w b (putFrom c (o + i) vs))
  | [], i, w, c, hc, _, _ => by rw [putFrom, setRow_self hc]; rfl
  | v :: rest, i, w, c, hc, hn, ho => by
    simp only [List.length_cons] at hn
    have hi : o + i < c.size := by omega
    have hcell : w.cell? ⟨b, o + i, none⟩ = some c[o + i] := by rw [rowOf_cell hc]; exact Array.getElem?_eq_getElem hi
    have hst : (store ((⟨b, o, none⟩ : Addr).add i) v).run P w = .ok () (w.setCell ⟨b, o + i, none⟩ v) := by
      rw [Addr.add_lit, run_store P w _ v _ (ho v (by simp)), hcell]
      simp only [rowOf_frozen hc]
      rfl
    have hrow : rowOf (w.setCell ⟨b, o + i, none⟩ v) b = some (c.setIfInBounds (o + i) v) := by rw [rowOf_setCell_same, hc]; rfl
    have ih := run_storeCells_at P b o rest (i + 1) (w.setCell ⟨b, o + i, none⟩ v) (c.setIfInBounds (o + i) v) hrow (by simp; omega) (fun x hx => ho x (by simp [hx]))
    rw [storeCells, Sem.run_bind, hst]
    show (storeCells ⟨b, o, none⟩ rest (i + 1)).run P (w.setCell ⟨b, o + i, none⟩ v) = _
    rw [ih, setCell_row hc, setRow_setRow]
    rfl
theorem grown_setRow (w : World) (g : Nat) (c : Array Value) : w.grownBy (setRow w g c) (some g) :=
  ⟨rfl, rfl, rfl, by rw [size_setRow]; exact Nat.le_refl _, fun k _ hne => heap_setRow w g c k fun e => hne (by rw [e])⟩
namespace RowKind
section
variable {α : Type} [Inhabited α] {R : RowKind α}
theorem Own.row {B : Nat} {w : World} {g n cap : Nat} {xs : List α} (h : R.Own B w (.slice (some ⟨g, 0, none⟩) n cap) xs) :
    ∃ cur, w.heap[g]? = some (.cells cur R.tE (0, 0)) ∧ n = xs.length ∧ B ≤ g ∧ xs.length ≤ cap ∧ cap ≤ maxLen ∧ cur.size = cap * R.k ∧ cur.toList.take (xs.length * R.k) = R.cells xs := by
  obtain ⟨h1, h2⟩ := h
  rcases h2 with ⟨e, _⟩ | ⟨g', cap', cur, e, hB, hg, hc, hm, hs, ht⟩
  · cases e
  · simp only [Value.slice.injEq, Option.some.injEq, Addr.mk.injEq, and_true] at e
    obtain ⟨e1, e2, e3⟩ := e
    subst e1; subst e3
    exact ⟨cur, hg, e2, hB, hc, hm, hs, ht⟩
theorem Own.rowOf {B : Nat} {w : World} {g n cap : Nat} {xs : List α} {cur : Array Value} (hg : w.heap[g]? = some (.cells cur R.tE (0, 0))) : Go.Proofs.YthomddbekiknjaaGreat.rowOf w g = some cur := by
  unfold Go.Proofs.YthomddbekiknjaaGreat.rowOf
  rw [hg]
  simp
theorem heap_set {w : World} {g : Nat} {cur c : Array Value} {t : TypeId} (hg : w.heap[g]? = some (.cells cur t (0, 0))) : (setRow w g c).heap[g]? = some (.cells c t (0, 0)) := by
  simp [setRow, Array.getElem?_modify, hg]
theorem cells_at {xs : List α} {t : Nat} (ht : t < xs.length * R.k) : (R.cells xs)[t]? = (R.enc xs[t / R.k]!)[t % R.k]? := by
  have hk := R.k0
  have e : t = t / R.k * R.k + t % R.k := by rw [Nat.mul_comm]; exact (Nat.div_add_mod t R.k).symm
  have hq : t / R.k < xs.length := Nat.div_lt_of_lt_mul (by rw [Nat.mul_comm]; exact ht)
  have := R.cells_get xs (t / R.k) hq (t % R.k) (Nat.mod_lt _ hk)
  rw [← e] at this
  exact this
theorem Own.setAt {B : Nat} {w : World} {g n cap : Nat} {xs : List α} (h : R.Own B w (.slice (some ⟨g, 0, none⟩) n cap) xs) {i : Nat} (hi : i < xs.length) (x : α) {cur : Array Value} (hg : w.heap[g]? = some (.cells cur R.tE (0, 0))) :
    R.Own B (setRow w g (putFrom cur (i * R.k) (R.enc x))) (.slice (some ⟨g, 0, none⟩) n cap) (xs.set i x) := by
  obtain ⟨cur', hg', hn, hB, hc, hm, hs, ht⟩ := h.row
  rw [hg] at hg'
  simp only [Option.some.injEq, Obj.cells.injEq, and_true] at hg'
  subst hg'
  have hk := R.k0
  have hle : (i + 1) * R.k ≤ cap * R.k := Nat.mul_le_mul_right _ (by omega)
  rw [Nat.add_mul, Nat.one_mul] at hle
  refine ⟨R.cells_len _, .inr ⟨g, cap, putFrom cur (i * R.k) (R.enc x), by rw [List.length_set, hn], hB, heap_set hg, by rw [List.length_set]; exact hc, hm, by rw [size_putFrom, hs], ?_⟩⟩
  rw [List.length_set]
  refine List.ext_getElem? fun t => ?_
  rw [List.getElem?_take]
  split
  · rename_i hlt
    rw [Array.getElem?_toList, get_putFrom _ _ _ _ (by rw [R.len]; omega), R.len, cells_at (by rw [List.length_set]; exact hlt)]
    have e : t = t / R.k * R.k + t % R.k := by rw [Nat.mul_comm]; exact (Nat.div_add_mod t R.k).symm
    have hmod := Nat.mod_lt t hk
    by_cases hq : t / R.k = i
    · rw [if_pos (by rw [← hq]; omega), hq, getElem!_pos _ i (by rw [List.length_set]; exact hi), List.getElem_set_self]
      congr 1
      rw [← hq]
      omega
    · have hne : ¬ (i * R.k ≤ t ∧ t < i * R.k + R.k) := by
        rintro ⟨q1, q2⟩
        apply hq
        have := (Nat.le_div_iff_mul_le hk).2 q1
        have := (Nat.div_lt_iff_lt_mul hk).2 (show t < (i + 1) * R.k by rw [Nat.add_mul]; omega)
        omega
      have hql : t / R.k < xs.length := Nat.div_lt_of_lt_mul (by rw [Nat.mul_comm]; exact hlt)
      have hl : (xs.set i x)[t / R.k]! = xs[t / R.k]! := by
        rw [getElem!_pos _ _ (by rw [List.length_set]; exact hql), getElem!_pos xs _ hql, List.getElem_set_ne (Ne.symm hq)]
      rw [if_neg hne, hl, ← cells_at hlt, ← ht, List.getElem?_take, if_pos hlt, Array.getElem?_toList]
  · rename_i hlt
    rw [List.getElem?_eq_none (by rw [R.cells_len, List.length_set]; omega)]
theorem Own.clearAt {B : Nat} {w : World} {g n cap : Nat} {xs : List α} (h : R.Own B w (.slice (some ⟨g, 0, none⟩) n cap) xs) {i : Nat} (hi : i ≤ xs.length) {zs : List Value} (hz : zs.length = (xs.length - i) * R.k) {cur : Array Value} (hg : w.heap[g]? = some (.cells cur R.tE (0, 0))) :
    R.Own B (setRow w g (putFrom cur (i * R.k) zs)) (.slice (some ⟨g, 0, none⟩) i cap) (xs.take i) := by
  obtain ⟨cur', hg', hn, hB, hc, hm, hs, ht⟩ := h.row
  rw [hg] at hg'
  simp only [Option.some.injEq, Obj.cells.injEq, and_true] at hg'
  subst hg'
  have hk := R.k0
  have hlen : (xs.take i).length = i := by rw [List.length_take]; omega
  have hmul : i * R.k + (xs.length - i) * R.k = xs.length * R.k := by rw [← Nat.add_mul]; congr 1; omega
  have hle : xs.length * R.k ≤ cap * R.k := Nat.mul_le_mul_right _ hc
  refine ⟨R.cells_len _, .inr ⟨g, cap, putFrom cur (i * R.k) zs, by rw [hlen], hB, heap_set hg, by rw [hlen]; omega, hm, by rw [size_putFrom, hs], ?_⟩⟩
  rw [hlen]
  refine List.ext_getElem? fun t => ?_
  rw [List.getElem?_take]
  split
  · rename_i hlt
    rw [Array.getElem?_toList, get_putFrom _ _ _ _ (by rw [hz]; omega), if_neg (by omega), cells_at (by rw [hlen]; exact hlt)]
    have hql : t / R.k < i := Nat.div_lt_of_lt_mul (by rw [Nat.mul_comm]; exact hlt)
    have hl : (xs.take i)[t / R.k]! = xs[t / R.k]! := by
      rw [getElem!_pos _ _ (by rw [hlen]; exact hql), getElem!_pos xs _ (by omega), List.getElem_take]
    rw [hl, ← cells_at (by omega), ← ht, List.getElem?_take, if_pos (by omega), Array.getElem?_toList]
  · rename_i hlt
    rw [List.getElem?_eq_none (by rw [R.cells_len, hlen]; omega)]
/-- an element (a whole struct) is stored in its place -/
theorem Own.storeAt {ops : Array Oper} {rest : List Oper} {o : Oper} {a : Act} {Q : Exit → Act → World → Prop} {w : World} {B : Nat} {g n cap : Nat} {xs : List α} (h : R.Own B w (.slice (some ⟨g, 0, none⟩) n cap) xs)
    (hsz : ∀ w, (Go.sizeOf R.tE).run Tryz.prog w = .ok R.k w) {i : Nat} (hi : i < xs.length) (u : α) (hgd : o.guard = none) (x y : Operand) (ho : o.op = .store R.tE x y) (hx : a.eval x = .pointer (some ⟨g, i * R.k, none⟩)) (hy : a.eval y = .agg (R.enc u).toArray)
    (hk : ∀ w', R.Own B w' (.slice (some ⟨g, 0, none⟩) n cap) (xs.set i u) → w.grownBy w' (some g) → wpList Tryz.prog ops Q rest (a.put o.dst undef) w') : wpList Tryz.prog ops Q (o :: rest) a w := by
  obtain ⟨cur, hg, hn, hB, hc, hm, hs, ht⟩ := h.row
  have hle : (i + 1) * R.k ≤ cap * R.k := Nat.mul_le_mul_right _ (by omega)
  rw [Nat.add_mul, Nat.one_mul] at hle
  have hst := run_storeCells_at Tryz.prog g (i * R.k) (R.enc u) 0 w cur (Own.rowOf (R := R) (B := B) (n := n) (cap := cap) (xs := xs) hg) (by rw [R.len, hs]; omega) (R.one u)
  refine wpList_plain hgd fun _ hK => ?_
  have hrun : (Instr.storeAt R.tE (.pointer (some ⟨g, i * R.k, none⟩)) (.agg (R.enc u).toArray)).run Tryz.prog w = .ok () (setRow w g (putFrom cur (i * R.k) (R.enc u))) := by
    simp [Instr.storeAt, Instr.sureAddr, storeVar, Sem.run_bind, hsz, Result.andThen, Value.cells, R.len, hst]
  unfold Oper.wp execOp
  simp only [ho, hx, hy, Sem.run_bind, hrun, Result.andThen, Sem.run_pure, Oper.upon_skip]
  exact hK _ _ (hk _ (h.setAt hi u hg) (grown_setRow _ _ _))
/-- what is behind the first i elements is cleared -/
theorem Own.clearL {ops : Array Oper} {rest : List Oper} {o : Oper} {a : Act} {Q : Exit → Act → World → Prop} {w : World} {B : Nat} {g n cap : Nat} {xs : List α} (h : R.Own B w (.slice (some ⟨g, 0, none⟩) n cap) xs)
    (hzv : ∀ w, (zeroValue R.tE).run Tryz.prog w = .ok R.zero w) (hz1 : ∀ u ∈ R.zero.cells.toList, u.oneCell' = true) {i c : Nat} (hi : i ≤ xs.length) (hgd : o.guard = none) (x : Operand) (ho : o.op = .call { callee := .builtin .clear, args := #[x], argTypes := #[R.tS] })
    (hx : a.eval x = .slice (some ⟨g, i * R.k, none⟩) (xs.length - i) c)
    (hk : ∀ w', R.Own B w' (.slice (some ⟨g, 0, none⟩) i cap) (xs.take i) → w.grownBy w' (some g) → wpList Tryz.prog ops Q rest (a.put o.dst (.tuple #[])) w') : wpList Tryz.prog ops Q (o :: rest) a w := by
  obtain ⟨cur, hg, hn, hB, hc, hm, hs, ht⟩ := h.row
  have hle : xs.length * R.k ≤ cap * R.k := Nat.mul_le_mul_right _ hc
  have hmul : i * R.k + (xs.length - i) * R.k = xs.length * R.k := by rw [← Nat.add_mul]; congr 1; omega
  have hzl : (Builtin.zeroCells R.zero.cells (xs.length - i)).toList.length = (xs.length - i) * R.k := by
    simp [Builtin.zeroCells, R.zlen]
  have hrun : ∃ w', (Builtin.clear_ #[R.tS] o.type #[.slice (some ⟨g, i * R.k, none⟩) (xs.length - i) c]).run Tryz.prog w = .ok (.tuple #[]) w' ∧ R.Own B w' (.slice (some ⟨g, 0, none⟩) i cap) (xs.take i) ∧ w.grownBy w' (some g) := by
    by_cases hz : xs.length - i = 0
    · refine ⟨w, ?_, ?_, ⟨rfl, rfl, rfl, Nat.le_refl _, fun _ _ _ => rfl⟩⟩
      · rw [hz]
        simp [Builtin.clear_, run_underlying R.under]
      · obtain rfl : i = xs.length := by omega
        rw [List.take_length]
        rw [hn] at h
        exact h
    · have hst := run_storeCells_at Tryz.prog g (i * R.k) (Builtin.zeroCells R.zero.cells (xs.length - i)).toList 0 w cur (Own.rowOf (R := R) (B := B) (n := n) (cap := cap) (xs := xs) hg) (by rw [hzl, hs]; omega) (fun v hv => by
        simp only [Builtin.zeroCells, Array.toList_map, List.mem_map, Array.toList_range, List.mem_range] at hv
        obtain ⟨j, hj, rfl⟩ := hv
        have hlt : j % R.zero.cells.size < R.zero.cells.size := Nat.mod_lt _ (by rw [R.zlen]; exact R.k0)
        rw [getElem!_pos R.zero.cells _ hlt]
        exact hz1 _ (by rw [← Array.getElem_toList]; exact List.getElem_mem _))
      refine ⟨_, ?_, h.clearAt hi hzl hg, grown_setRow _ _ _⟩
      obtain ⟨m, hm'⟩ : ∃ m, xs.length - i = m + 1 := ⟨xs.length - i - 1, by omega⟩
      rw [hm'] at hst ⊢
      simp [Builtin.clear_, run_underlying R.under, hzv, hst]
  obtain ⟨w', hr, h1, h2⟩ := hrun
  refine wpList_plain hgd fun _ hK => ?_
  unfold Oper.wp execOp
  simp only [ho, resolve, invoke, builtin, Sem.run_bind, Sem.run_pure, Result.andThen_ok, List.map_toArray, List.map_cons, List.map_nil, hx, hr]
  exact hK _ _ (hk _ h1 h2)
end
end RowKind
end Go.Proofs.YthomddbekiknjaaGreat
/- append to a part of a row of the call's own: the element is written in its place -/
namespace Go.Proofs.YthomddbekiknjaaGreat
open Go.RowKit
set_option linter.unusedVariables false
set_option linter.unusedSimpArgs false
set_option linter.unusedSectionVars false
namespace RowKind
section
variable {α : Type} [Inhabited α] {R : RowKind α}
theorem put_eq {cur : Array Value} {a : Nat} {vs : List Value} (h : a + vs.length ≤ cur.size) : (cur.toList.take a ++ vs ++ cur.toList.drop (a + vs.length)).toArray = putFrom cur a vs := by
  apply Array.ext'
  refine List.ext_getElem? fun t => ?_
  rw [Array.getElem?_toList (xs := putFrom cur a vs), get_putFrom _ _ _ _ h]
  show (cur.toList.take a ++ vs ++ cur.toList.drop (a + vs.length))[t]? = _
  have h1 : (cur.toList.take a).length = a := by rw [List.length_take, Array.length_toList]; omega
  rw [List.append_assoc]
  by_cases ht : t < a
  · rw [List.getElem?_append_left (by omega), List.getElem?_take, if_pos ht, if_neg (by omega), Array.getElem?_toList]
  · rw [List.getElem?_append_right (by omega), h1]
    by_cases ht2 : t < a + vs.length
    · rw [List.getElem?_append_left (by omega), if_pos (by omega)]
    · rw [List.getElem?_append_right (by omega), if_neg (by omega), List.getElem?_drop, Array.getElem?_toList]
      congr 1
      omega
theorem run_appendIn {w : World} {B g n m cap : Nat} {vx : Value} {xs : List α} {y : α} (h : R.Own B w (.slice (some ⟨g, 0, none⟩) n cap) xs) (hm : m < n) (hz : R.App w vx [y]) (ty : TypeId) :
    ∃ w', (Builtin.append_ #[R.tS, R.tS] ty #[.slice (some ⟨g, 0, none⟩) m cap, vx]).run Tryz.prog w = .ok (.slice (some ⟨g, 0, none⟩) (m + 1) cap) w' ∧ R.Own B w' (.slice (some ⟨g, 0, none⟩) n cap) (xs.set m y) ∧ w.grownBy w' (some g) := by
  obtain ⟨i0, hi, hz0, hz1, hz2⟩ := info_parts R.info
  obtain ⟨ad, c, rfl, hc⟩ := hz
  obtain ⟨cur, hg, hn, hB, hle, hmx, hs, ht⟩ := h.row
  have hk := R.k0
  have hcl : (R.cells [y]) = R.enc y := by simp [cells]
  have hroom : (m + 1) * R.k ≤ cap * R.k := Nat.mul_le_mul_right _ (by omega)
  rw [Nat.add_mul, Nat.one_mul] at hroom
  have hfit : m * R.k + (R.enc y).length ≤ cur.size := by rw [R.len, hs]; exact hroom
  have hr := run_append_room (P := Tryz.prog) w R.tS ty R.tE i0 R.under hi g m cap cur hg ad 1 c (R.cells [y]) (by rw [hz1]; exact R.cells_len [y]) hc one_cells (by omega) (by rw [hz1, hcl]; exact hfit)
  rw [hz1, hcl, put_eq hfit] at hr
  exact ⟨_, hr, h.setAt (by omega) y hg, grown_setRow _ _ _⟩
theorem Own.appendIn {ops : Array Oper} {rest : List Oper} {o : Oper} {a : Act} {Q : Exit → Act → World → Prop} {w : World} (hgd : o.guard = none) (s x : Operand)
    (ho : o.op = .call { callee := .builtin .append, args := #[s, x], argTypes := #[R.tS, R.tS] }) {B g n m cap : Nat} {vx : Value} {xs : List α} {y : α} (h : R.Own B w (.slice (some ⟨g, 0, none⟩) n cap) xs) (hm : m < n) (hs : a.eval s = .slice (some ⟨g, 0, none⟩) m cap)
    (hx : a.eval x = vx) (hz : R.App w vx [y])
    (hk : ∀ w', R.Own B w' (.slice (some ⟨g, 0, none⟩) n cap) (xs.set m y) → w.grownBy w' (some g) → wpList Tryz.prog ops Q rest (a.put o.dst (.slice (some ⟨g, 0, none⟩) (m + 1) cap)) w') : wpList Tryz.prog ops Q (o :: rest) a w := by
  obtain ⟨w', hr, h1, h2⟩ := run_appendIn h hm hz o.type
  refine wpList_plain hgd fun _ hK => wp_of_runB ho (by rw [hs, hx]; exact hr) (hK _ _ (hk w' h1 h2))
end
end RowKind
end Go.Proofs.YthomddbekiknjaaGreat
/- plain: items in their order, put together where they are of the same record -/
namespace Go.Proofs.YthomddbekiknjaaGreat
open Go.RowKit
set_option linter.unusedVariables false
set_option linter.unusedSimpArgs false

theorem atS_perm {f g : List IV} (h : f.Perm g) (u : RV) : atS f u = atS g u := by
  induction h with
  | nil => rfl
  | cons c _ ih => rw [atS_cons, atS_cons, ih]
  | swap c d l => rw [atS_cons, atS_cons, atS_cons, atS_cons]; omega
  | trans _ _ h1 h2 => rw [h1, h2]
theorem manyO_perm {f g : List IV} (h : f.Perm g) : manyO f = manyO g := by
  induction h with
  | nil => rfl
  | cons c _ ih => rw [manyO_cons, manyO_cons, ih]
  | swap c d l => rw [manyO_cons, manyO_cons, manyO_cons, manyO_cons]; omega
  | trans _ _ h1 h2 => rw [h1, h2]
/-- one item more -/
def togStep (acc : List IV) (c : IV) : List IV :=
  if 0 < acc.length ∧ acc[acc.length - 1]!.t = c.t then acc.set (acc.length - 1) ⟨c.t, acc[acc.length - 1]!.n + c.n⟩ else acc ++ [c]
theorem togStep_nil (c : IV) : togStep [] c = [c] := rfl
theorem togStep_last (i : List IV) (l c : IV) : togStep (i ++ [l]) c = if l.t = c.t then i ++ [⟨c.t, l.n + c.n⟩] else i ++ [l] ++ [c] := by
  have hl : (i ++ [l]).length - 1 = i.length := by simp
  have hg : (i ++ [l])[i.length]! = l := by
    rw [getElem!_pos _ _ (by simp)]
    simp
  unfold togStep
  rw [hl, hg]
  by_cases h : l.t = c.t
  · rw [if_pos ⟨by simp, h⟩, if_pos h]
    simp
  · rw [if_neg (fun q => h q.2), if_neg h]
theorem togStep_len (acc : List IV) (c : IV) : (togStep acc c).length ≤ acc.length + 1 := by
  unfold togStep
  split <;> simp
structure TogI (acc : List IV) (S : Int) (ys : List IV) : Prop where
  pos : ∀ c ∈ acc, 0 < c.n ∧ c.n ≤ S
  up : acc.Pairwise fun a b => a.t.lt b.t = true
  low : ∀ c ∈ acc, ∀ d ∈ ys, d.t.lt c.t = false
theorem TogI.step {acc : List IV} {S : Int} {c : IV} {ys : List IV} (h : TogI acc S (c :: ys)) (hs : (c :: ys).Pairwise fun x y => y.t.lt x.t = false) (hc : 0 < c.n) (hS : 0 ≤ S) :
    TogI (togStep acc c) (S + c.n) ys ∧ ∀ u, atS (togStep acc c) u = atS acc u + (if c.t = u then c.n else 0) := by
  obtain ⟨hp, hu, hl⟩ := h
  have hs1 := (List.pairwise_cons.1 hs).1
  have new : TogI (acc ++ [c]) (S + c.n) ys ↔ (∀ x ∈ acc, x.t.lt c.t = true) := by
    constructor
    · intro q x hx
      exact (List.pairwise_append.1 q.up).2.2 x hx c (by simp)
    · intro q
      refine ⟨fun x hx => ?_, List.pairwise_append.2 ⟨hu, by simp, fun x hx y hy => by rw [List.mem_singleton.1 hy]; exact q x hx⟩, fun x hx d hd => ?_⟩
      · rcases List.mem_append.1 hx with hx | hx
        · have := hp x hx; omega
        · rw [List.mem_singleton.1 hx]; omega
      · rcases List.mem_append.1 hx with hx | hx
        · exact hl x hx d (by simp [hd])
        · rw [List.mem_singleton.1 hx]; exact hs1 d hd
  rcases List.eq_nil_or_concat acc with rfl | ⟨i, l, rfl⟩
  · rw [togStep_nil]
    exact ⟨new.2 fun x hx => by simp at hx, fun u => by rw [atS_cons, atS_nil]; omega⟩
  · rw [List.concat_eq_append] at *
    rw [togStep_last]
    have hi := List.pairwise_append.1 hu
    by_cases he : l.t = c.t
    · rw [if_pos he]
      refine ⟨⟨fun x hx => ?_, List.pairwise_append.2 ⟨hi.1, by simp, fun x hx y hy => ?_⟩, fun x hx d hd => ?_⟩, fun u => ?_⟩
      · rcases List.mem_append.1 hx with hx | hx
        · have := hp x (List.mem_append.2 (.inl hx)); omega
        · rw [List.mem_singleton.1 hx]
          have := hp l (by simp)
          show 0 < l.n + c.n ∧ l.n + c.n ≤ S + c.n
          omega
      · rw [List.mem_singleton.1 hy]
        show x.t.lt c.t = true
        rw [← he]
        exact hi.2.2 x hx l (by simp)
      · rcases List.mem_append.1 hx with hx | hx
        · exact hl x (List.mem_append.2 (.inl hx)) d (by simp [hd])
        · rw [List.mem_singleton.1 hx]; exact hs1 d hd
      · rw [atS_append, atS_append, atS_cons, atS_cons, atS_nil]
        show _ + ((if c.t = u then l.n + c.n else 0) + 0) = _
        rw [he]
        split <;> omega
    · rw [if_neg he]
      have hlc : l.t.lt c.t = true := by
        have h1 := hl l (by simp) c (by simp)
        cases h2 : l.t.lt c.t
        · exact absurd (RV.tri h2 h1) he
        · rfl
      refine ⟨new.2 fun x hx => ?_, fun u => ?_⟩
      · rcases List.mem_append.1 hx with hx | hx
        · exact RV.lt_trans (hi.2.2 x hx l (by simp)) hlc
        · rw [List.mem_singleton.1 hx]; exact hlc
      · rw [atS_append (i ++ [l]) [c], atS_cons, atS_nil]; omega
theorem tog_fold : ∀ (ys acc : List IV) (S : Int), TogI acc S ys → ys.Pairwise (fun x y => y.t.lt x.t = false) → (∀ c ∈ ys, 0 < c.n) → 0 ≤ S →
    TogI (ys.foldl togStep acc) (S + manyO ys) [] ∧ ∀ u, atS (ys.foldl togStep acc) u = atS acc u + atS ys u
  | [], acc, S, h, _, _, _ => ⟨by rw [show manyO [] = 0 from rfl, Int.add_zero]; exact h, fun u => by rw [atS_nil]; exact (Int.add_zero _).symm⟩
  | c :: ys, acc, S, h, hs, hp, hS => by
    have hc := hp c (by simp)
    have st := h.step hs hc hS
    have ih := tog_fold ys _ _ st.1 (List.pairwise_cons.1 hs).2 (fun d hd => hp d (by simp [hd])) (by omega)
    rw [List.foldl_cons, manyO_cons]
    refine ⟨by rw [← Int.add_assoc]; exact ih.1, fun u => ?_⟩
    rw [ih.2, st.2, atS_cons]; omega
/-- items in their order, put together: a bag with as many of each record -/
theorem tog_eq {l ys : List IV} (hy : ys.Perm l) (hs : ys.Pairwise fun x y => y.t.lt x.t = false) (hp : ∀ c ∈ l, 0 < c.n) (hm : manyO l ≤ 65536) : ys.foldl togStep [] = togO l := by
  have hpy : ∀ c ∈ ys, 0 < c.n := fun c hc => hp c (hy.mem_iff.1 hc)
  have q := tog_fold ys [] 0 ⟨fun _ h => by simp at h, List.Pairwise.nil, fun _ h => by simp at h⟩ hs hpy (Int.le_refl _)
  have g := togO_is hp hm
  have hmy : manyO ys ≤ 65536 := by rw [manyO_perm hy]; exact hm
  refine good_ext ⟨fun c hc => (IV.ok_iff c).2 ?_, q.1.up⟩ g.1 fun u => ?_
  · have := q.1.pos c hc
    omega
  · rw [q.2, g.2.1, atS_nil, atS_perm hy]; omega
theorem foldl_take_succ {xs : List IV} {k : Nat} (hk : k < xs.length) : (xs.take (k + 1)).foldl togStep [] = togStep ((xs.take k).foldl togStep []) xs[k]! := by
  rw [take_getA xs k hk, List.foldl_append]
  rfl
theorem foldl_len : ∀ (ys acc : List IV), (ys.foldl togStep acc).length ≤ acc.length + ys.length
  | [], acc => by simp
  | c :: ys, acc => by
    have := foldl_len ys (togStep acc c)
    have := togStep_len acc c
    rw [List.foldl_cons, List.length_cons]
    omega
end Go.Proofs.YthomddbekiknjaaGreat
