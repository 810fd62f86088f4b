/- rows of the call's own: a front of one, an append where there is room, a copy, an element put between, one struck out -/
import Derived.Test.YthomddbekiknjaaGreatG22
import Derived.Test.YthomddbekiknjaaGreatG33
import Derived.Test.YthomddbekiknjaaGreatG11
import Derived.Lib.AppendZerosOnto
import Derived.Lib.Overlaps
namespace Go.Proofs.YthomddbekiknjaaGreat
open Go.RowKit
set_option linter.unusedVariables false
set_option linter.unusedSimpArgs false
set_option linter.unusedSectionVars false

theorem wp_copy_runK {P : Program} {o : Oper} {a : Act} {K : Act → World → Prop} {Q : Exit → Act → World → Prop} {w w' : World} {v : Value} {d s : Operand} {t : TypeId}
    (ho : o.op = .call { callee := .builtin .copy, args := #[d, s], argTypes := #[t, t] }) (hr : (Builtin.copy_ #[t, t] o.type #[a.eval d, a.eval s]).run P w = .ok v w') (h : K (a.put o.dst v) w') : o.wp P a w K Q := by
  unfold Oper.wp execOp
  simp only [ho, resolve, invoke, builtin, Sem.run_bind, Sem.run_pure, Result.andThen_ok, List.map_toArray, List.map_cons, List.map_nil, hr]
  exact h
namespace RowKind
section
variable {α : Type} [Inhabited α] {R : RowKind α}
/-- its first elements -/
theorem Own.front {B : Nat} {w : World} {g n cap : Nat} {xs : List α} (h : R.Own B w (.slice (some ⟨g, 0, none⟩) n cap) xs) {i : Nat} (hi : i ≤ xs.length) : R.Own B w (.slice (some ⟨g, 0, none⟩) i cap) (xs.take i) := by
  obtain ⟨cur, hg, hn, hB, hc, hm, hs, ht⟩ := h.row
  have hlen : (xs.take i).length = i := by rw [List.length_take]; omega
  have hle : i * R.k ≤ xs.length * R.k := Nat.mul_le_mul_right _ hi
  refine ⟨R.cells_len _, .inr ⟨g, cap, cur, by rw [hlen], hB, hg, by rw [hlen]; omega, hm, hs, ?_⟩⟩
  have e : R.cells xs = R.cells (xs.take i) ++ R.cells (xs.drop i) := by rw [← R.cells_append, List.take_append_drop]
  rw [hlen]
  have h1 : cur.toList.take (i * R.k) = (cur.toList.take (xs.length * R.k)).take (i * R.k) := by rw [List.take_take, Nat.min_eq_left hle]
  rw [h1, ht, e, List.take_left' (by rw [R.cells_len, hlen])]
/-- what lies behind it may be changed -/
theorem Own.beyond {B : Nat} {w : World} {g n cap : Nat} {xs : List α} (h : R.Own B w (.slice (some ⟨g, 0, none⟩) n cap) xs) {zs : List Value} {o : Nat} (ho : xs.length * R.k ≤ o) {cur : Array Value} (hf : o + zs.length ≤ cur.size) (hg : w.heap[g]? = some (.cells cur R.tE (0, 0))) :
    R.Own B (setRow w g (putFrom cur o zs)) (.slice (some ⟨g, 0, none⟩) n cap) xs := by
  obtain ⟨cur', hg', hn, hB, hc, hm, hs, ht⟩ := h.row
  rw [hg] at hg'
  simp only [Option.some.injEq, Obj.cells.injEq, and_true] at hg'
  subst hg'
  refine ⟨R.cells_len _, .inr ⟨g, cap, putFrom cur o zs, by rw [hn], hB, heap_set hg, hc, hm, by rw [size_putFrom, hs], ?_⟩⟩
  rw [← ht]
  refine List.ext_getElem? fun t => ?_
  rw [List.getElem?_take, List.getElem?_take]
  split
  · rw [Array.getElem?_toList, Array.getElem?_toList, get_putFrom _ _ _ _ hf, if_neg (by omega)]
  · rfl
/-- one that stands at i, with what lies beside it -/
theorem Own.asm {B : Nat} {w : World} {g cap : Nat} {xs : List α} {cur : Array Value} {i : Nat} {x : α} (hi : i ≤ xs.length) (hB : B ≤ g) (hg : w.heap[g]? = some (.cells cur R.tE (0, 0))) (hc : xs.length + 1 ≤ cap) (hm : cap ≤ maxLen) (hs : cur.size = cap * R.k)
    (h1 : ∀ t, t < i * R.k → cur[t]? = (R.cells xs)[t]?) (h2 : ∀ t, t < R.k → cur[i * R.k + t]? = (R.enc x)[t]?) (h3 : ∀ t, t < (xs.length - i) * R.k → cur[i * R.k + R.k + t]? = (R.cells xs)[i * R.k + t]?) :
    R.Own B w (.slice (some ⟨g, 0, none⟩) (xs.length + 1) cap) (xs.take i ++ x :: xs.drop i) := by
  have hlen : (xs.take i ++ x :: xs.drop i).length = xs.length + 1 := by simp; omega
  have e1 : R.cells xs = R.cells (xs.take i) ++ R.cells (xs.drop i) := by rw [← R.cells_append, List.take_append_drop]
  have e2 : R.cells (xs.take i ++ x :: xs.drop i) = R.cells (xs.take i) ++ (R.enc x ++ R.cells (xs.drop i)) := by rw [R.cells_append]; rfl
  have l1 : (R.cells (xs.take i)).length = i * R.k := by rw [R.cells_len, List.length_take, Nat.min_eq_left hi]
  have l2 : (R.cells (xs.drop i)).length = (xs.length - i) * R.k := by rw [R.cells_len, List.length_drop]
  have l3 := R.len x
  have m1 : (xs.length + 1) * R.k = i * R.k + R.k + (xs.length - i) * R.k := by
    have : xs.length + 1 = i + 1 + (xs.length - i) := by omega
    rw [this, Nat.add_mul, Nat.add_mul, Nat.one_mul]
  refine ⟨R.cells_len _, .inr ⟨g, cap, cur, by rw [hlen], hB, hg, by rw [hlen]; exact hc, hm, hs, ?_⟩⟩
  rw [hlen, m1, e2]
  rw [e1] at h1 h3
  generalize i * R.k = a at *
  generalize (xs.length - i) * R.k = b at *
  generalize R.cells (xs.take i) = X at *
  generalize R.cells (xs.drop i) = Y at *
  generalize R.enc x = Z at *
  generalize R.k = k at *
  refine List.ext_getElem? fun t => ?_
  rw [List.getElem?_take]
  by_cases t1 : t < a
  · rw [if_pos (by omega), Array.getElem?_toList, h1 t t1, List.getElem?_append_left (by omega), List.getElem?_append_left (by omega)]
  · rw [List.getElem?_append_right (by omega)]
    by_cases t2 : t < a + k
    · have := h2 (t - a) (by omega)
      rw [show a + (t - a) = t by omega] at this
      rw [if_pos (by omega), Array.getElem?_toList, this, List.getElem?_append_left (by omega), l1]
    · rw [List.getElem?_append_right (by omega)]
      by_cases t3 : t < a + k + b
      · have := h3 (t - a - k) (by omega)
        rw [show a + k + (t - a - k) = t by omega, List.getElem?_append_right (by omega)] at this
        rw [if_pos t3, Array.getElem?_toList, this, l1, l3]
        congr 1
        omega
      · rw [if_neg t3, List.getElem?_eq_none (by omega)]
variable (R)
theorem run_copyK {w : World} {g o dLen dCap : Nat} {a : Addr} {sLen sCap : Nat} {cur : Array Value} {cs : List Value} {m : Nat} (ty : TypeId) (hm : m = Nat.min sLen dLen) (hl : cs.length = m * R.k)
    (hsrc : ∀ j u, cs[j]? = some u → w.cell? (a.add j) = some u) (hg : rowOf w g = some cur) (hfit : o + cs.length ≤ cur.size) (h1 : ∀ u ∈ cs, u.oneCell' = true) :
    (Builtin.copy_ #[R.tS, R.tS] ty #[.slice (some ⟨g, o, none⟩) dLen dCap, .slice (some a) sLen sCap]).run Tryz.prog w = .ok (goInt m) (setRow w g (putFrom cur o cs)) := by
  obtain ⟨i0, hi, hz0, hz1, hz2⟩ := info_parts R.info
  have hfc := run_firstCells_some (P := Tryz.prog) (w := w) i0.size m a sLen sCap cs (by rw [hz1]; exact hl) hsrc
  have hst := run_storeCells_at Tryz.prog g o cs 0 w cur hg (by simpa using hfit) h1
  simp only [Nat.add_zero] at hst
  simp [Builtin.copy_, run_underlying R.under, Builtin.lenOf, sizeOf, typeInfo, hi, ← hm, hfc, hst]
variable {R}
/-- an append where there is room -/
theorem run_roomK {w : World} {B : Nat} {g cap : Nat} {vx : Value} {xs ys : List α} (hown : R.Own B w (.slice (some ⟨g, 0, none⟩) xs.length cap) xs) (hz : R.App w vx ys) (hb0 : 0 < R.bytes) (hlen : (xs.length + ys.length) * R.bytes ≤ 140737488355328) (hB : B ≤ w.heap.size) (hroom : xs.length + ys.length ≤ cap) (ty : TypeId) :
    ∃ w', (Builtin.append_ #[R.tS, R.tS] ty #[.slice (some ⟨g, 0, none⟩) xs.length cap, vx]).run Tryz.prog w = .ok (.slice (some ⟨g, 0, none⟩) (xs.length + ys.length) cap) w' ∧ R.Own B w' (.slice (some ⟨g, 0, none⟩) (xs.length + ys.length) cap) (xs ++ ys) ∧ w.grownBy w' (some g) := by
  obtain ⟨i0, hi, hz0, hz1, hz2⟩ := info_parts R.info
  obtain ⟨v', w', hr1, h1, h2, _⟩ := run_appendBL hown hz hb0 hlen hB ty
  obtain ⟨cur, hg, hn, hB2, hc, hm, hs, ht⟩ := hown.row
  obtain ⟨ad, c, rfl, hcells⟩ := hz
  have hk := R.k0
  have hsz : ∀ j, j < (R.cells ys).length → xs.length * i0.size + j < cur.size := fun j hj => by
    rw [R.cells_len] at hj
    rw [hs, hz1]
    have : (xs.length + ys.length) * R.k ≤ cap * R.k := Nat.mul_le_mul_right _ hroom
    rw [Nat.add_mul] at this
    omega
  have hrun := run_append_room_cells (P := Tryz.prog) w R.tS ty R.tE i0 R.under hi g 0 xs.length cap ad ys.length c (R.cells ys) (by rw [hz1]; exact R.cells_len ys) hcells one_cells hroom
    (fun j hj => by rw [Nat.zero_add]; unfold World.cell?; simp only [hg]; rw [Array.getElem?_eq_getElem (hsz j hj)]; rfl)
    (fun j hj => by unfold World.frozen?; simp only [hg]; simp)
  rw [hr1] at hrun
  injection hrun with e1 e2
  subst e1
  exact ⟨w', hr1, h1, h2⟩
theorem Own.roomR {ops : Array Oper} {o : Oper} {a : Act} {K : Act → World → Prop} {Q : Exit → Act → World → Prop} {E : Prop} {w : World} (hb0 : 0 < R.bytes) (hgd : o.guard = none) (s x : Operand)
    (ho : o.op = .call { callee := .builtin .append, args := #[s, x], argTypes := #[R.tS, R.tS] }) {B g n cap m : Nat} {vx : Value} {xs ys : List α} (hn : n = xs.length) (hmm : m = n + ys.length) (hown : R.Own B w (.slice (some ⟨g, 0, none⟩) n cap) xs) (hs : a.eval s = .slice (some ⟨g, 0, none⟩) n cap)
    (hx : a.eval x = vx) (hz : R.App w vx ys) (hlen : (xs.length + ys.length) * R.bytes ≤ 140737488355328) (hbase : B ≤ w.heap.size) (hroom : xs.length + ys.length ≤ cap)
    (h : ∀ w', R.Own B w' (.slice (some ⟨g, 0, none⟩) m cap) (xs ++ ys) → w.grownBy w' (some g) → K (a.put o.dst (.slice (some ⟨g, 0, none⟩) m cap)) w') :
    if Region.wanted o (yielded ops a.tmps) = true then Oper.wp Tryz.prog o a w K Q else E := by
  have hw : Region.wanted o (yielded ops a.tmps) = true := by simp [Region.wanted, hgd]
  rw [if_pos hw]
  subst hn hmm
  obtain ⟨w', hr, h1, h2⟩ := run_roomK hown hz hb0 hlen hbase hroom o.type
  exact wp_of_runB ho (by rw [hs, hx]; exact hr) (h w' h1 h2)
/-- what lies behind it is cleared -/
theorem Own.clearB {ops : Array Oper} {rest : List Oper} {o : Oper} {a : Act} {Q : Exit → Act → World → Prop} {w : World} {B : Nat} {g n cap : Nat} {xs : List α} (h : R.Own B w (.slice (some ⟨g, 0, none⟩) n cap) xs)
    (hzv : ∀ w, (zeroValue R.tE).run Tryz.prog w = .ok R.zero w) (hz1 : ∀ u ∈ R.zero.cells.toList, u.oneCell' = true) {m c off len : Nat} (hm : xs.length + (m + 1) ≤ cap) (hof : off = xs.length * R.k) (hle : len = m + 1) (hgd : o.guard = none) (x : Operand) (ho : o.op = .call { callee := .builtin .clear, args := #[x], argTypes := #[R.tS] })
    (hx : a.eval x = .slice (some ⟨g, off, none⟩) len c)
    (hk : ∀ w', R.Own B w' (.slice (some ⟨g, 0, none⟩) n cap) xs → w.grownBy w' (some g) → wpList Tryz.prog ops Q rest (a.put o.dst (.tuple #[])) w') : wpList Tryz.prog ops Q (o :: rest) a w := by
  subst hof hle
  obtain ⟨cur, hg, hn, hB, hc, hmx, hs, ht⟩ := h.row
  have hle : (xs.length + (m + 1)) * R.k ≤ cap * R.k := Nat.mul_le_mul_right _ hm
  rw [Nat.add_mul] at hle
  have hzl : (Builtin.zeroCells R.zero.cells (m + 1)).toList.length = (m + 1) * R.k := by
    simp [Builtin.zeroCells, R.zlen]
  have hst := run_storeCells_at Tryz.prog g (xs.length * R.k) (Builtin.zeroCells R.zero.cells (m + 1)).toList 0 w cur (Own.rowOf (R := R) (B := B) (n := n) (cap := cap) (xs := xs) hg) (by rw [hzl, hs]; omega) (fun v hv => by
        simp only [Builtin.zeroCells, Array.toList_map, List.mem_map, Array.toList_range, List.mem_range] at hv
        obtain ⟨j, hj, rfl⟩ := hv
        have hlt : j % R.zero.cells.size < R.zero.cells.size := Nat.mod_lt _ (by rw [R.zlen]; exact R.k0)
        rw [getElem!_pos R.zero.cells _ hlt]
        exact hz1 _ (by rw [← Array.getElem_toList]; exact List.getElem_mem _))
  have hrun : (Builtin.clear_ #[R.tS] o.type #[.slice (some ⟨g, xs.length * R.k, none⟩) (m + 1) c]).run Tryz.prog w = .ok (.tuple #[]) (setRow w g (putFrom cur (xs.length * R.k + 0) (Builtin.zeroCells R.zero.cells (m + 1)).toList)) := by
    simp [Builtin.clear_, run_underlying R.under, hzv, hst]
  refine wpList_plain hgd fun _ hK => ?_
  unfold Oper.wp execOp
  simp only [ho, resolve, invoke, builtin, Sem.run_bind, Sem.run_pure, Result.andThen_ok, List.map_toArray, List.map_cons, List.map_nil, hx, hrun]
  exact hK _ _ (hk _ (h.beyond (Nat.le_refl _) (by rw [hzl, hs]; exact hle) hg) (grown_setRow _ _ _))
/-- the cells of a row from an element on -/
theorem Own.from {B : Nat} {w W : World} {g n cap : Nat} {xs : List α} (h : R.Own B w (.slice (some ⟨g, 0, none⟩) n cap) xs) {i : Nat} (hi : i ≤ xs.length) (hW : W.heap[g]? = w.heap[g]?) : ∀ j u, (R.cells (xs.drop i))[j]? = some u → W.cell? ⟨g, i * R.k + j, none⟩ = some u := by
  obtain ⟨cur, hg, hn, hB, hc, hm, hs, ht⟩ := h.row
  intro j u hu
  have e1 : R.cells xs = R.cells (xs.take i) ++ R.cells (xs.drop i) := by rw [← R.cells_append, List.take_append_drop]
  have l1 : (R.cells (xs.take i)).length = i * R.k := by rw [R.cells_len, List.length_take, Nat.min_eq_left hi]
  have h1 : (R.cells xs)[i * R.k + j]? = some u := by
    rw [e1, List.getElem?_append_right (by omega), l1, Nat.add_sub_cancel_left]
    exact hu
  rw [← ht, List.getElem?_take] at h1
  split at h1
  · unfold World.cell?
    simp only [hW, hg]
    rw [Array.getElem?_toList] at h1
    exact h1
  · cases h1
theorem Own.appFrom {B : Nat} {w W : World} {g n cap c : Nat} {xs : List α} (h : R.Own B w (.slice (some ⟨g, 0, none⟩) n cap) xs) {i : Nat} (hi : i ≤ xs.length) (hW : W.heap[g]? = w.heap[g]?) {ad : Addr} (had : i < xs.length → ad = ⟨g, i * R.k, none⟩) {m : Nat} (hm : m = xs.length - i) : R.App W (.slice (some ad) m c) (xs.drop i) := by
  refine ⟨ad, c, by rw [hm, List.length_drop], fun j u hu => ?_⟩
  by_cases e : i < xs.length
  · rw [had e, Addr.add_lit]
    exact h.from hi hW j u hu
  · rw [List.drop_of_length_le (by omega)] at hu
    simp [cells] at hu
end
end RowKind
end Go.Proofs.YthomddbekiknjaaGreat
