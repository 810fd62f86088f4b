/- a row of the call's own: an element is stored in its place; the rest of it is cleared and cut off -/
import Derived.Test.YtjaahmgokiobjaaGreatG04
import Derived.Test.YtjaahmgokiobjaaGreatG30
import Derived.Test.YtjaahmgokiobjaaGreatG09
import Derived.Test.YtjaahmgokiobjaaGreatG31
namespace Go.Proofs.YtjaahmgokiobjaaGreat
open Go.RowKit
set_option linter.unusedVariables false
set_option linter.unusedSimpArgs false
set_option linter.unusedSectionVars false

theorem run_storeCells_at (P : Program) (b o : Nat) : ∀ (vs : List Value) (i : Nat) (w : World) (c : Array Value), rowOf w b = some c → o + i + vs.length ≤ c.size → (∀ v ∈ vs, v.oneCell' = true) →
    (storeCells ⟨b, o, none⟩ vs i).run P w = .ok () (setRow w b (putFrom c (o + i) vs))
  | [], i, w, c, hc, _, _ => by rw [putFrom, setRow_self hc]; rfl
  | v :: rest, i, w, c, hc, hn, ho => by
    simp only [List.length_cons] at hn
    have hi : o + i < c.size := by omega
    have hcell : w.cell? ⟨b, o + i, none⟩ = some c[o + i] := by rw [rowOf_cell hc]; exact Array.getElem?_eq_getElem hi
    have hst : (store ((⟨b, o, none⟩ : Addr).add i) v).run P w = .ok () (w.setCell ⟨b, o + i, none⟩ v) := by
      rw [Addr.add_lit, run_store P w _ v _ (ho v (by simp)), hcell]
      simp only [rowOf_frozen hc]
      rfl
    have hrow : rowOf (w.setCell ⟨b, o + i, none⟩ v) b = some (c.setIfInBounds (o + i) v) := by rw [rowOf_setCell_same, hc]; rfl
    have ih := run_storeCells_at P b o rest (i + 1) (w.setCell ⟨b, o + i, none⟩ v) (c.setIfInBounds (o + i) v) hrow (by simp; omega) (fun x hx => ho x (by simp [hx]))
    rw [storeCells, Sem.run_bind, hst]
    show (storeCells ⟨b, o, none⟩ rest (i + 1)).run P (w.setCell ⟨b, o + i, none⟩ v) = _
    rw [ih, setCell_row hc, setRow_setRow]
    rfl
theorem grown_setRow (w : World) (g : Nat) (c : Array Value) : w.grownBy (setRow w g c) (some g) :=
  ⟨rfl, rfl, rfl, by rw [size_setRow]; exact Nat.le_refl _, fun k _ hne => heap_setRow w g c k fun e => hne (by rw [e])⟩
namespace RowKind
section
variable {α : Type} [Inhabited α] {R : RowKind α}
theorem Own.row {B : Nat} {w : World} {g n cap : Nat} {xs : List α} (h : R.Own B w (.slice (some ⟨g, 0, none⟩) n cap) xs) :
    ∃ cur, w.heap[g]? = some (.cells cur R.tE (0, 0)) ∧ n = xs.length ∧ B ≤ g ∧ xs.length ≤ cap ∧ cap ≤ maxLen ∧ cur.size = cap * R.k ∧ cur.toList.take (xs.length * R.k) = R.cells xs := by
  obtain ⟨h1, h2⟩ := h
  rcases h2 with ⟨e, _⟩ | ⟨g', cap', cur, e, hB, hg, hc, hm, hs, ht⟩
  · cases e
  · simp only [Value.slice.injEq, Option.some.injEq, Addr.mk.injEq, and_true] at e
    obtain ⟨e1, e2, e3⟩ := e
    subst e1; subst e3
    exact ⟨cur, hg, e2, hB, hc, hm, hs, ht⟩
theorem Own.rowOf {B : Nat} {w : World} {g n cap : Nat} {xs : List α} {cur : Array Value} (hg : w.heap[g]? = some (.cells cur R.tE (0, 0))) : Go.Proofs.YtjaahmgokiobjaaGreat.rowOf w g = some cur := by
  unfold Go.Proofs.YtjaahmgokiobjaaGreat.rowOf
  rw [hg]
  simp
theorem heap_set {w : World} {g : Nat} {cur c : Array Value} {t : TypeId} (hg : w.heap[g]? = some (.cells cur t (0, 0))) : (setRow w g c).heap[g]? = some (.cells c t (0, 0)) := by
  simp [setRow, Array.getElem?_modify, hg]
theorem cells_at {xs : List α} {t : Nat} (ht : t < xs.length * R.k) : (R.cells xs)[t]? = (R.enc xs[t / R.k]!)[t % R.k]? := by
  have hk := R.k0
  have e : t = t / R.k * R.k + t % R.k := by rw [Nat.mul_comm]; exact (Nat.div_add_mod t R.k).symm
  have hq : t / R.k < xs.length := Nat.div_lt_of_lt_mul (by rw [Nat.mul_comm]; exact ht)
  have := R.cells_get xs (t / R.k) hq (t % R.k) (Nat.mod_lt _ hk)
  rw [← e] at this
  exact this
theorem Own.setAt {B : Nat} {w : World} {g n cap : Nat} {xs : List α} (h : R.Own B w (.slice (some ⟨g, 0, none⟩) n cap) xs) {i : Nat} (hi : i < xs.length) (x : α) {cur : Array Value} (hg : w.heap[g]? = some (.cells cur R.tE (0, 0))) :
    R.Own B (setRow w g (putFrom cur (i * R.k) (R.enc x))) (.slice (some ⟨g, 0, none⟩) n cap) (xs.set i x) := by
  obtain ⟨cur', hg', hn, hB, hc, hm, hs, ht⟩ := h.row
  rw [hg] at hg'
  simp only [Option.some.injEq, Obj.cells.injEq, and_true] at hg'
  subst hg'
  have hk := R.k0
  have hle : (i + 1) * R.k ≤ cap * R.k := Nat.mul_le_mul_right _ (by omega)
  rw [Nat.add_mul, Nat.one_mul] at hle
  refine ⟨R.cells_len _, .inr ⟨g, cap, putFrom cur (i * R.k) (R.enc x), by rw [List.length_set, hn], hB, heap_set hg, by rw [List.length_set]; exact hc, hm, by rw [size_putFrom, hs], ?_⟩⟩
  rw [List.length_set]
  refine List.ext_getElem? fun t => ?_
  rw [List.getElem?_take]
  split
  · rename_i hlt
    rw [Array.getElem?_toList, get_putFrom _ _ _ _ (by rw [R.len]; omega), R.len, cells_at (by rw [List.length_set]; exact hlt)]
    have e : t = t / R.k * R.k + t % R.k := by rw [Nat.mul_comm]; exact (Nat.div_add_mod t R.k).symm
    have hmod := Nat.mod_lt t hk
    by_cases hq : t / R.k = i
    · rw [if_pos (by rw [← hq]; omega), hq, getElem!_pos _ i (by rw [List.length_set]; exact hi), List.getElem_set_self]
      congr 1
      rw [← hq]
      omega
    · have hne : ¬ (i * R.k ≤ t ∧ t < i * R.k + R.k) := by
        rintro ⟨q1, q2⟩
        apply hq
        have := (Nat.le_div_iff_mul_le hk).2 q1
        have := (Nat.div_lt_iff_lt_mul hk).2 (show t < (i + 1) * R.k by rw [Nat.add_mul]; omega)
        omega
      have hql : t / R.k < xs.length := Nat.div_lt_of_lt_mul (by rw [Nat.mul_comm]; exact hlt)
      have hl : (xs.set i x)[t / R.k]! = xs[t / R.k]! := by
        rw [getElem!_pos _ _ (by rw [List.length_set]; exact hql), getElem!_pos xs _ hql, List.getElem_set_ne (Ne.symm hq)]
      rw [if_neg hne, hl, ← cells_at hlt, ← ht, List.getElem?_take, if_pos hlt, Array.getElem?_toList]
  · rename_i hlt
    rw [List.getElem?_eq_none (by rw [R.cells_len, List.length_set]; omega)]
theorem Own.clearAt {B : Nat} {w : World} {g n cap : Nat} {xs : List α} (h : R.Own B w (.slice (some ⟨g, 0, none⟩) n cap) xs) {i : Nat} (hi : i ≤ xs.length) {zs : List Value} (hz : zs.length = (xs.length - i) * R.k) {cur : Array Value} (hg : w.heap[g]? = some (.cells cur R.tE (0, 0))) :
    R.Own B (setRow w g (putFrom cur (i * R.k) zs)) (.slice (some ⟨g, 0, none⟩) i cap) (xs.take i) := by
  obtain ⟨cur', hg', hn, hB, hc, hm, hs, ht⟩ := h.row
  rw [hg] at hg'
  simp only [Option.some.injEq, Obj.cells.injEq, and_true] at hg'
  subst hg'
  have hk := R.k0
  have hlen : (xs.take i).length = i := by rw [List.length_take]; omega
  have hmul : i * R.k + (xs.length - i) * R.k = xs.length * R.k := by rw [← Nat.add_mul]; congr 1; omega
  have hle : xs.length * R.k ≤ cap * R.k := Nat.mul_le_mul_right _ hc
  refine ⟨R.cells_len _, .inr ⟨g, cap, putFrom cur (i * R.k) zs, by rw [hlen], hB, heap_set hg, by rw [hlen]; omega, hm, by rw [size_putFrom, hs], ?_⟩⟩
  rw [hlen]
  refine List.ext_getElem? fun t => ?_
  rw [List.getElem?_take]
  split
  · rename_i hlt
    rw [Array.getElem?_toList, get_putFrom _ _ _ _ (by rw [hz]; omega), if_neg (by omega), cells_at (by rw [hlen]; exact hlt)]
    have hql : t / R.k < i := Nat.div_lt_of_lt_mul (by rw [Nat.mul_comm]; exact hlt)
    have hl : (xs.take i)[t / R.k]! = xs[t / R.k]! := by
      rw [getElem!_pos _ _ (by rw [hlen]; exact hql), getElem!_pos xs _ (by omega), List.getElem_take]
    rw [hl, ← cells_at (by omega), ← ht, List.getElem?_take, if_pos (by omega), Array.getElem?_toList]
  · rename_i hlt
    rw [List.getElem?_eq_none (by rw [R.cells_len, hlen]; omega)]
/-- an element (a whole struct) is stored in its place -/
theorem Own.storeAt {ops : Array Oper} {rest : List Oper} {o : Oper} {a : Act} {Q : Exit → Act → World → Prop} {w : World} {B : Nat} {g n cap : Nat} {xs : List α} (h : R.Own B w (.slice (some ⟨g, 0, none⟩) n cap) xs)
    (hsz : ∀ w, (Go.sizeOf R.tE).run Tryz.prog w = .ok R.k w) {i : Nat} (hi : i < xs.length) (u : α) (hgd : o.guard = none) (x y : Operand) (ho : o.op = .store R.tE x y) (hx : a.eval x = .pointer (some ⟨g, i * R.k, none⟩)) (hy : a.eval y = .agg (R.enc u).toArray)
    (hk : ∀ w', R.Own B w' (.slice (some ⟨g, 0, none⟩) n cap) (xs.set i u) → w.grownBy w' (some g) → wpList Tryz.prog ops Q rest (a.put o.dst undef) w') : wpList Tryz.prog ops Q (o :: rest) a w := by
  obtain ⟨cur, hg, hn, hB, hc, hm, hs, ht⟩ := h.row
  have hle : (i + 1) * R.k ≤ cap * R.k := Nat.mul_le_mul_right _ (by omega)
  rw [Nat.add_mul, Nat.one_mul] at hle
  have hst := run_storeCells_at Tryz.prog g (i * R.k) (R.enc u) 0 w cur (Own.rowOf (R := R) (B := B) (n := n) (cap := cap) (xs := xs) hg) (by rw [R.len, hs]; omega) (R.one u)
  refine wpList_plain hgd fun _ hK => ?_
  have hrun : (Instr.storeAt R.tE (.pointer (some ⟨g, i * R.k, none⟩)) (.agg (R.enc u).toArray)).run Tryz.prog w = .ok () (setRow w g (putFrom cur (i * R.k) (R.enc u))) := by
    simp [Instr.storeAt, Instr.sureAddr, storeVar, Sem.run_bind, hsz, Result.andThen, Value.cells, R.len, hst]
  unfold Oper.wp execOp
  simp only [ho, hx, hy, Sem.run_bind, hrun, Result.andThen, Sem.run_pure, Oper.upon_skip]
  exact hK _ _ (hk _ (h.setAt hi u hg) (grown_setRow _ _ _))
/-- what is behind the first i elements is cleared -/
theorem Own.clearL {ops : Array Oper} {rest : List Oper} {o : Oper} {a : Act} {Q : Exit → Act → World → Prop} {w : World} {B : Nat} {g n cap : Nat} {xs : List α} (h : R.Own B w (.slice (some ⟨g, 0, none⟩) n cap) xs)
    (hzv : ∀ w, (zeroValue R.tE).run Tryz.prog w = .ok R.zero w) (hz1 : ∀ u ∈ R.zero.cells.toList, u.oneCell' = true) {i c : Nat} (hi : i ≤ xs.length) (hgd : o.guard = none) (x : Operand) (ho : o.op = .call { callee := .builtin .clear, args := #[x], argTypes := #[R.tS] })
    (hx : a.eval x = .slice (some ⟨g, i * R.k, none⟩) (xs.length - i) c)
    (hk : ∀ w', R.Own B w' (.slice (some ⟨g, 0, none⟩) i cap) (xs.take i) → w.grownBy w' (some g) → wpList Tryz.prog ops Q rest (a.put o.dst (.tuple #[])) w') : wpList Tryz.prog ops Q (o :: rest) a w := by
  obtain ⟨cur, hg, hn, hB, hc, hm, hs, ht⟩ := h.row
  have hle : xs.length * R.k ≤ cap * R.k := Nat.mul_le_mul_right _ hc
  have hmul : i * R.k + (xs.length - i) * R.k = xs.length * R.k := by rw [← Nat.add_mul]; congr 1; omega
  have hzl : (Builtin.zeroCells R.zero.cells (xs.length - i)).toList.length = (xs.length - i) * R.k := by
    simp [Builtin.zeroCells, R.zlen]
  have hrun : ∃ w', (Builtin.clear_ #[R.tS] o.type #[.slice (some ⟨g, i * R.k, none⟩) (xs.length - i) c]).run Tryz.prog w = .ok (.tuple #[]) w' ∧ R.Own B w' (.slice (some ⟨g, 0, none⟩) i cap) (xs.take i) ∧ w.grownBy w' (some g) := by
    by_cases hz : xs.length - i = 0
    · refine ⟨w, ?_, ?_, ⟨rfl, rfl, rfl, Nat.le_refl _, fun _ _ _ => rfl⟩⟩
      · rw [hz]
        simp [Builtin.clear_, run_underlying R.under]
      · obtain rfl : i = xs.length := by omega
        rw [List.take_length]
        rw [hn] at h
        exact h
    · have hst := run_storeCells_at Tryz.prog g (i * R.k) (Builtin.zeroCells R.zero.cells (xs.length - i)).toList 0 w cur (Own.rowOf (R := R) (B := B) (n := n) (cap := cap) (xs := xs) hg) (by rw [hzl, hs]; omega) (fun v hv => by
        simp only [Builtin.zeroCells, Array.toList_map, List.mem_map, Array.toList_range, List.mem_range] at hv
        obtain ⟨j, hj, rfl⟩ := hv
        have hlt : j % R.zero.cells.size < R.zero.cells.size := Nat.mod_lt _ (by rw [R.zlen]; exact R.k0)
        rw [getElem!_pos R.zero.cells _ hlt]
        exact hz1 _ (by rw [← Array.getElem_toList]; exact List.getElem_mem _))
      refine ⟨_, ?_, h.clearAt hi hzl hg, grown_setRow _ _ _⟩
      obtain ⟨m, hm'⟩ : ∃ m, xs.length - i = m + 1 := ⟨xs.length - i - 1, by omega⟩
      rw [hm'] at hst ⊢
      simp [Builtin.clear_, run_underlying R.under, hzv, hst]
  obtain ⟨w', hr, h1, h2⟩ := hrun
  refine wpList_plain hgd fun _ hK => ?_
  unfold Oper.wp execOp
  simp only [ho, resolve, invoke, builtin, Sem.run_bind, Sem.run_pure, Result.andThen_ok, List.map_toArray, List.map_cons, List.map_nil, hx, hr]
  exact hK _ _ (hk _ h1 h2)
end
end RowKind
end Go.Proofs.YtjaahmgokiobjaaGreat
/- the closures of put; the library's IndexFunc, ContainsFunc and DeleteFunc over rows of steps -/
namespace Go.Proofs.YtjaahmgokiobjaaGreat
open Go.RowKit
set_option linter.unusedVariables false
set_option linter.unusedSimpArgs false
section
attribute [local go_sem ↓] loadH loadT storeH storeT
attribute [local simp] size_setRow
attribute [local go_sem] rowAt_head rowOf_alloc_at rowOf_alloc_past rowOf_drew rowOf_drewN rowOf_setRow_same rowOf_setRow_other rowOf_setCell_same rowOf_setCell_other size_setRow setRow_drew setRow_alloc_at setRow_alloc_past one_int one_bool cell_setRow_same cell_setRow_other frozen_setRow_same frozen_setRow_other
attribute [local go_sem ↓] run_imin

set_option maxRecDepth 100000 in
set_option maxHeartbeats 4000000 in
theorem put1_any (x h : HV) (B : Nat) (w : World) (hB : rowOf w B = some (hvRow h)) : Calls Tryz.prog 62 #[HV.val x, .pointer (some ⟨B, 0, none⟩)] w (Ret (.bool (leH x h)) w) := by
  have HL := Lib.hid (fun W => jle_any x h W)
  have N_b := hB
  have L_b := rowOf_lt N_b
  have D_b : B ≠ w.heap.size := Nat.ne_of_lt L_b
  generalize leH x h = r at HL ⊢
  clear hB
  go_enter Tryz.func62, Tryz.ntmps62
  go_wp2_with fail
  refine (HL.out _).mono ?_
  rintro e w1 ⟨rfl, hb1⟩
  have hB := bcall (B := w.heap.size) (a := w) (by go_grown) hb1 (by go_size)
  clear hb1 N_b L_b D_b
  go_wp2
  go_returns
  exact ⟨rfl, hB⟩

set_option maxRecDepth 100000 in
set_option maxHeartbeats 4000000 in
theorem put2_any (x h : HV) (B : Nat) (w : World) (hB : rowOf w B = some (hvRow h)) : Calls Tryz.prog 65 #[HV.val x, .pointer (some ⟨B, 0, none⟩)] w (Ret (.bool (leH h x)) w) := by
  have HL := Lib.hid (fun W => jle_any h x W)
  have N_b := hB
  have L_b := rowOf_lt N_b
  have D_b : B ≠ w.heap.size := Nat.ne_of_lt L_b
  generalize leH h x = r at HL ⊢
  clear hB
  go_enter Tryz.func65, Tryz.ntmps65
  go_wp2_with fail
  refine (HL.out _).mono ?_
  rintro e w1 ⟨rfl, hb1⟩
  have hB := bcall (B := w.heap.size) (a := w) (by go_grown) hb1 (by go_size)
  clear hb1 N_b L_b D_b
  go_wp2
  go_returns
  exact ⟨rfl, hB⟩
end
/-- the first of them that is told, or -1 -/
def IdxP (xs : List HV) (f : HV → Bool) (w : World) (e : Ending) (w' : World) : Prop :=
  ∃ r : Int, e = .returned (.int .i64 r) ∧ ((r = -1 ∧ ∀ x ∈ xs, f x = false) ∨ (∃ k : Nat, k < xs.length ∧ r = k ∧ f xs[k]! = true ∧ ∀ j, j < k → f xs[j]! = false)) ∧ Below w.heap.size w w'
section
attribute [local go_sem ↓] loadHs
attribute [local go_sem] HV.enc

set_option maxRecDepth 100000 in
set_option maxHeartbeats 8000000 in
theorem index_row_p1 (xs : List HV) (f : HV → Bool) (c1 : Value) (b off cap : Nat) (w : World) (hl : xs.length ≤ 1500000000000) (hb : b < w.heap.size) (hr : RHp.Row w b off xs)
    (hcl : ∀ W x, Below w.heap.size w W → Calls Tryz.prog 62 #[HV.val x, c1] W (Ret (.bool (f x)) W)) :
    Calls Tryz.prog 39 #[.slice (some ⟨b, off, none⟩) xs.length cap, .func (.func 62) #[] #[c1]] w (IdxP xs f w) := by
  have HE : Hid (∀ W, Below w.heap.size w W → ∀ j, j < xs.length → elemL W ⟨b, off + j * 11, none⟩ 0 11 = some (HV.enc xs[j]!)) := fun W hW j hj => hop_elem hr hb hW j hj
  have HC := Lib.hid hcl
  clear hr hcl
  generalize hn : xs.length = n at *
  have HN := Lib.hid hn
  clear hn
  go_enter Tryz.func39, Tryz.ntmps39
  go_wp2
  go_loopg [8] n (fun gg i wr => ∃ k : Nat, k ≤ n ∧ n - k ≤ gg ∧ i = .int .i64 (k : Int) ∧ Hid (Below w.heap.size w wr) ∧ Hid (∀ j, j < k → f xs[j]! = false))
  case atStart => exact ⟨0, Nat.zero_le _, by omega, rfl, Below.refl _ _, fun j hj => by omega⟩
  case round =>
    obtain ⟨k, hkn, hg, rfl, HB, HM⟩ := hrel
    by_cases hlt : k < n
    · have hlz : (k : Int) < (n : Int) := by omega
      have E1 := HE.out wr HB.out k hlt
      have HK := Lib.hid (HC.out wr xs[k]! HB.out)
      generalize hy : xs[k]! = y at *
      have HY := Lib.hid hy
      clear hy HE HC
      cases hq : f y
      · rw [hq] at HK
        have HQ := Lib.hid hq
        clear hq
        go_wp2_with fail
        refine (HK.out).mono ?_
        rintro e w1 ⟨rfl, hb1⟩
        have HB1 := Lib.hid (HB.out.trans (hb1.mono HB.out.size))
        clear hb1 E1
        go_wp2
        go_roundg (n - (k + 1))
        case measure => omega
        case rel =>
          refine ⟨k + 1, by omega, by omega, by go_num, HB1.out, fun j hj => ?_⟩
          by_cases e : j < k
          · exact HM.out j e
          · obtain rfl : j = k := by omega
            rw [HY.out]; exact HQ.out
      · rw [hq] at HK
        have HQ := Lib.hid hq
        clear hq
        go_wp2_with fail
        refine (HK.out).mono ?_
        rintro e w1 ⟨rfl, hb1⟩
        have HB1 := Lib.hid (HB.out.trans (hb1.mono HB.out.size))
        clear hb1 E1
        go_wp2
        go_returns
        exact ⟨_, rfl, .inr ⟨k, by rw [HN.out]; exact hlt, rfl, by rw [HY.out]; exact HQ.out, HM.out⟩, HB1.out⟩
    · have hlz : ¬ (k : Int) < (n : Int) := by omega
      obtain rfl : k = n := by omega
      clear HE HC
      go_wp2
      go_returns
      exact ⟨_, rfl, .inl ⟨rfl, fun x hx => by
        obtain ⟨j, hj, e⟩ := List.getElem_of_mem hx
        have := HM.out j (by rw [← HN.out]; exact hj)
        rw [getElem!_pos xs j hj, e] at this
        exact this⟩, HB.out⟩
set_option maxHeartbeats 2000000 in
theorem index_nil_p1 (f : HV → Bool) (c1 : Value) (p : Option Addr) (cap : Nat) (w : World) :
    Calls Tryz.prog 39 #[.slice p 0 cap, .func (.func 62) #[] #[c1]] w (IdxP [] f w) := by
  go_enter Tryz.func39, Tryz.ntmps39
  go_wp2
  refine wp_loop_rounds 1 ?_
  rw [rounds_succ]
  go_wp2
  go_returns
  exact ⟨_, rfl, .inl ⟨rfl, fun x hx => by simp at hx⟩, Below.refl _ _⟩
theorem index_any_p1 (xs : List HV) (f : HV → Bool) (c1 : Value) (v : Value) (w : World) (hl : xs.length ≤ 1500000000000) (hv : RHp.Is w v xs)
    (hcl : ∀ W x, Below w.heap.size w W → Calls Tryz.prog 62 #[HV.val x, c1] W (Ret (.bool (f x)) W)) :
    Calls Tryz.prog 39 #[v, .func (.func 62) #[] #[c1]] w (IdxP xs f w) := by
  rcases hv with ⟨rfl, p, cap, rfl, _⟩ | ⟨_, b, off, cap, rfl, hb, hr⟩
  · exact index_nil_p1 f c1 p cap w
  · exact index_row_p1 xs f c1 b off cap w hl hb hr hcl
set_option maxHeartbeats 2000000 in
theorem contains_any_p1 (xs : List HV) (f : HV → Bool) (c1 : Value) (v : Value) (w : World) (hl : xs.length ≤ 1500000000000) (hv : RHp.Is w v xs)
    (hcl : ∀ W x, Below w.heap.size w W → Calls Tryz.prog 62 #[HV.val x, c1] W (Ret (.bool (f x)) W)) :
    Calls Tryz.prog 16 #[v, .func (.func 62) #[] #[c1]] w (Ret (.bool (xs.any f)) w) := by
  have HI := Lib.hid (index_any_p1 xs f c1 v w hl hv hcl)
  obtain ⟨p, c, rfl⟩ := hv.slice
  clear hv hcl
  have hres : ∀ r : Int, ((r = -1 ∧ ∀ x ∈ xs, f x = false) ∨ (∃ k : Nat, k < xs.length ∧ r = k ∧ f xs[k]! = true ∧ ∀ j, j < k → f xs[j]! = false)) → decide (0 ≤ r) = xs.any f := fun r h => by
    rcases h with ⟨rfl, h⟩ | ⟨k, hk, rfl, h, _⟩
    · have : xs.any f = false := by
        cases q : xs.any f
        · rfl
        · obtain ⟨x, hx, hq⟩ := List.any_eq_true.1 q
          rw [h x hx] at hq
          cases hq
      rw [this]
      rfl
    · rw [decide_eq_true (by omega)]
      exact (List.any_eq_true.2 ⟨xs[k]!, by rw [getElem!_pos xs k hk]; exact List.getElem_mem _, h⟩).symm
  have HRes := Lib.hid hres
  clear hres
  generalize hn : xs.length = n at HI ⊢
  clear hn
  go_enter Tryz.func16, Tryz.ntmps16
  go_wp2_with fail
  refine (HI.out).mono ?_
  rintro e w1 ⟨r, rfl, hr, hb1⟩
  have HR := Lib.hid (HRes.out r (by assumption))
  clear hr HI HRes
  go_wp2
  go_returns
  exact ⟨ret_bool HR.out, hb1⟩

set_option maxRecDepth 100000 in
set_option maxHeartbeats 8000000 in
theorem index_row_p2 (xs : List HV) (f : HV → Bool) (c1 : Value) (b off cap : Nat) (w : World) (hl : xs.length ≤ 1500000000000) (hb : b < w.heap.size) (hr : RHp.Row w b off xs)
    (hcl : ∀ W x, Below w.heap.size w W → Calls Tryz.prog 65 #[HV.val x, c1] W (Ret (.bool (f x)) W)) :
    Calls Tryz.prog 39 #[.slice (some ⟨b, off, none⟩) xs.length cap, .func (.func 65) #[] #[c1]] w (IdxP xs f w) := by
  have HE : Hid (∀ W, Below w.heap.size w W → ∀ j, j < xs.length → elemL W ⟨b, off + j * 11, none⟩ 0 11 = some (HV.enc xs[j]!)) := fun W hW j hj => hop_elem hr hb hW j hj
  have HC := Lib.hid hcl
  clear hr hcl
  generalize hn : xs.length = n at *
  have HN := Lib.hid hn
  clear hn
  go_enter Tryz.func39, Tryz.ntmps39
  go_wp2
  go_loopg [8] n (fun gg i wr => ∃ k : Nat, k ≤ n ∧ n - k ≤ gg ∧ i = .int .i64 (k : Int) ∧ Hid (Below w.heap.size w wr) ∧ Hid (∀ j, j < k → f xs[j]! = false))
  case atStart => exact ⟨0, Nat.zero_le _, by omega, rfl, Below.refl _ _, fun j hj => by omega⟩
  case round =>
    obtain ⟨k, hkn, hg, rfl, HB, HM⟩ := hrel
    by_cases hlt : k < n
    · have hlz : (k : Int) < (n : Int) := by omega
      have E1 := HE.out wr HB.out k hlt
      have HK := Lib.hid (HC.out wr xs[k]! HB.out)
      generalize hy : xs[k]! = y at *
      have HY := Lib.hid hy
      clear hy HE HC
      cases hq : f y
      · rw [hq] at HK
        have HQ := Lib.hid hq
        clear hq
        go_wp2_with fail
        refine (HK.out).mono ?_
        rintro e w1 ⟨rfl, hb1⟩
        have HB1 := Lib.hid (HB.out.trans (hb1.mono HB.out.size))
        clear hb1 E1
        go_wp2
        go_roundg (n - (k + 1))
        case measure => omega
        case rel =>
          refine ⟨k + 1, by omega, by omega, by go_num, HB1.out, fun j hj => ?_⟩
          by_cases e : j < k
          · exact HM.out j e
          · obtain rfl : j = k := by omega
            rw [HY.out]; exact HQ.out
      · rw [hq] at HK
        have HQ := Lib.hid hq
        clear hq
        go_wp2_with fail
        refine (HK.out).mono ?_
        rintro e w1 ⟨rfl, hb1⟩
        have HB1 := Lib.hid (HB.out.trans (hb1.mono HB.out.size))
        clear hb1 E1
        go_wp2
        go_returns
        exact ⟨_, rfl, .inr ⟨k, by rw [HN.out]; exact hlt, rfl, by rw [HY.out]; exact HQ.out, HM.out⟩, HB1.out⟩
    · have hlz : ¬ (k : Int) < (n : Int) := by omega
      obtain rfl : k = n := by omega
      clear HE HC
      go_wp2
      go_returns
      exact ⟨_, rfl, .inl ⟨rfl, fun x hx => by
        obtain ⟨j, hj, e⟩ := List.getElem_of_mem hx
        have := HM.out j (by rw [← HN.out]; exact hj)
        rw [getElem!_pos xs j hj, e] at this
        exact this⟩, HB.out⟩
set_option maxHeartbeats 2000000 in
theorem index_nil_p2 (f : HV → Bool) (c1 : Value) (p : Option Addr) (cap : Nat) (w : World) :
    Calls Tryz.prog 39 #[.slice p 0 cap, .func (.func 65) #[] #[c1]] w (IdxP [] f w) := by
  go_enter Tryz.func39, Tryz.ntmps39
  go_wp2
  refine wp_loop_rounds 1 ?_
  rw [rounds_succ]
  go_wp2
  go_returns
  exact ⟨_, rfl, .inl ⟨rfl, fun x hx => by simp at hx⟩, Below.refl _ _⟩
theorem index_any_p2 (xs : List HV) (f : HV → Bool) (c1 : Value) (v : Value) (w : World) (hl : xs.length ≤ 1500000000000) (hv : RHp.Is w v xs)
    (hcl : ∀ W x, Below w.heap.size w W → Calls Tryz.prog 65 #[HV.val x, c1] W (Ret (.bool (f x)) W)) :
    Calls Tryz.prog 39 #[v, .func (.func 65) #[] #[c1]] w (IdxP xs f w) := by
  rcases hv with ⟨rfl, p, cap, rfl, _⟩ | ⟨_, b, off, cap, rfl, hb, hr⟩
  · exact index_nil_p2 f c1 p cap w
  · exact index_row_p2 xs f c1 b off cap w hl hb hr hcl
set_option maxHeartbeats 2000000 in
theorem contains_any_p2 (xs : List HV) (f : HV → Bool) (c1 : Value) (v : Value) (w : World) (hl : xs.length ≤ 1500000000000) (hv : RHp.Is w v xs)
    (hcl : ∀ W x, Below w.heap.size w W → Calls Tryz.prog 65 #[HV.val x, c1] W (Ret (.bool (f x)) W)) :
    Calls Tryz.prog 16 #[v, .func (.func 65) #[] #[c1]] w (Ret (.bool (xs.any f)) w) := by
  have HI := Lib.hid (index_any_p2 xs f c1 v w hl hv hcl)
  obtain ⟨p, c, rfl⟩ := hv.slice
  clear hv hcl
  have hres : ∀ r : Int, ((r = -1 ∧ ∀ x ∈ xs, f x = false) ∨ (∃ k : Nat, k < xs.length ∧ r = k ∧ f xs[k]! = true ∧ ∀ j, j < k → f xs[j]! = false)) → decide (0 ≤ r) = xs.any f := fun r h => by
    rcases h with ⟨rfl, h⟩ | ⟨k, hk, rfl, h, _⟩
    · have : xs.any f = false := by
        cases q : xs.any f
        · rfl
        · obtain ⟨x, hx, hq⟩ := List.any_eq_true.1 q
          rw [h x hx] at hq
          cases hq
      rw [this]
      rfl
    · rw [decide_eq_true (by omega)]
      exact (List.any_eq_true.2 ⟨xs[k]!, by rw [getElem!_pos xs k hk]; exact List.getElem_mem _, h⟩).symm
  have HRes := Lib.hid hres
  clear hres
  generalize hn : xs.length = n at HI ⊢
  clear hn
  go_enter Tryz.func16, Tryz.ntmps16
  go_wp2_with fail
  refine (HI.out).mono ?_
  rintro e w1 ⟨r, rfl, hr, hb1⟩
  have HR := Lib.hid (HRes.out r (by assumption))
  clear hr HI HRes
  go_wp2
  go_returns
  exact ⟨ret_bool HR.out, hb1⟩
end
end Go.Proofs.YtjaahmgokiobjaaGreat
