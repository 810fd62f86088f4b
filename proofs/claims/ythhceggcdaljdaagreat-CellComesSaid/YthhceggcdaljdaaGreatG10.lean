/- rows of the call's own: a front of one, an append where there is room, a copy, an element put between, one struck out -/
import Derived.Test.YthhceggcdaljdaaGreatG06
import Derived.Test.YthhceggcdaljdaaGreatG09
import Derived.Test.YthhceggcdaljdaaGreatG05
import Derived.Lib.AppendZerosOnto
import Derived.Lib.Overlaps
import Derived.Test.YthhceggcdaljdaaGreatG01
import Derived.Deep.QuietTactic
import Derived.BigQuiet
import Derived.Deep.RegionWith
namespace Go.Proofs.YthhceggcdaljdaaGreat
open Go.RowKit
set_option linter.unusedVariables false
set_option linter.unusedSimpArgs false
set_option linter.unusedSectionVars false

theorem wp_copy_runK {P : Program} {o : Oper} {a : Act} {K : Act → World → Prop} {Q : Exit → Act → World → Prop} {w w' : World} {v : Value} {d s : Operand} {t : TypeId}
    (ho : o.op = .call { callee := .builtin .copy, args := #[d, s], argTypes := #[t, t] }) (hr : (Builtin.copy_ #[t, t] o.type #[a.eval d, a.eval s]).run P w = .ok v w') (h : K (a.put o.dst v) w') : o.wp P a w K Q := by
  unfold Oper.wp execOp
  simp only [ho, resolve, invoke, builtin, Sem.run_bind, Sem.run_pure, Result.andThen_ok, List.map_toArray, List.map_cons, List.map_nil, hr]
  exact h
namespace RowKind
section
variable {α : Type} [Inhabited α] {R : RowKind α}
/-- its first elements -/
theorem Own.front {B : Nat} {w : World} {g n cap : Nat} {xs : List α} (h : R.Own B w (.slice (some ⟨g, 0, none⟩) n cap) xs) {i : Nat} (hi : i ≤ xs.length) : R.Own B w (.slice (some ⟨g, 0, none⟩) i cap) (xs.take i) := by
  obtain ⟨cur, hg, hn, hB, hc, hm, hs, ht⟩ := h.row
  have hlen : (xs.take i).length = i := by rw [List.length_take]; omega
  have hle : i * R.k ≤ xs.length * R.k := Nat.mul_le_mul_right _ hi
  refine ⟨R.cells_len _, .inr ⟨g, cap, cur, by rw [hlen], hB, hg, by rw [hlen]; omega, hm, hs, ?_⟩⟩
  have e : R.cells xs = R.cells (xs.take i) ++ R.cells (xs.drop i) := by rw [← R.cells_append, List.take_append_drop]
  rw [hlen]
  have h1 : cur.toList.take (i * R.k) = (cur.toList.take (xs.length * R.k)).take (i * R.k) := by rw [List.take_take, Nat.min_eq_left hle]
  rw [h1, ht, e, List.take_left' (by rw [R.cells_len, hlen])]
/-- what lies behind it may be changed -/
theorem Own.beyond {B : Nat} {w : World} {g n cap : Nat} {xs : List α} (h : R.Own B w (.slice (some ⟨g, 0, none⟩) n cap) xs) {zs : List Value} {o : Nat} (ho : xs.length * R.k ≤ o) {cur : Array Value} (hf : o + zs.length ≤ cur.size) (hg : w.heap[g]? = some (.cells cur R.tE (0, 0))) :
    R.Own B (setRow w g (putFrom cur o zs)) (.slice (some ⟨g, 0, none⟩) n cap) xs := by
  obtain ⟨cur', hg', hn, hB, hc, hm, hs, ht⟩ := h.row
  rw [hg] at hg'
  simp only [Option.some.injEq, Obj.cells.injEq, and_true] at hg'
  subst hg'
  refine ⟨R.cells_len _, .inr ⟨g, cap, putFrom cur o zs, by rw [hn], hB, heap_set hg, hc, hm, by rw [size_putFrom, hs], ?_⟩⟩
  rw [← ht]
  refine List.ext_getElem? fun t => ?_
  rw [List.getElem?_take, List.getElem?_take]
  split
  · rw [Array.getElem?_toList, Array.getElem?_toList, get_putFrom _ _ _ _ hf, if_neg (by omega)]
  · rfl
/-- one that stands at i, with what lies beside it -/
theorem Own.asm {B : Nat} {w : World} {g cap : Nat} {xs : List α} {cur : Array Value} {i : Nat} {x : α} (hi : i ≤ xs.length) (hB : B ≤ g) (hg : w.heap[g]? = some (.cells cur R.tE (0, 0))) (hc : xs.length + 1 ≤ cap) (hm : cap ≤ maxLen) (hs : cur.size = cap * R.k)
    (h1 : ∀ t, t < i * R.k → cur[t]? = (R.cells xs)[t]?) (h2 : ∀ t, t < R.k → cur[i * R.k + t]? = (R.enc x)[t]?) (h3 : ∀ t, t < (xs.length - i) * R.k → cur[i * R.k + R.k + t]? = (R.cells xs)[i * R.k + t]?) :
    R.Own B w (.slice (some ⟨g, 0, none⟩) (xs.length + 1) cap) (xs.take i ++ x :: xs.drop i) := by
  have hlen : (xs.take i ++ x :: xs.drop i).length = xs.length + 1 := by simp; omega
  have e1 : R.cells xs = R.cells (xs.take i) ++ R.cells (xs.drop i) := by rw [← R.cells_append, List.take_append_drop]
  have e2 : R.cells (xs.take i ++ x :: xs.drop i) = R.cells (xs.take i) ++ (R.enc x ++ R.cells (xs.drop i)) := by rw [R.cells_append]; rfl
  have l1 : (R.cells (xs.take i)).length = i * R.k := by rw [R.cells_len, List.length_take, Nat.min_eq_left hi]
  have l2 : (R.cells (xs.drop i)).length = (xs.length - i) * R.k := by rw [R.cells_len, List.length_drop]
  have l3 := R.len x
  have m1 : (xs.length + 1) * R.k = i * R.k + R.k + (xs.length - i) * R.k := by
    have : xs.length + 1 = i + 1 + (xs.length - i) := by omega
    rw [this, Nat.add_mul, Nat.add_mul, Nat.one_mul]
  refine ⟨R.cells_len _, .inr ⟨g, cap, cur, by rw [hlen], hB, hg, by rw [hlen]; exact hc, hm, hs, ?_⟩⟩
  rw [hlen, m1, e2]
  rw [e1] at h1 h3
  generalize i * R.k = a at *
  generalize (xs.length - i) * R.k = b at *
  generalize R.cells (xs.take i) = X at *
  generalize R.cells (xs.drop i) = Y at *
  generalize R.enc x = Z at *
  generalize R.k = k at *
  refine List.ext_getElem? fun t => ?_
  rw [List.getElem?_take]
  by_cases t1 : t < a
  · rw [if_pos (by omega), Array.getElem?_toList, h1 t t1, List.getElem?_append_left (by omega), List.getElem?_append_left (by omega)]
  · rw [List.getElem?_append_right (by omega)]
    by_cases t2 : t < a + k
    · have := h2 (t - a) (by omega)
      rw [show a + (t - a) = t by omega] at this
      rw [if_pos (by omega), Array.getElem?_toList, this, List.getElem?_append_left (by omega), l1]
    · rw [List.getElem?_append_right (by omega)]
      by_cases t3 : t < a + k + b
      · have := h3 (t - a - k) (by omega)
        rw [show a + k + (t - a - k) = t by omega, List.getElem?_append_right (by omega)] at this
        rw [if_pos t3, Array.getElem?_toList, this, l1, l3]
        congr 1
        omega
      · rw [if_neg t3, List.getElem?_eq_none (by omega)]
variable (R)
theorem run_copyK {w : World} {g o dLen dCap : Nat} {a : Addr} {sLen sCap : Nat} {cur : Array Value} {cs : List Value} {m : Nat} (ty : TypeId) (hm : m = Nat.min sLen dLen) (hl : cs.length = m * R.k)
    (hsrc : ∀ j u, cs[j]? = some u → w.cell? (a.add j) = some u) (hg : rowOf w g = some cur) (hfit : o + cs.length ≤ cur.size) (h1 : ∀ u ∈ cs, u.oneCell' = true) :
    (Builtin.copy_ #[R.tS, R.tS] ty #[.slice (some ⟨g, o, none⟩) dLen dCap, .slice (some a) sLen sCap]).run Tryz.prog w = .ok (goInt m) (setRow w g (putFrom cur o cs)) := by
  obtain ⟨i0, hi, hz0, hz1, hz2⟩ := info_parts R.info
  have hfc := run_firstCells_some (P := Tryz.prog) (w := w) i0.size m a sLen sCap cs (by rw [hz1]; exact hl) hsrc
  have hst := run_storeCells_at Tryz.prog g o cs 0 w cur hg (by simpa using hfit) h1
  simp only [Nat.add_zero] at hst
  simp [Builtin.copy_, run_underlying R.under, Builtin.lenOf, sizeOf, typeInfo, hi, ← hm, hfc, hst]
variable {R}
/-- an append where there is room -/
theorem run_roomK {w : World} {B : Nat} {g cap : Nat} {vx : Value} {xs ys : List α} (hown : R.Own B w (.slice (some ⟨g, 0, none⟩) xs.length cap) xs) (hz : R.App w vx ys) (hb0 : 0 < R.bytes) (hlen : (xs.length + ys.length) * R.bytes ≤ 140737488355328) (hB : B ≤ w.heap.size) (hroom : xs.length + ys.length ≤ cap) (ty : TypeId) :
    ∃ w', (Builtin.append_ #[R.tS, R.tS] ty #[.slice (some ⟨g, 0, none⟩) xs.length cap, vx]).run Tryz.prog w = .ok (.slice (some ⟨g, 0, none⟩) (xs.length + ys.length) cap) w' ∧ R.Own B w' (.slice (some ⟨g, 0, none⟩) (xs.length + ys.length) cap) (xs ++ ys) ∧ w.grownBy w' (some g) := by
  obtain ⟨i0, hi, hz0, hz1, hz2⟩ := info_parts R.info
  obtain ⟨v', w', hr1, h1, h2, _⟩ := run_appendBL hown hz hb0 hlen hB ty
  obtain ⟨cur, hg, hn, hB2, hc, hm, hs, ht⟩ := hown.row
  obtain ⟨ad, c, rfl, hcells⟩ := hz
  have hk := R.k0
  have hsz : ∀ j, j < (R.cells ys).length → xs.length * i0.size + j < cur.size := fun j hj => by
    rw [R.cells_len] at hj
    rw [hs, hz1]
    have : (xs.length + ys.length) * R.k ≤ cap * R.k := Nat.mul_le_mul_right _ hroom
    rw [Nat.add_mul] at this
    omega
  have hrun := run_append_room_cells (P := Tryz.prog) w R.tS ty R.tE i0 R.under hi g 0 xs.length cap ad ys.length c (R.cells ys) (by rw [hz1]; exact R.cells_len ys) hcells one_cells hroom
    (fun j hj => by rw [Nat.zero_add]; unfold World.cell?; simp only [hg]; rw [Array.getElem?_eq_getElem (hsz j hj)]; rfl)
    (fun j hj => by unfold World.frozen?; simp only [hg]; simp)
  rw [hr1] at hrun
  injection hrun with e1 e2
  subst e1
  exact ⟨w', hr1, h1, h2⟩
theorem Own.roomR {ops : Array Oper} {o : Oper} {a : Act} {K : Act → World → Prop} {Q : Exit → Act → World → Prop} {E : Prop} {w : World} (hb0 : 0 < R.bytes) (hgd : o.guard = none) (s x : Operand)
    (ho : o.op = .call { callee := .builtin .append, args := #[s, x], argTypes := #[R.tS, R.tS] }) {B g n cap m : Nat} {vx : Value} {xs ys : List α} (hn : n = xs.length) (hmm : m = n + ys.length) (hown : R.Own B w (.slice (some ⟨g, 0, none⟩) n cap) xs) (hs : a.eval s = .slice (some ⟨g, 0, none⟩) n cap)
    (hx : a.eval x = vx) (hz : R.App w vx ys) (hlen : (xs.length + ys.length) * R.bytes ≤ 140737488355328) (hbase : B ≤ w.heap.size) (hroom : xs.length + ys.length ≤ cap)
    (h : ∀ w', R.Own B w' (.slice (some ⟨g, 0, none⟩) m cap) (xs ++ ys) → w.grownBy w' (some g) → K (a.put o.dst (.slice (some ⟨g, 0, none⟩) m cap)) w') :
    if Region.wanted o (yielded ops a.tmps) = true then Oper.wp Tryz.prog o a w K Q else E := by
  have hw : Region.wanted o (yielded ops a.tmps) = true := by simp [Region.wanted, hgd]
  rw [if_pos hw]
  subst hn hmm
  obtain ⟨w', hr, h1, h2⟩ := run_roomK hown hz hb0 hlen hbase hroom o.type
  exact wp_of_runB ho (by rw [hs, hx]; exact hr) (h w' h1 h2)
/-- what lies behind it is cleared -/
theorem Own.clearB {ops : Array Oper} {rest : List Oper} {o : Oper} {a : Act} {Q : Exit → Act → World → Prop} {w : World} {B : Nat} {g n cap : Nat} {xs : List α} (h : R.Own B w (.slice (some ⟨g, 0, none⟩) n cap) xs)
    (hzv : ∀ w, (zeroValue R.tE).run Tryz.prog w = .ok R.zero w) (hz1 : ∀ u ∈ R.zero.cells.toList, u.oneCell' = true) {m c off len : Nat} (hm : xs.length + (m + 1) ≤ cap) (hof : off = xs.length * R.k) (hle : len = m + 1) (hgd : o.guard = none) (x : Operand) (ho : o.op = .call { callee := .builtin .clear, args := #[x], argTypes := #[R.tS] })
    (hx : a.eval x = .slice (some ⟨g, off, none⟩) len c)
    (hk : ∀ w', R.Own B w' (.slice (some ⟨g, 0, none⟩) n cap) xs → w.grownBy w' (some g) → wpList Tryz.prog ops Q rest (a.put o.dst (.tuple #[])) w') : wpList Tryz.prog ops Q (o :: rest) a w := by
  subst hof hle
  obtain ⟨cur, hg, hn, hB, hc, hmx, hs, ht⟩ := h.row
  have hle : (xs.length + (m + 1)) * R.k ≤ cap * R.k := Nat.mul_le_mul_right _ hm
  rw [Nat.add_mul] at hle
  have hzl : (Builtin.zeroCells R.zero.cells (m + 1)).toList.length = (m + 1) * R.k := by
    simp [Builtin.zeroCells, R.zlen]
  have hst := run_storeCells_at Tryz.prog g (xs.length * R.k) (Builtin.zeroCells R.zero.cells (m + 1)).toList 0 w cur (Own.rowOf (R := R) (B := B) (n := n) (cap := cap) (xs := xs) hg) (by rw [hzl, hs]; omega) (fun v hv => by
        simp only [Builtin.zeroCells, Array.toList_map, List.mem_map, Array.toList_range, List.mem_range] at hv
        obtain ⟨j, hj, rfl⟩ := hv
        have hlt : j % R.zero.cells.size < R.zero.cells.size := Nat.mod_lt _ (by rw [R.zlen]; exact R.k0)
        rw [getElem!_pos R.zero.cells _ hlt]
        exact hz1 _ (by rw [← Array.getElem_toList]; exact List.getElem_mem _))
  have hrun : (Builtin.clear_ #[R.tS] o.type #[.slice (some ⟨g, xs.length * R.k, none⟩) (m + 1) c]).run Tryz.prog w = .ok (.tuple #[]) (setRow w g (putFrom cur (xs.length * R.k + 0) (Builtin.zeroCells R.zero.cells (m + 1)).toList)) := by
    simp [Builtin.clear_, run_underlying R.under, hzv, hst]
  refine wpList_plain hgd fun _ hK => ?_
  unfold Oper.wp execOp
  simp only [ho, resolve, invoke, builtin, Sem.run_bind, Sem.run_pure, Result.andThen_ok, List.map_toArray, List.map_cons, List.map_nil, hx, hrun]
  exact hK _ _ (hk _ (h.beyond (Nat.le_refl _) (by rw [hzl, hs]; exact hle) hg) (grown_setRow _ _ _))
/-- the cells of a row from an element on -/
theorem Own.from {B : Nat} {w W : World} {g n cap : Nat} {xs : List α} (h : R.Own B w (.slice (some ⟨g, 0, none⟩) n cap) xs) {i : Nat} (hi : i ≤ xs.length) (hW : W.heap[g]? = w.heap[g]?) : ∀ j u, (R.cells (xs.drop i))[j]? = some u → W.cell? ⟨g, i * R.k + j, none⟩ = some u := by
  obtain ⟨cur, hg, hn, hB, hc, hm, hs, ht⟩ := h.row
  intro j u hu
  have e1 : R.cells xs = R.cells (xs.take i) ++ R.cells (xs.drop i) := by rw [← R.cells_append, List.take_append_drop]
  have l1 : (R.cells (xs.take i)).length = i * R.k := by rw [R.cells_len, List.length_take, Nat.min_eq_left hi]
  have h1 : (R.cells xs)[i * R.k + j]? = some u := by
    rw [e1, List.getElem?_append_right (by omega), l1, Nat.add_sub_cancel_left]
    exact hu
  rw [← ht, List.getElem?_take] at h1
  split at h1
  · unfold World.cell?
    simp only [hW, hg]
    rw [Array.getElem?_toList] at h1
    exact h1
  · cases h1
theorem Own.appFrom {B : Nat} {w W : World} {g n cap c : Nat} {xs : List α} (h : R.Own B w (.slice (some ⟨g, 0, none⟩) n cap) xs) {i : Nat} (hi : i ≤ xs.length) (hW : W.heap[g]? = w.heap[g]?) {ad : Addr} (had : i < xs.length → ad = ⟨g, i * R.k, none⟩) {m : Nat} (hm : m = xs.length - i) : R.App W (.slice (some ad) m c) (xs.drop i) := by
  refine ⟨ad, c, by rw [hm, List.length_drop], fun j u hu => ?_⟩
  by_cases e : i < xs.length
  · rw [had e, Addr.add_lit]
    exact h.from hi hW j u hu
  · rw [List.drop_of_length_le (by omega)] at hu
    simp [cells] at hu
end
end RowKind
end Go.Proofs.YthhceggcdaljdaaGreat
/- a region that draws its order, whose first operations only read or call what leaves all that was as it was, and whose last ones wait for all of these and for one another: one walk in the order of the text serves every order -/
namespace Go.Proofs.YthhceggcdaljdaaGreat
open Go.RowKit
set_option linter.unusedVariables false
set_option linter.unusedSimpArgs false

theorem ready_noneL {md : Region.Mode} {ops : Array Oper} {listed : Array Bool} (hz : listed.size = ops.size) (ha : ∀ i o, ops[i]? = some o → ∀ e ∈ o.after, Region.binds md e = true → e.on < i) (h : Region.ready md ops listed = []) : ∀ i, i < ops.size → listed.getD i false = true := by
  intro i
  induction i using Nat.strongRecOn with
  | _ i ih =>
    intro hi
    cases hl : listed.getD i true with
    | true =>
      have hlt : i < listed.size := by omega
      simp [Array.getElem?_eq_getElem hlt] at hl ⊢
      exact hl
    | false =>
      have : i ∈ Region.ready md ops listed := mem_ready.2 ⟨hl, ops[i], Array.getElem?_eq_getElem hi, fun e he hb => by
        have := ha i _ (Array.getElem?_eq_getElem hi) e he hb
        exact ih e.on this (by omega)⟩
      rw [h] at this
      cases this
def bindsOnL (o : Oper) (j : Nat) : Bool := o.after.any fun e => Region.binds .any e && decide (e.on = j)
def backBL (o : Oper) (i : Nat) : Bool := o.after.all fun e => !Region.binds .any e || decide (e.on < i)
/-- what is asked of such a region -/
def tailBL (pre tl : List Oper) : Bool :=
  ((pre ++ tl).all fun o => o.guard.isNone) &&
  (((List.range (pre ++ tl).length).all fun i => match (pre ++ tl)[i]? with
    | none => true
    | some o => backBL o i && (decide (i ≤ pre.length) || bindsOnL o (i - 1))) &&
  ((List.range pre.length).all fun j => (List.range (pre.length + 1)).any fun i => decide (j < i) && (match (pre ++ tl)[i]? with
    | none => false
    | some o => bindsOnL o j)))
theorem bindsOnL_spec {o : Oper} {j : Nat} (h : bindsOnL o j = true) : ∃ e ∈ o.after, Region.binds .any e = true ∧ e.on = j := by
  obtain ⟨e, he, hq⟩ := Array.any_eq_true'.1 h
  rw [Bool.and_eq_true, decide_eq_true_eq] at hq
  exact ⟨e, he, hq.1, hq.2⟩
theorem backBL_spec {o : Oper} {i : Nat} (h : backBL o i = true) : ∀ e ∈ o.after, Region.binds .any e = true → e.on < i := fun e he hb => by
  have q := (Array.all_eq_true_iff_forall_mem.1 h) e he
  rw [hb] at q
  simpa using q
section
variable {P : Program} {Q : Exit → Act → World → Prop} {C : World → Prop} {pre tl : List Oper}
structure TailOkL (pre tl : List Oper) : Prop where
  guard : ∀ (i : Nat) (o : Oper), (pre ++ tl)[i]? = some o → o.guard = none
  back : ∀ (i : Nat) (o : Oper), (pre ++ tl)[i]? = some o → ∀ e ∈ o.after, Region.binds .any e = true → e.on < i
  chain : ∀ (i : Nat) (o : Oper), (pre ++ tl)[i]? = some o → pre.length < i → ∃ e ∈ o.after, Region.binds .any e = true ∧ e.on = i - 1
  sink : ∀ (j : Nat), j < pre.length → ∃ (i : Nat) (o : Oper), j < i ∧ i ≤ pre.length ∧ (pre ++ tl)[i]? = some o ∧ ∃ e ∈ o.after, Region.binds .any e = true ∧ e.on = j
theorem tailOkL (h : tailBL pre tl = true) : TailOkL pre tl := by
  unfold tailBL at h
  rw [Bool.and_eq_true, Bool.and_eq_true, List.all_eq_true, List.all_eq_true, List.all_eq_true] at h
  obtain ⟨hg, hb, hs⟩ := h
  have hb' : ∀ i o, (pre ++ tl)[i]? = some o → backBL o i = true ∧ (i ≤ pre.length ∨ bindsOnL o (i - 1) = true) := fun i o ho => by
    have q := hb i (List.mem_range.2 (List.getElem?_eq_some_iff.1 ho).1)
    simp only [ho] at q
    rw [Bool.and_eq_true, Bool.or_eq_true, decide_eq_true_eq] at q
    exact q
  refine ⟨fun i o ho => by simpa using hg o (List.mem_of_getElem? ho), fun i o ho => backBL_spec (hb' i o ho).1, fun i o ho hi => ?_, fun j hj => ?_⟩
  · rcases (hb' i o ho).2 with q | q
    · omega
    · exact bindsOnL_spec q
  · have q := hs j (List.mem_range.2 hj)
    rw [List.any_eq_true] at q
    obtain ⟨i, hi, q⟩ := q
    rw [Bool.and_eq_true, decide_eq_true_eq] at q
    obtain ⟨q1, q2⟩ := q
    have hi := List.mem_range.1 hi
    cases ho : (pre ++ tl)[i]? with
    | none => simp [ho] at q2
    | some o => simp only [ho] at q2; exact ⟨i, o, q1, by omega, ho, bindsOnL_spec q2⟩
/-- the tail, once all ahead of it are done -/
theorem tailL_seq (hT : TailOkL pre tl) : ∀ (rest : List Oper) (m fuel : Nat) (listed : Array Bool) (a : Act) (w : World), m + rest.length = (pre ++ tl).length → pre.length ≤ m → (∀ j, rest[j]? = (pre ++ tl)[m + j]?) → rest.length ≤ fuel →
    listed.size = (pre ++ tl).length → (∀ i, i < m → listed.getD i false = true) → (∀ i, m ≤ i → i < listed.size → listed.getD i true = false) → wpList P (pre ++ tl).toArray Q rest a w → wpAny P .any (pre ++ tl).toArray Q fuel listed a w
  | [], m, fuel, listed, a, w, hm, hk, hr, hf, hz, h1, h2, h => by
    have hnil : Region.ready .any (pre ++ tl).toArray listed = [] := List.eq_nil_iff_forall_not_mem.2 fun i hi => by
      obtain ⟨hun, o, ho, _⟩ := mem_ready.1 hi
      have hlt : i < (pre ++ tl).length := by simpa using (Array.getElem?_eq_some_iff.1 ho).1
      simp only [List.length_nil, Nat.add_zero] at hm
      have := h1 i (by omega)
      rw [Array.getD_eq_getD_getElem?] at hun this
      rw [Array.getElem?_eq_getElem (by omega)] at hun this
      simp only [Option.getD_some] at hun this
      rw [hun] at this
      cases this
    cases fuel with
    | zero => exact ⟨hnil, h⟩
    | succ f => exact ⟨fun _ => h, fun i hi => by rw [hnil] at hi; cases hi⟩
  | o :: rest, m, fuel, listed, a, w, hm, hk, hr, hf, hz, h1, h2, h => by
    have ho : (pre ++ tl)[m]? = some o := by simpa using (hr 0).symm
    have hml : m < (pre ++ tl).length := by simp only [List.length_cons] at hm; omega
    cases fuel with
    | zero => simp at hf
    | succ f =>
      have hmem : ∀ i, i ∈ Region.ready .any (pre ++ tl).toArray listed → i = m := fun i hi => by
        obtain ⟨hun, o', ho', hall⟩ := mem_ready.1 hi
        have ho' : (pre ++ tl)[i]? = some o' := by simpa using ho'
        have hlt := (List.getElem?_eq_some_iff.1 ho').1
        rcases Nat.lt_trichotomy i m with q | q | q
        · have := h1 i q
          rw [Array.getD_eq_getD_getElem?, Array.getElem?_eq_getElem (by omega)] at hun this
          simp only [Option.getD_some] at hun this
          rw [hun] at this
          cases this
        · exact q
        · obtain ⟨e, he, hb, hon⟩ := hT.chain i o' ho' (by omega)
          have := hall e he hb
          rw [hon] at this
          have h3 := h2 (i - 1) (by omega) (by omega)
          rw [Array.getD_eq_getD_getElem?, Array.getElem?_eq_getElem (by omega)] at this h3
          simp only [Option.getD_some] at this h3
          rw [this] at h3
          cases h3
      refine ⟨fun hnil => ?_, fun i hi => ?_⟩
      · have : m ∈ Region.ready .any (pre ++ tl).toArray listed := mem_ready.2 ⟨h2 m (Nat.le_refl _) (by omega), o, by simpa using ho, fun e he hb => h1 _ (hT.back m o ho e he hb)⟩
        rw [hnil] at this
        cases this
      · obtain rfl := (hmem i hi).symm
        have hw : Region.wanted o (yielded (pre ++ tl).toArray a.tmps) = true := by unfold Region.wanted; rw [hT.guard m o ho]
        unfold wpOp
        simp only [List.getElem?_toArray, ho, hw, if_true]
        unfold wpList at h
        simp only [hw, if_true] at h
        refine h.elim (fun h => .inl (Oper.wp_mono (fun a' w' h' => ?_) h)) .inr
        refine tailL_seq hT rest (m + 1) f (listed.setIfInBounds m true) a' w' (by simp only [List.length_cons] at hm; omega) (by omega) (fun j => by have := hr (j + 1); simpa [Nat.add_assoc, Nat.add_comm 1 j] using this) (by simp only [List.length_cons] at hf; omega) (by simpa using hz) (fun j hj => ?_) (fun j hj hjs => ?_) h'
        · by_cases e : j = m
          · subst e
            simp [show j < listed.size by omega]
          · rw [getD_set_ne false (Ne.symm e)]
            exact h1 j (by omega)
        · rw [getD_set_ne true (by omega)]
          exact h2 j (by omega) (by simpa using hjs)
/-- the operations ahead of the tail, in whatever order -/
theorem tailL_sim (hT : TailOkL pre tl) (htl : tl ≠ []) : ∀ (fuel : Nat) (listed listed' : Array Bool) (a : Act) (w : World), wpAnyQ P .any pre.toArray C (fun a' => ∀ w', C w' → wpList P (pre ++ tl).toArray Q tl a' w') fuel listed' a → C w →
    listed.size = (pre ++ tl).length → listed'.size = pre.length → (∀ i, i < pre.length → ∀ d, listed.getD i d = listed'.getD i d) → (∀ i, pre.length ≤ i → i < listed.size → listed.getD i true = false) →
    (∀ i o, pre[i]? = some o → listed'.getD i false = true → ∀ e ∈ o.after, Region.binds .any e = true → listed'.getD e.on false = true) →
    wpAny P .any (pre ++ tl).toArray Q (fuel + tl.length) listed a w := fun fuel => by
  induction fuel with
  | zero =>
    intro listed listed' a w h hC hz hz' he hun hcl
    have hall := ready_noneL (ops := pre.toArray) (by simpa using hz') (fun i o ho => hT.back i o (by rw [List.getElem?_append_left (by simpa using (Array.getElem?_eq_some_iff.1 ho).1)]; simpa using ho)) h.1
    exact tailL_seq hT tl pre.length _ listed a w (by simp) (Nat.le_refl _) (fun j => by rw [List.getElem?_append_right (by omega)]; congr 1; omega) (by omega) hz (fun i hi => by rw [he i hi]; exact hall i (by simpa using hi)) hun (h.2 w hC)
  | succ fuel ih =>
    intro listed listed' a w h hC hz hz' he hun hcl
    obtain ⟨h0, h1⟩ := h
    by_cases hnil : Region.ready .any pre.toArray listed' = []
    · have hall := ready_noneL (ops := pre.toArray) (by simpa using hz') (fun i o ho => hT.back i o (by rw [List.getElem?_append_left (by simpa using (Array.getElem?_eq_some_iff.1 ho).1)]; simpa using ho)) hnil
      exact tailL_seq hT tl pre.length _ listed a w (by simp) (Nat.le_refl _) (fun j => by rw [List.getElem?_append_right (by omega)]; congr 1; omega) (by omega) hz (fun i hi => by rw [he i hi]; exact hall i (by simpa using hi)) hun (h0 hnil w hC)
    · -- something ahead of the tail is not yet done: then nothing of the tail is ready
      obtain ⟨i0, hi0⟩ := List.exists_mem_of_ne_nil _ hnil
      have hopen : ∃ j, j < pre.length ∧ listed'.getD j true = false := by
        obtain ⟨q, o, ho, _⟩ := mem_ready.1 hi0
        exact ⟨i0, by simpa using (Array.getElem?_eq_some_iff.1 ho).1, q⟩
      have hk : ∀ i, i ∈ Region.ready .any (pre ++ tl).toArray listed → i < pre.length := fun i hi => by
        obtain ⟨hu, o, ho, hall⟩ := mem_ready.1 hi
        have ho : (pre ++ tl)[i]? = some o := by simpa using ho
        have hlt := (List.getElem?_eq_some_iff.1 ho).1
        refine Nat.lt_of_not_le fun hle => ?_
        rcases Nat.eq_or_lt_of_le hle with q | q
        · -- the last one that is not done has one behind it that waits for it
          have hmax : ∀ d j, j < pre.length → pre.length - j ≤ d → listed'.getD j true = false → False := fun d => by
            induction d with
            | zero => intro j hj hd; omega
            | succ d ihd =>
              intro j hj hd hjf
              have hjf' : listed'.getD j false = false := by
                rw [Array.getD_eq_getD_getElem?, Array.getElem?_eq_getElem (by omega)] at hjf ⊢
                exact hjf
              obtain ⟨i2, o2, h2a, h2b, ho2, e, hem, hb, hon⟩ := hT.sink j hj
              rcases Nat.eq_or_lt_of_le h2b with r | r
              · rw [r, q, ho] at ho2
                cases ho2
                have := hall e hem hb
                rw [hon, he j hj, hjf'] at this
                cases this
              · refine ihd i2 r (by omega) ?_
                cases hl : listed'.getD i2 true with
                | false => rfl
                | true =>
                  have hl' : listed'.getD i2 false = true := by
                    rw [Array.getD_eq_getD_getElem?, Array.getElem?_eq_getElem (by omega)] at hl ⊢
                    exact hl
                  have := hcl i2 o2 (by rw [← ho2, List.getElem?_append_left r]) hl' e hem hb
                  rw [hon, hjf'] at this
                  cases this
          obtain ⟨j, hj, hjf⟩ := hopen
          exact hmax _ j hj (Nat.le_refl _) hjf
        · obtain ⟨e, hem, hb, hon⟩ := hT.chain i o ho q
          have h3 := hall e hem hb
          have h4 := hun (i - 1) (by omega) (by omega)
          rw [hon, Array.getD_eq_getD_getElem?, Array.getElem?_eq_getElem (by omega)] at h3
          rw [Array.getD_eq_getD_getElem?, Array.getElem?_eq_getElem (by omega)] at h4
          simp only [Option.getD_some] at h3 h4
          rw [h3] at h4
          cases h4
      rw [show fuel + 1 + tl.length = (fuel + tl.length) + 1 by omega]
      refine ⟨fun hr => ?_, fun i hi => ?_⟩
      · obtain ⟨q, o, ho, hall⟩ := mem_ready.1 hi0
        have hlt : i0 < pre.length := by simpa using (Array.getElem?_eq_some_iff.1 ho).1
        have ho' : (pre ++ tl)[i0]? = some o := by rw [List.getElem?_append_left hlt]; simpa using ho
        have : i0 ∈ Region.ready .any (pre ++ tl).toArray listed := mem_ready.2 ⟨by rw [he i0 hlt]; exact q, o, by simpa using ho', fun e hem hb => by rw [he _ (Nat.lt_trans (hT.back i0 o ho' e hem hb) hlt)]; exact hall e hem hb⟩
        rw [hr] at this
        cases this
      · have hlt := hk i hi
        obtain ⟨hu, o, ho, hall⟩ := mem_ready.1 hi
        have ho : (pre ++ tl)[i]? = some o := by simpa using ho
        have hop : pre[i]? = some o := by rw [← ho, List.getElem?_append_left hlt]
        have hi' : i ∈ Region.ready .any pre.toArray listed' := mem_ready.2 ⟨by rw [← he i hlt]; exact hu, o, by simpa using hop, fun e hem hb => by rw [← he _ (Nat.lt_trans (hT.back i o ho e hem hb) hlt)]; exact hall e hem hb⟩
        have hq := h1 i hi'
        have hw : ∀ (ops : Array Oper), Region.wanted o (yielded ops a.tmps) = true := fun ops => by unfold Region.wanted; rw [hT.guard i o ho]
        unfold qOp at hq
        simp only [List.getElem?_toArray, hop, hw, if_true] at hq
        unfold wpOp
        simp only [List.getElem?_toArray, ho, hw, if_true]
        refine .inl (Oper.wp_of_quiet hC (fun a' w' hC' h' => ?_) hq)
        refine ih (listed.setIfInBounds i true) (listed'.setIfInBounds i true) a' w' h' hC' (by simpa using hz) (by simpa using hz') (fun j hj d => ?_) (fun j hj hjs => ?_) (fun j oj hoj hlj e hem hb => ?_)
        · by_cases e : i = j
          · subst e
            simp [show i < listed.size by simp at hz ⊢; omega, show i < listed'.size by omega]
          · rw [getD_set_ne d e, getD_set_ne d e]
            exact he j hj d
        · rw [getD_set_ne true (by omega)]
          exact hun j hj (by simpa using hjs)
        · by_cases e' : i = j
          · subst e'
            rw [hop] at hoj
            cases hoj
            exact getD_set_true ((he _ (Nat.lt_trans (hT.back i o ho e hem hb) hlt) false).symm.trans (hall e hem hb))
          · rw [getD_set_ne false e'] at hlj
            exact getD_set_true (hcl j oj hoj hlj e hem hb)
theorem wp_region_tail {id : Nat} {a : Act} {w : World} (pre tl : List Oper) {l : Array Oper} (hl : l = (pre ++ tl).toArray) (hm : P.follows .mixedOrders = true) (hB : Region.lexB .any pre.toArray = true) (hT : tailBL pre tl = true) (htl : tl ≠ [])
    (h : wpQuiet P pre.toArray (fun w' => ∃ p : Beh w, w' = p.w) (fun a' => ∀ w', (∃ p : Beh w, w' = p.w) → wpList P (pre ++ tl).toArray Q tl a' w') pre a) : (Code.region id l true).wp P Q a w := by
  subst hl
  refine wp_region_any hm ?_
  have hT := tailOkL hT
  simp only [Region.lexB, Bool.and_eq_true] at hB
  have hq := wpAnyQ_lex (C := fun w' => ∃ p : Beh w, w' = p.w) (md := .any) hB.1 pre 0 (Array.replicate pre.length false) a (by simp) (by simpa using hB.2) h
  have := tailL_sim (Q := Q) hT htl pre.length (Array.replicate (pre ++ tl).length false) (Array.replicate pre.length false) a { w with drawn := w.drawn + 1 } hq ⟨⟨_, (Below.refl _ w).drew⟩, rfl⟩ (by simp) (by simp)
    (fun i hi d => by simp only [Array.getD_eq_getD_getElem?]; rw [Array.getElem?_replicate, Array.getElem?_replicate, if_pos hi, if_pos (by simp; omega)])
    (fun i hi hs => by simp only [Array.getD_eq_getD_getElem?]; rw [Array.getElem?_replicate, if_pos (by simpa using hs)]; rfl)
    (fun i o ho hl => by simp only [Array.getD_eq_getD_getElem?] at hl; rw [Array.getElem?_replicate] at hl; split at hl <;> cases hl)
  simpa using this
theorem wp_region_last {id : Nat} {a : Act} {w : World} {l pre tl : List Oper} (k : Nat) (hp : l.take k = pre) (ht : l.drop k = tl) (hm : P.follows .mixedOrders = true) (hB : Region.lexB .any pre.toArray = true) (hT : tailBL pre tl = true) (htl : tl ≠ [])
    (h : wpQuiet P pre.toArray (fun w' => ∃ p : Beh w, w' = p.w) (fun a' => ∀ w', (∃ p : Beh w, w' = p.w) → wpList P (pre ++ tl).toArray Q tl a' w') pre a) : (Code.region id l.toArray true).wp P Q a w :=
  wp_region_tail pre tl (by rw [← hp, ← ht, List.take_append_drop]) hm hB hT htl h
end
end Go.Proofs.YthhceggcdaljdaaGreat
