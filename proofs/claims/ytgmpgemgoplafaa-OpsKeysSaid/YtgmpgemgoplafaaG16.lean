/- the program's own rightOne and Right -/
import Derived.Test.YtgmpgemgoplafaaG07
import Derived.Test.YtgmpgemgoplafaaG02
import Derived.Test.YtgmpgemgoplafaaG04
import Derived.Deep.Cut
namespace Go.Proofs.Ytgmpgemgoplafaa
open Go.RowKit
set_option linter.unusedVariables false
set_option linter.unusedSimpArgs false

theorem retB {a : Bool} {b : Bool} (h : a = b) : Ending.returned (.bool a) = .returned (.bool b) := by rw [h]
set_option maxRecDepth 100000 in
set_option maxHeartbeats 8000000 in
theorem prightOne_any (op n : Int) (len : Nat) (w : World) : Calls Try.prog 87 #[.agg #[.int .i64 op, .int .i64 n], .int .i64 (len : Int)] w (Ret (.bool (decide (NV.ok len ⟨op, n⟩))) w) := by
  have HB := Lib.hid ((Below.refl w.heap.size w).alloc (Nat.le_refl _) (.cells #[.int .i64 op, .int .i64 n] 119))
  by_cases h1 : op = 1
  · subst h1
    rw [decide_eq_true (show NV.ok len ⟨1, n⟩ by unfold NV.ok; simp only; omega)]
    go_enter Try.func87, Try.ntmps87
    go_wp2
    all_goals go_returns
    all_goals exact ⟨rfl, HB.out⟩
  have e1 : (op == 1) = false := by simpa using h1
  by_cases hj : op = 14 ∨ op = 15
  · have hv : decide (NV.ok len ⟨op, n⟩) = (decide (0 ≤ n) && decide (n ≤ (len : Int))) := by
      rw [Bool.eq_iff_iff, Bool.and_eq_true, decide_eq_true_eq, decide_eq_true_eq, decide_eq_true_eq]
      unfold NV.ok
      simp only
      omega
    rw [hv]
    clear hv h1
    have hop : op = 14 ∨ op = 15 := hj
    clear hj
    rcases hop with rfl | rfl
    all_goals
      by_cases z0 : 0 ≤ n
      · by_cases z1 : n ≤ (len : Int)
        · rw [decide_eq_true z0, decide_eq_true z1]
          go_enter Try.func87, Try.ntmps87
          go_wp2
          all_goals go_returns
          all_goals exact ⟨rfl, HB.out⟩
        · rw [decide_eq_true z0, decide_eq_false z1]
          go_enter Try.func87, Try.ntmps87
          go_wp2
          all_goals go_returns
          all_goals exact ⟨rfl, HB.out⟩
      · rw [decide_eq_false z0, Bool.false_and]
        go_enter Try.func87, Try.ntmps87
        go_wp2
        all_goals go_returns
        all_goals exact ⟨rfl, HB.out⟩
  have e2 : (op == 14) = false := by simp; omega
  have e3 : (op == 15) = false := by simp; omega
  have hv : decide (NV.ok len ⟨op, n⟩) = (decide (1 < op) && decide (op ≤ 16) && decide (n = 0)) := by
    rw [Bool.eq_iff_iff, Bool.and_eq_true, Bool.and_eq_true, decide_eq_true_eq, decide_eq_true_eq, decide_eq_true_eq, decide_eq_true_eq]
    unfold NV.ok
    simp only
    omega
  rw [hv]
  clear hv h1 hj
  by_cases z0 : 1 < op
  · rw [decide_eq_true z0]
    by_cases z1 : op ≤ 16
    · rw [decide_eq_true z1]
      by_cases z2 : n = 0
      · subst z2
        go_enter Try.func87, Try.ntmps87
        go_wp2
        all_goals go_returns
        all_goals exact ⟨rfl, HB.out⟩
      · rw [decide_eq_false z2]
        have e4 : (n == 0) = false := by simpa using z2
        go_enter Try.func87, Try.ntmps87
        go_wp2
        all_goals go_returns
        all_goals exact ⟨rfl, HB.out⟩
    · rw [decide_eq_false z1, Bool.true_and, Bool.false_and]
      go_enter Try.func87, Try.ntmps87
      go_wp2
      all_goals go_returns
      all_goals exact ⟨rfl, HB.out⟩
  · rw [decide_eq_false z0, Bool.false_and, Bool.false_and]
    go_enter Try.func87, Try.ntmps87
    go_wp2
    all_goals go_returns
    all_goals exact ⟨rfl, HB.out⟩
set_option maxRecDepth 100000 in
set_option maxHeartbeats 8000000 in
theorem pright_row (xs : List NV) (b off cap : Nat) (w : World) (hl : xs.length ≤ 900000) (hb : b < w.heap.size) (hr : RC.Row w b off xs) :
    Calls Try.prog 78 #[.slice (some ⟨b, off, none⟩) xs.length cap] w (Ret (.bool (rightC xs)) w) := by
  have hrow : Hid (∀ (W : World), Below w.heap.size w W → ∀ j, j < xs.length → _) := fun W hW j hj => atC7 (hr.below hW hb) j hj
  have hstep := Lib.hid (fun j (hj : j < xs.length) => all_drop (len := xs.length) hj)
  have hst : xs.length ≤ 64 → (xs.drop 0).all (fun x => decide (x.ok xs.length)) = rightC xs := fun h => by unfold rightC; rw [decide_eq_true h, Bool.and_true]; rfl
  have hbig : ¬ xs.length ≤ 64 → rightC xs = false := fun h => by unfold rightC; rw [decide_eq_false h, Bool.and_false]
  have hend : ((xs.drop xs.length).all fun x => decide (x.ok xs.length)) = true := by rw [List.drop_length]; rfl
  have HSt := Lib.hid hst; have HEnd := Lib.hid hend; have HBig := Lib.hid hbig
  clear hr hst hend hbig
  generalize rightC xs = res at *
  generalize hn : xs.length = n at *
  have HN := Lib.hid hn
  clear hn
  have HC := Lib.hid (fun op nn W => prightOne_any op nn n W)
  by_cases h64 : (n : Int) > 64
  · have hq := HBig.out (by omega)
    subst hq
    clear hrow hstep
    go_enter Try.func78, Try.ntmps78
    go_wp2
    all_goals go_returns
    all_goals exact ⟨rfl, Below.refl _ _⟩
  have HSt2 := Lib.hid (HSt.out (by omega))
  clear HSt HBig
  go_enter Try.func78, Try.ntmps78
  go_wp2
  go_loopg [10] n (fun gg i wr => ∃ k : Nat, k ≤ n ∧ n - k ≤ gg ∧ i = .int .i64 k ∧ Hid (Below w.heap.size w wr) ∧ Hid ((xs.drop k).all (fun x => decide (x.ok n)) = res))
  case atStart => exact ⟨0, Nat.zero_le _, by omega, rfl, (Below.refl _ _), HSt2.out⟩
  case round =>
    obtain ⟨k, hkn, hg, rfl, HB, HQ⟩ := hrel
    by_cases hlt : k < n
    · have hlz : (k : Int) < (n : Int) := by omega
      have hc := hrow.out wr HB.out k hlt
      have hq := HQ.out
      rw [hstep.out k hlt] at hq
      generalize xs[k]! = x at hc hq
      obtain ⟨op, nn⟩ := x
      obtain ⟨f0, f1⟩ := hc
      simp only at f0 f1
      have HCx := Lib.hid (HC.out op nn)
      generalize decide (NV.ok n ⟨op, nn⟩) = ok at *
      have HB1 := Lib.hid (HB.out.alloc HB.out.size (.cells #[.int .i64 op, .int .i64 nn] 119))
      clear hrow hstep HQ HC
      have HQ2 := Lib.hid hq
      clear hq
      go_wp2_with fail
      refine (HCx.out _).mono ?_
      rintro e w1 ⟨rfl, hb1⟩
      have HB2 := Lib.hid (HB1.out.trans (hb1.mono HB1.out.size))
      clear hb1 f0 f1
      cases ok
      · have hq := HQ2.out
        rw [Bool.false_and] at hq
        subst hq
        go_wp2
        all_goals go_returns
        all_goals exact ⟨rfl, HB2.out⟩
      · have hq := HQ2.out
        rw [Bool.true_and] at hq
        have HQ3 := Lib.hid hq
        clear hq
        go_wp2
        go_roundg (n - (k + 1))
        case measure => omega
        case rel => exact ⟨k + 1, by omega, by omega, by go_num, HB2.out, HQ3.out⟩
    · have hlz : ¬ (k : Int) < (n : Int) := by omega
      obtain rfl : k = n := by omega
      have hq := HQ.out
      rw [HEnd.out] at hq
      subst hq
      clear hrow hstep HQ
      go_wp2
      all_goals go_returns
      all_goals exact ⟨rfl, HB.out⟩
set_option maxHeartbeats 2000000 in
theorem pright_nil (p : Option Addr) (cap : Nat) (w : World) : Calls Try.prog 78 #[.slice p 0 cap] w (Ret (.bool (rightC [])) w) := by
  have h : rightC [] = true := rfl
  rw [h]
  go_enter Try.func78, Try.ntmps78
  go_wp2
  refine wp_loop_rounds 1 ?_
  rw [rounds_succ]
  go_wp2
  go_returns
  exact ⟨rfl, Below.refl _ _⟩
theorem pright_any (xs : List NV) (v : Value) (w : World) (hl : xs.length ≤ 900000) (h : RC.Is w v xs) : Calls Try.prog 78 #[v] w (Ret (.bool (rightC xs)) w) := by
  rcases h with ⟨rfl, p, cap, rfl, _⟩ | ⟨_, b, off, cap, rfl, hb, hr⟩
  · exact pright_nil p cap w
  · exact pright_row xs b off cap w hl hb hr
end Go.Proofs.Ytgmpgemgoplafaa
/- append to a row of the call's own leaves a box of another type as it was, even one that is younger than the row -/
namespace Go.Proofs.Ytgmpgemgoplafaa
open Go.RowKit
set_option linter.unusedVariables false
set_option linter.unusedSimpArgs false

/-- block k holds just these cells, none of them frozen, and is of type t -/
def Boxed (w : World) (k : Nat) (c : Array Value) (t : TypeId) : Prop := w.heap[k]? = some (.cells c t (0, 0))
theorem Boxed.lt {w : World} {k : Nat} {c : Array Value} {t : TypeId} (h : Boxed w k c t) : k < w.heap.size := (Array.getElem?_eq_some_iff.1 h).1
theorem Boxed.new (w : World) (c : Array Value) (t : TypeId) : Boxed (w.alloc (.cells c t)) w.heap.size c t := heap_alloc_new w _
theorem Boxed.alloc {w : World} {k : Nat} {c : Array Value} {t : TypeId} (h : Boxed w k c t) (o : Obj) : Boxed (w.alloc o) k c t := (Below.heap_alloc w o k h.lt).trans h
theorem Boxed.below {w w' : World} {B k : Nat} {c : Array Value} {t : TypeId} (h : Boxed w k c t) (hb : Below B w w') (hk : k < B) : Boxed w' k c t := (hb.block k hk).trans h
theorem Boxed.cell {w : World} {k : Nat} {c : Array Value} {t : TypeId} (h : Boxed w k c t) (i : Nat) : w.cell? ⟨k, i, none⟩ = c[i]? := by
  unfold Boxed at h
  simp [World.cell?, h]
theorem Boxed.frozen {w : World} {k : Nat} {c : Array Value} {t : TypeId} (h : Boxed w k c t) (i : Nat) : w.frozen? ⟨k, i, none⟩ = false := by
  unfold Boxed at h
  simp [World.frozen?, h]
theorem Boxed.three {w : World} {k : Nat} {a b c : Value} {t : TypeId} (h : Boxed w k #[a, b, c] t) : w.cell? ⟨k, 0, none⟩ = some a ∧ w.cell? ⟨k, 1, none⟩ = some b ∧ w.cell? ⟨k, 2, none⟩ = some c := ⟨h.cell 0, h.cell 1, h.cell 2⟩
theorem Boxed.two {w : World} {k : Nat} {a b : Value} {t : TypeId} (h : Boxed w k #[a, b] t) : w.cell? ⟨k, 0, none⟩ = some a ∧ w.cell? ⟨k, 1, none⟩ = some b := ⟨h.cell 0, h.cell 1⟩
namespace RowKind
variable {α : Type} {R : RowKind α}
theorem Own.ne_boxed {B : Nat} {w : World} {v : Value} {xs : List α} (h : R.Own B w v xs) {k : Nat} {c : Array Value} {t : TypeId} (hb : Boxed w k c t) (ht : t ≠ R.tE) : some k ≠ v.ownBlock := by
  intro e
  obtain ⟨_, ⟨rfl, _⟩ | ⟨g, cap, cur, rfl, _, hg, _⟩⟩ := h
  · cases e
  · have e2 : k = g := Option.some.inj e
    subst e2
    unfold Boxed at hb
    rw [hb] at hg
    simp only [Option.some.injEq, Obj.cells.injEq] at hg
    exact ht hg.2.1
theorem Own.ne_late {B : Nat} {w : World} {v : Value} {xs : List α} (h : R.Own B w v xs) {k : Nat} (hk : w.heap.size ≤ k) : some k ≠ v.ownBlock := fun e => by
  have := (h.lt k e.symm).2
  omega
variable [Inhabited α]
theorem Own.pushK {ops : Array Oper} {rest : List Oper} {o : Oper} {a : Act} {Q : Exit → Act → World → Prop} {w0 w : World} {B : Nat} {v : Value} {xs : List α} {y : α} (hown : R.Own B w v xs) (hb : Below B w0 w) (hB : B ≤ w.heap.size)
    {k : Nat} {c : Array Value} {tb : TypeId} (hbx : Boxed w k c tb) (htb : tb ≠ R.tE)
    (hgd : o.guard = none) (s x : Operand) (ho : o.op = .call { callee := .builtin .append, args := #[s, x], argTypes := #[R.tS, R.tS] }) (hs : a.eval s = v) (t : TypeId)
    (hx : a.eval x = .slice (some ⟨w.heap.size, 0, none⟩) 1 1) (hlen : xs.length ≤ 900000)
    (h : ∀ v' w', R.Own B w' v' (xs ++ [y]) → Below B w0 w' → w.heap.size ≤ w'.heap.size → Boxed w' k c tb → wpList Try.prog ops Q rest (a.put o.dst v') w') :
    wpList Try.prog ops Q (o :: rest) a (w.alloc (.cells (R.enc y).toArray t)) := by
  have hown' : R.Own B (w.alloc (.cells (R.enc y).toArray t)) v xs := hown.alloc _
  have hbx' := hbx.alloc (.cells (R.enc y).toArray t)
  have hne := hown'.ne_boxed hbx' htb
  refine Own.append (R := R) hgd s x ho hown' hs [y] hx (Row.app (ys := [y]) (Row.new w y t)) (by simp; omega) (by simp; omega) ?_
  intro v' w' h1 h2
  have hlt := hown'.lt
  have hsz := h2.size
  refine h v' w' h1 ?_ (by simp at hsz; omega) ((h2.block k hbx'.lt hne).trans hbx')
  exact (hb.alloc hB _).grown h2 (by simp; omega) (fun k hk => (hlt k hk).1)
/-- the same, where the box is told to be another block -/
theorem Own.pushN {ops : Array Oper} {rest : List Oper} {o : Oper} {a : Act} {Q : Exit → Act → World → Prop} {w0 w : World} {B : Nat} {v : Value} {xs : List α} {y : α} (hown : R.Own B w v xs) (hb : Below B w0 w) (hB : B ≤ w.heap.size)
    {k : Nat} {c : Array Value} {tb : TypeId} (hbx : Boxed w k c tb) (hne : some k ≠ v.ownBlock)
    (hgd : o.guard = none) (s x : Operand) (ho : o.op = .call { callee := .builtin .append, args := #[s, x], argTypes := #[R.tS, R.tS] }) (hs : a.eval s = v) (t : TypeId)
    (hx : a.eval x = .slice (some ⟨w.heap.size, 0, none⟩) 1 1) (hlen : xs.length ≤ 900000)
    (h : ∀ v' w', R.Own B w' v' (xs ++ [y]) → Below B w0 w' → w.heap.size ≤ w'.heap.size → Boxed w' k c tb → wpList Try.prog ops Q rest (a.put o.dst v') w') :
    wpList Try.prog ops Q (o :: rest) a (w.alloc (.cells (R.enc y).toArray t)) := by
  have hown' : R.Own B (w.alloc (.cells (R.enc y).toArray t)) v xs := hown.alloc _
  have hbx' := hbx.alloc (.cells (R.enc y).toArray t)
  refine Own.append (R := R) hgd s x ho hown' hs [y] hx (Row.app (ys := [y]) (Row.new w y t)) (by simp; omega) (by simp; omega) ?_
  intro v' w' h1 h2
  have hlt := hown'.lt
  have hsz := h2.size
  refine h v' w' h1 ?_ (by simp at hsz; omega) ((h2.block k hbx'.lt hne).trans hbx')
  exact (hb.alloc hB _).grown h2 (by simp; omega) (fun k hk => (hlt k hk).1)
end RowKind
end Go.Proofs.Ytgmpgemgoplafaa
/- the document's Run: the walk -/
namespace Go.Proofs.Ytgmpgemgoplafaa
open Go.RowKit
set_option linter.unusedVariables false
set_option linter.unusedSimpArgs false

attribute [local simp] size_setRow
attribute [local go_sem] rowAt_head rowOf_alloc_at rowOf_alloc_past rowOf_drew rowOf_drewN rowOf_setRow_same rowOf_setRow_other rowOf_setCell_same rowOf_setCell_other size_setRow setRow_drew setRow_alloc_at setRow_alloc_past one_int one_bool

theorem ofN_ok (op : Int) {a b : Int} (ha : inR a) (hb : inR b) : inR (ofN op a b).1 ∧ ((ofN op a b).2 = 0 ∨ (2 ≤ (ofN op a b).2 ∧ (ofN op a b).2 ≤ 3)) := by
  have hr : ∀ x, inR (roomN x).1 ∧ ((roomN x).2 = 0 ∨ (2 ≤ (roomN x).2 ∧ (roomN x).2 ≤ 3)) := fun x => by
    by_cases h : inR x
    · rw [roomN_in h]; exact ⟨h, .inl rfl⟩
    · rw [roomN_out h]; exact ⟨by decide, .inr ⟨by decide, by decide⟩⟩
  have hz : inR 0 := by decide
  unfold ofN
  split
  · exact hr _
  split
  · exact hr _
  split
  · exact hr _
  split
  · split
    · exact ⟨hz, .inr ⟨by decide, by decide⟩⟩
    · exact hr _
  split
  · split
    · exact ⟨hz, .inr ⟨by decide, by decide⟩⟩
    · rename_i h; exact ⟨tmod_in ha h, .inl rfl⟩
  split
  · refine ⟨?_, .inl rfl⟩; split <;> decide
  split
  · refine ⟨?_, .inl rfl⟩; split <;> decide
  exact ⟨hz, .inl rfl⟩
/-- the call answers what the program makes of the record -/
def RunR (p : List NV) (r : RV) (w : World) (e : Ending) (w' : World) : Prop :=
  ∃ v, e = .returned (.tuple #[v, .int .i64 (runC p r).2]) ∧ RR.Own w.heap.size w' v (runC p r).1 ∧ Below w.heap.size w w'
end Go.Proofs.Ytgmpgemgoplafaa
