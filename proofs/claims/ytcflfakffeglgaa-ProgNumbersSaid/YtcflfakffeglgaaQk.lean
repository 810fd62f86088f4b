/- the program's own number, sum, difference, product, quotient, reckon -/
import Derived.Test.YtcflfakffeglgaaQb
namespace Go.Proofs.Ytcflfakffeglgaa
open Go.RowKit
set_option linter.unusedVariables false
set_option linter.unusedSimpArgs false

abbrev wV (x : Int) : Value := .tuple #[.int .i64 (wrap64 x), .bool (decide (inR x))]
/-- the call returns the value v, and has drawn, no more -/
def RetN (v : Value) (w : World) (e : Ending) (w' : World) : Prop := e = .returned v ∧ ∃ n, w' = w.drewN n
theorem RetW.n {v : Value} {w : World} {e : Ending} {w' : World} (h : RetW v w e w') : RetN v w e w' := ⟨h.1, 0, h.2⟩
set_option maxHeartbeats 2000000 in
theorem pnumber_any (c : Bool) (w : World) : Calls Try.prog 31 #[.bool c] w (RetW (.int .i64 (if c = true then 1 else 0)) w) := by
  cases c
  all_goals
    go_enter Try.func31, Try.ntmps31
    go_wp2
    go_returns
    exact ⟨rfl, rfl⟩
theorem sum_test {a b : Int} (ha : inR a) (hb : inR b) : (decide (wrap64 (a + b) < a) == decide (b < 0)) = decide (inR (a + b)) := by
  have h : (wrap64 (a + b) < a ↔ b < 0) ↔ inR (a + b) := by
    unfold inR at *
    unfold wrap64
    omega
  rw [Bool.eq_iff_iff, beq_iff_eq, decide_eq_decide, decide_eq_true_eq, h]
theorem diff_test {a b : Int} (ha : inR a) (hb : inR b) : (decide (wrap64 (a - b) > a) == decide (b < 0)) = decide (inR (a - b)) := by
  have h : (wrap64 (a - b) > a ↔ b < 0) ↔ inR (a - b) := by
    unfold inR at *
    unfold wrap64
    omega
  rw [Bool.eq_iff_iff, beq_iff_eq, decide_eq_decide, decide_eq_true_eq, h]
theorem retV {u v : Value} (h : u = v) : Ending.returned u = .returned v := by rw [h]
set_option maxHeartbeats 4000000 in
theorem psum_any (a b : Int) (ha : inR a) (hb : inR b) (w : World) : Calls Try.prog 27 #[.int .i64 a, .int .i64 b] w (RetW (wV (a + b)) w) := by
  have ht := sum_test ha hb
  unfold wV
  generalize decide (inR (a + b)) = V at *
  have HT := Lib.hid ht
  clear ht ha hb
  go_enter Try.func27, Try.ntmps27
  go_wp2
  go_returns
  exact ⟨retV (by rw [← HT.out]; rfl), rfl⟩
set_option maxHeartbeats 4000000 in
theorem pdifference_any (a b : Int) (ha : inR a) (hb : inR b) (w : World) : Calls Try.prog 28 #[.int .i64 a, .int .i64 b] w (RetW (wV (a - b)) w) := by
  have ht := diff_test ha hb
  unfold wV
  generalize decide (inR (a - b)) = V at *
  have HT := Lib.hid ht
  clear ht ha hb
  go_enter Try.func28, Try.ntmps28
  go_wp2
  go_returns
  exact ⟨retV (by rw [← HT.out]; rfl), rfl⟩
set_option maxHeartbeats 4000000 in
theorem pproduct_any (a b : Int) (ha : inR a) (hb : inR b) (w : World) : Calls Try.prog 29 #[.int .i64 a, .int .i64 b] w (RetN (wV (a * b)) w) := by
  by_cases a0 : a = 0
  · subst a0
    have hv : wV (0 * b) = .tuple #[.int .i64 0, .bool true] := by unfold wV; rw [Int.zero_mul, wrap_in (by decide), decide_eq_true (by decide)]
    rw [hv]
    clear hv ha hb
    go_enter Try.func29, Try.ntmps29
    go_wp2
    all_goals go_returns
    all_goals exact ⟨rfl, 0, rfl⟩
  by_cases a1 : a = -1
  · subst a1
    have HC := Lib.hid (fun W => pdifference_any 0 b (by decide) hb W)
    rw [show (0 : Int) - b = -1 * b by omega] at HC
    unfold wV at *
    generalize wrap64 (-1 * b) = n at *
    generalize decide (inR (-1 * b)) = V at *
    clear ha hb a0
    go_enter Try.func29, Try.ntmps29
    go_wp2_with fail
    refine (HC.out _).mono ?_
    rintro e w1 ⟨rfl, rfl⟩
    go_wp2
    all_goals go_returns
    all_goals exact ⟨rfl, 0, rfl⟩
  have e0 : (a == 0) = false := by simpa using a0
  have e1 : (a == -1) = false := by simpa using a1
  have ht := prod_test hb ha a0
  rw [Int.mul_comm b a] at ht
  have hq : wrap64 ((wrap64 (a * b)).tdiv a) = (wrap64 (a * b)).tdiv a := wrap_in (tdiv_in (wrap_range _) a0 (fun e => a1 e.1))
  have hd : (wrap64 ((wrap64 (a * b)).tdiv a) == b) = decide (inR (a * b)) := by rw [hq, Bool.eq_iff_iff, beq_iff_eq, ht, decide_eq_true_eq]
  unfold wV
  generalize decide (inR (a * b)) = V at *
  have HD := Lib.hid hd
  clear hd ht hq ha hb a1
  go_enter Try.func29, Try.ntmps29
  go_wp2_with fail
  go_quiet (fail)
  go_wp2
  go_returns
  exact ⟨retV (by rw [← HD.out]; rfl), _, rfl⟩
set_option maxHeartbeats 4000000 in
theorem pquotient_any (a b : Int) (ha : inR a) (hb : inR b) (h0 : b ≠ 0) (w : World) : Calls Try.prog 30 #[.int .i64 a, .int .i64 b] w (RetW (wV (a.tdiv b)) w) := by
  by_cases b1 : b = -1
  · subst b1
    have HC := Lib.hid (fun W => pdifference_any 0 a (by decide) ha W)
    rw [show (0 : Int) - a = a.tdiv (-1) by rw [Int.tdiv_neg, Int.tdiv_one]; omega] at HC
    unfold wV at *
    generalize wrap64 (a.tdiv (-1)) = n at *
    generalize decide (inR (a.tdiv (-1))) = V at *
    clear ha hb h0
    go_enter Try.func30, Try.ntmps30
    go_wp2_with fail
    refine (HC.out _).mono ?_
    rintro e w1 ⟨rfl, rfl⟩
    go_wp2
    all_goals go_returns
    all_goals exact ⟨rfl, rfl⟩
  have e0 : (b == 0) = false := by simpa using h0
  have e1 : (b == -1) = false := by simpa using b1
  have hd := tdiv_in ha h0 (fun e => b1 e.1)
  have hv : wV (a.tdiv b) = .tuple #[.int .i64 (wrap64 (a.tdiv b)), .bool true] := by unfold wV; rw [decide_eq_true hd]
  rw [hv]
  clear hv hd ha hb b1
  go_enter Try.func30, Try.ntmps30
  go_wp2
  all_goals go_returns
  all_goals exact ⟨rfl, rfl⟩
end Go.Proofs.Ytcflfakffeglgaa
