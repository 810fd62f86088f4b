/- route.right, route.Worker -/
import Derived.Test.YtbjecaajeokdoaaBa
namespace Go.Proofs.Ytbjecaajeokdoaa
open Go.RowKit
set_option linter.unusedVariables false
set_option linter.unusedSimpArgs false

theorem emod_64 (x n : Int) (hn : 1 ≤ n) (h5 : n ≤ 64) : -64 < x.tmod n ∧ x.tmod n < 64 ∧ (if x.tmod n < 0 then x.tmod n + n else x.tmod n) = x % n := by
  have he := Int.emod_nonneg x (show n ≠ 0 by omega)
  have hl := Int.emod_lt_of_pos x (show 0 < n by omega)
  have ha : (n.natAbs : Int) = n := by omega
  rw [Int.tmod_eq_emod]
  split
  · refine ⟨by omega, by omega, ?_⟩
    rw [if_neg (by omega)]; omega
  · refine ⟨by omega, by omega, ?_⟩
    rw [if_pos (by omega)]; omega
/-- the call returns the value v, and leaves the memory as it was -/
def RetZ (v : Value) (w : World) (e : Ending) (w' : World) : Prop := e = .returned v ∧ w' = w
def rightW (n : Int) : Bool := decide (1 ≤ n ∧ n ≤ 64)
def workerW (k n : Int) : Int := if 1 ≤ n ∧ n ≤ 64 then k % n else 0
theorem retZ {u v : Value} (h : u = v) : Ending.returned u = .returned v := by rw [h]
theorem worker_range {k n : Int} (h : 1 ≤ n ∧ n ≤ 64) : 0 ≤ workerW k n ∧ workerW k n < n := by
  unfold workerW
  rw [if_pos h]
  exact ⟨Int.emod_nonneg k (by omega), Int.emod_lt_of_pos k (by omega)⟩
theorem wright_any (n : Int) (w : World) : Calls Try.prog 12 #[.int .i64 n] w (RetZ (.bool (rightW n)) w) := by
  go_enter Try.func12, Try.ntmps12
  by_cases h1 : 1 ≤ n
  · by_cases h2 : n ≤ 64
    · go_wp2
      go_returns
      exact ⟨retZ (congrArg Value.bool (show true = rightW n from (decide_eq_true ⟨h1, h2⟩).symm)), rfl⟩
    · go_wp2
      go_returns
      exact ⟨retZ (congrArg Value.bool (show false = rightW n from (decide_eq_false fun h => by omega).symm)), rfl⟩
  · go_wp2
    go_returns
    exact ⟨retZ (congrArg Value.bool (show false = rightW n from (decide_eq_false fun h => by omega).symm)), rfl⟩
set_option maxHeartbeats 4000000 in
theorem worker_any (k n : Int) (w : World) : Calls Try.prog 7 #[.int .i64 k, .int .i64 n] w (RetZ (.int .i64 (workerW k n)) w) := by
  have HR := Lib.hid (wright_any n w)
  by_cases hn : 1 ≤ n ∧ n ≤ 64
  · obtain ⟨m1, m2, m3⟩ := emod_64 k n hn.1 hn.2
    have hw : workerW k n = k % n := if_pos hn
    have hr : rightW n = true := decide_eq_true hn
    rw [hr] at HR
    have hn0 : ¬ n = 0 := by omega
    have hnb : (n == 0) = false := by simpa using hn0
    have hmn : -64 < k.tmod n + n ∧ k.tmod n + n < 128 := by omega
    obtain ⟨hn1, hn2⟩ := hn
    clear hmn
    rw [← hw] at m3
    generalize workerW k n = res at m3 ⊢
    have HM := Lib.hid m3
    clear m3 hw hr
    go_enter Try.func7, Try.ntmps7
    go_wp2_with fail
    refine (HR.out).mono ?_
    rintro e w1 ⟨rfl, rfl⟩
    by_cases hneg : k.tmod n < 0
    · have m3 := HM.out
      rw [if_pos hneg] at m3
      have hwr : wrap64 (k.tmod n + n) = res := by unfold wrap64; omega
      go_wp2
      go_returns
      exact ⟨rfl, rfl⟩
    · have m3 := HM.out
      rw [if_neg hneg] at m3
      go_wp2
      go_returns
      exact ⟨rfl, rfl⟩
  · have hw : workerW k n = 0 := if_neg hn
    have hr : rightW n = false := decide_eq_false hn
    rw [hr] at HR
    rw [hw]
    go_enter Try.func7, Try.ntmps7
    go_wp2_with fail
    refine (HR.out).mono ?_
    rintro e w1 ⟨rfl, rfl⟩
    go_wp2
    go_returns
    exact ⟨rfl, rfl⟩
end Go.Proofs.Ytbjecaajeokdoaa
