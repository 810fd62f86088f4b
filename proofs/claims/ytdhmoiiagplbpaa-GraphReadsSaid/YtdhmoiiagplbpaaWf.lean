/- the document's ReadUint, ReadInt -/
import Derived.Test.YtdhmoiiagplbpaaWe0
namespace Go.Proofs.Ytdhmoiiagplbpaa
open Go.RowKit
set_option linter.unusedVariables false
set_option linter.unusedSimpArgs false

/-- the first of the number's bytes that is its last, or nine -/
def runB : Nat → List Int → Nat
  | 0, _ => 0
  | _, [] => 0
  | f + 1, x :: xs => if 127 < x then runB f xs + 1 else 0
/-- the number of which these are the bytes, from the last one on -/
def horner : List Int → Nat
  | [] => 0
  | x :: xs => x.toNat % 128 + 128 * horner xs
theorem scan_run : ∀ (f : Nat) (xs : List Int) (i m : Nat), okB xs → i + f = 9 →
    scan xs i m = (if runB f xs = xs.length then (0, 0, 3) else if (i + runB f xs = 9 ∧ 1 < xs[runB f xs]!) ∨ (0 < i + runB f xs ∧ xs[runB f xs]! = 0) then (0, 0, 4) else (m + horner (xs.take (runB f xs + 1)) * 2 ^ (7 * i), i + runB f xs + 1, 0))
  | 0, [], i, m, hx, hi => by simp [scan, runB]
  | 0, x :: xs, i, m, hx, hi => by
    have hb := hx x (by simp)
    obtain rfl : i = 9 := by omega
    rw [scan]
    by_cases h : (9 = 9 ∧ 1 < x) ∨ (0 < 9 ∧ x = 0)
    · rw [if_pos h]
      simp only [runB, List.length_cons]
      rw [if_neg (by omega), if_pos (by simpa using h)]
    · rw [if_neg h, if_pos (by omega)]
      simp only [runB, List.length_cons]
      rw [if_neg (by omega), if_neg (by simpa using h)]
      simp only [Nat.zero_add, List.take_succ_cons, List.take_zero, horner, Nat.mul_zero, Nat.add_zero]
      rw [show x.toNat % 128 = x.toNat from by omega]
  | f + 1, [], i, m, hx, hi => by simp [scan, runB]
  | f + 1, x :: xs, i, m, hx, hi => by
    have hb := hx x (by simp)
    rw [scan]
    by_cases h : 127 < x
    · rw [if_neg (by omega), if_neg (by omega), scan_run f xs (i + 1) _ (fun u hu => hx u (by simp [hu])) (by omega)]
      have hr : runB (f + 1) (x :: xs) = runB f xs + 1 := by simp only [runB]; rw [if_pos h]
      rw [hr, List.length_cons, List.take_succ_cons, horner]
      generalize runB f xs = r
      by_cases h1 : r = xs.length
      · rw [if_pos h1, if_pos (by omega)]
      · rw [if_neg h1, if_neg (show ¬ (r + 1 = xs.length + 1) by omega)]
        rw [show (x :: xs)[r + 1]! = xs[r]! from by simp, show i + 1 + r = i + (r + 1) from by omega]
        by_cases h2 : (i + (r + 1) = 9 ∧ 1 < xs[r]!) ∨ (0 < i + (r + 1) ∧ xs[r]! = 0)
        · rw [if_pos h2, if_pos h2]
        · rw [if_neg h2, if_neg h2]
          refine Prod.ext ?_ rfl
          show _ + _ = _
          rw [pow7, Nat.add_mul, ← Nat.mul_assoc, Nat.mul_comm 128, Nat.add_assoc]
    · have hr : runB (f + 1) (x :: xs) = 0 := by simp only [runB]; rw [if_neg h]
      rw [hr]
      simp only [List.length_cons, Nat.add_zero, Nat.zero_add, List.take_succ_cons, List.take_zero, horner, Nat.mul_zero]
      rw [if_neg (show ¬ (0 = xs.length + 1) by omega), show (x :: xs)[0]! = x from by simp]
      by_cases h1 : (i = 9 ∧ 1 < x) ∨ (0 < i ∧ x = 0)
      · rw [if_pos h1, if_pos h1]
      · rw [if_neg h1, if_neg h1, if_pos (by omega), show x.toNat % 128 = x.toNat from by omega]
theorem run_le : ∀ (f : Nat) (xs : List Int), runB f xs ≤ xs.length ∧ runB f xs ≤ f
  | 0, xs => by simp [runB]
  | f + 1, [] => by simp [runB]
  | f + 1, x :: xs => by
    have := run_le f xs
    simp only [runB]
    split
    · simp only [List.length_cons]; omega
    · omega
/-- how far it has come -/
theorem run_step : ∀ (f : Nat) (xs : List Int) (k : Nat), (∀ j, j < k → 127 < xs[j]!) → k ≤ f → k ≤ xs.length → (k = f ∨ k = xs.length ∨ ¬ 127 < xs[k]!) → runB f xs = k
  | 0, xs, k, h, h1, h2, h3 => by simp only [runB]; omega
  | f + 1, [], k, h, h1, h2, h3 => by simp at h2; simp only [runB]; omega
  | f + 1, x :: xs, 0, h, h1, h2, h3 => by
    have h3 : ¬ 127 < x := by simpa using h3
    simp only [runB]
    rw [if_neg h3]
  | f + 1, x :: xs, k + 1, h, h1, h2, h3 => by
    have h0 := h 0 (by omega)
    have h0 : 127 < x := by simpa using h0
    simp only [runB]
    rw [if_pos h0, run_step f xs k (fun j hj => by have := h (j + 1) (by omega); simpa using this) (by omega) (by simpa using h2) ?_]
    simp only [List.length_cons] at h3
    rw [show (x :: xs)[k + 1]! = xs[k]! from by simp] at h3
    omega
/-- from the last one on -/
theorem horner_take : ∀ (xs : List Int) (j : Nat), j < xs.length → horner (xs.drop j) = xs[j]!.toNat % 128 + 128 * horner (xs.drop (j + 1)) := fun xs j h => by
  rw [drop_cons h, horner]
theorem horner_lt : ∀ (k : Nat) (xs : List Int), xs.length ≤ k → horner xs < 128 ^ k
  | k, [], h => by simp only [horner]; exact Nat.pow_pos (by decide)
  | 0, x :: xs, h => by simp at h
  | k + 1, x :: xs, h => by
    have := horner_lt k xs (by simpa using h)
    rw [horner, Nat.pow_succ]
    omega
end Go.Proofs.Ytdhmoiiagplbpaa
