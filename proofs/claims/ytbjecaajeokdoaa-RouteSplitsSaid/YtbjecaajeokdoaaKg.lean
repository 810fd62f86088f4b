/- plain: the parts of a bag, put together one by one, make the bag -/
import Derived.Test.YtbjecaajeokdoaaKd
import Derived.Test.YtbjecaajeokdoaaBd
namespace Go.Proofs.Ytbjecaajeokdoaa
open Go.RowKit
set_option linter.unusedVariables false
set_option linter.unusedSimpArgs false

theorem part_good {n : Nat} {xs : List IV} (m : Nat) (h : rightI xs = true) : rightI (partI n xs m) = true := by
  have h := (rightI_iff xs).1 h
  exact (rightI_iff _).2 ⟨fun c hc => h.1 c (List.mem_filter.1 hc).1, h.2.filter _⟩
/-- where the k-th of a part stands -/
theorem part_split {n : Nat} {xs : List IV} {i : Nat} (hi : i < xs.length) (m : Nat) (hm : workerW xs[i]!.t.k n = m) :
    ((partI n (xs.take i) m).length < (partI n xs m).length) ∧ (partI n xs m)[(partI n (xs.take i) m).length]! = xs[i]! := by
  have e : partI n xs m = partI n (xs.take (i + 1)) m ++ partI n (xs.drop (i + 1)) m := by
    unfold partI
    rw [← List.filter_append, List.take_append_drop]
  rw [part_succ hi, if_pos hm] at e
  generalize partI n (xs.take i) m = A at *
  generalize partI n (xs.drop (i + 1)) m = D at *
  rw [e]
  generalize xs[i]! = x
  have hl : A.length < (A ++ [x] ++ D).length := by simp
  refine ⟨hl, ?_⟩
  rw [getElem!_pos (A ++ [x] ++ D) A.length hl]
  simp
theorem part_skip {n : Nat} {xs : List IV} {i : Nat} (hi : i < xs.length) (m : Nat) (hm : workerW xs[i]!.t.k n ≠ m) : partI n (xs.take (i + 1)) m = partI n (xs.take i) m := by
  rw [part_succ hi, if_neg hm, List.append_nil]
theorem part_next {n : Nat} {xs : List IV} {i : Nat} (hi : i < xs.length) (m : Nat) (hm : workerW xs[i]!.t.k n = m) : (partI n (xs.take (i + 1)) m).length = (partI n (xs.take i) m).length + 1 := by
  rw [part_succ hi, if_pos hm, List.length_append]
  rfl
/-- the first w parts, put together -/
def allP (n : Nat) (xs : List IV) : Nat → List IV
  | 0 => []
  | w + 1 => plusI (allP n xs w) (partI n xs w)
theorem allP_len (n : Nat) (xs : List IV) : ∀ w, (allP n xs w).length ≤ w * xs.length
  | 0 => by simp [allP]
  | w + 1 => by
    have h1 := allP_len n xs w
    have h2 := plusI_len (allP n xs w) (partI n xs w)
    have h3 := part_le n xs w
    show (plusI (allP n xs w) (partI n xs w)).length ≤ _
    rw [Nat.add_mul]
    omega
theorem at_part {n : Nat} (xs : List IV) (m : Nat) (u : RV) : atS (partI n xs m) u = if workerW u.k n = m then atS xs u else 0 := by
  induction xs with
  | nil => simp [partI, atS_nil]
  | cons x xs ih =>
    by_cases e : x.t = u
    · subst e
      unfold partI at *
      by_cases h : workerW x.t.k n = m
      · rw [if_pos h] at ih ⊢
        rw [List.filter_cons_of_pos (by simpa using h), atS_cons, atS_cons, ih]
      · rw [if_neg h] at ih ⊢
        rw [List.filter_cons_of_neg (by simpa using h), ih]
    · unfold partI at *
      rw [atS_cons, if_neg e, Int.zero_add]
      by_cases h : workerW x.t.k n = m
      · rw [List.filter_cons_of_pos (by simpa using h), atS_cons, if_neg e, Int.zero_add, ih]
      · rw [List.filter_cons_of_neg (by simpa using h), ih]
theorem allP_is {n : Nat} {xs : List IV} (h : goodI xs) : ∀ w : Nat, goodI (allP n xs w) ∧ ∀ u, atS (allP n xs w) u = if workerW u.k n < (w : Int) then (if 0 ≤ workerW u.k n then atS xs u else 0) else 0
  | 0 => ⟨goodI_nil, fun u => by
    rw [show allP n xs 0 = [] from rfl, atS_nil]
    by_cases h : workerW u.k n < ((0 : Nat) : Int)
    · rw [if_pos h, if_neg (by omega)]
    · rw [if_neg h]⟩
  | w + 1 => by
    obtain ⟨h1, h2⟩ := allP_is h w
    have hp : goodI (partI n xs w) := (rightI_iff _).1 (part_good w ((rightI_iff xs).2 h))
    have P := plusI_is h1 hp
    refine ⟨P.good, fun u => ?_⟩
    rw [show allP n xs (w + 1) = plusI (allP n xs w) (partI n xs w) from rfl, P.at_, h2, at_part]
    have hf := atS_fits h u
    generalize atS xs u = x at *
    generalize workerW u.k n = q at *
    repeat' split
    all_goals first | (rw [addF_fit (by omega)]; omega) | omega
theorem allP_all {n : Nat} {xs : List IV} (hn : 1 ≤ (n : Int) ∧ (n : Int) ≤ 64) (h : rightI xs = true) : allP n xs n = xs := by
  have h := (rightI_iff xs).1 h
  obtain ⟨h1, h2⟩ := allP_is (n := n) h n
  refine good_ext h1 h fun u => ?_
  have := worker_range (k := u.k) hn
  rw [h2, if_pos this.2, if_pos this.1]
end Go.Proofs.Ytbjecaajeokdoaa
