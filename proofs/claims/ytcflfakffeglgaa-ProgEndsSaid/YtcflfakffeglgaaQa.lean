/- what an operation on two numbers gives (ofN), and the document's Of, sum, product, one -/
import Derived.Test.YtcflfakffeglgaaBase
import Derived.Laws.MakeOwn
namespace Go.Proofs.Ytcflfakffeglgaa
open Go.RowKit
set_option linter.unusedVariables false
set_option linter.unusedSimpArgs false

/-- it has room in 64 bits -/
def inR (x : Int) : Prop := -9223372036854775808 ≤ x ∧ x ≤ 9223372036854775807
instance (x : Int) : Decidable (inR x) := by unfold inR; infer_instance
/-- a number that has room, or none -/
def roomN (x : Int) : Int × Int := if inR x then (x, 0) else (0, 2)
def ofN (op a b : Int) : Int × Int :=
  if op = 4 then roomN (a + b) else if op = 5 then roomN (a - b) else if op = 6 then roomN (a * b)
  else if op = 7 then (if b = 0 then (0, 3) else roomN (a.tdiv b))
  else if op = 8 then (if b = 0 then (0, 3) else (a.tmod b, 0))
  else if op = 9 then (if a < b then 1 else 0, 0)
  else if op = 10 then (if a = b then 1 else 0, 0)
  else (0, 0)
theorem wrap_in {x : Int} (h : inR x) : wrap64 x = x := by
  unfold inR at h
  unfold wrap64
  omega
theorem wrap_range (x : Int) : inR (wrap64 x) := by
  unfold inR
  unfold wrap64
  omega
theorem wrap_mod (x : Int) : ∃ k : Int, wrap64 x = x + k * 18446744073709551616 := by
  refine ⟨(wrap64 x - x) / 18446744073709551616, ?_⟩
  unfold wrap64
  omega
/-- the test by which the product is told to have had room -/
theorem prod_test {a b : Int} (ha : inR a) (hb : inR b) (h0 : b ≠ 0) : (wrap64 (a * b)).tdiv b = a ↔ inR (a * b) := by
  constructor
  · intro h
    have h1 := Int.mul_tdiv_add_tmod (wrap64 (a * b)) b
    rw [h] at h1
    obtain ⟨k, hk⟩ := wrap_mod (a * b)
    have h2 := Int.natAbs_tmod (wrap64 (a * b)) b
    have h3 := Nat.mod_lt (wrap64 (a * b)).natAbs (show 0 < b.natAbs by omega)
    rw [← h2] at h3
    clear h2
    have hw := wrap_range (a * b)
    rw [Int.mul_comm b a] at h1
    generalize (wrap64 (a * b)).tmod b = r at *
    generalize wrap64 (a * b) = p at *
    generalize a * b = q at *
    unfold inR at *
    omega
  · intro h
    rw [wrap_in h, Int.mul_tdiv_cancel _ h0]

theorem tdiv_in {x b : Int} (hx : inR x) (h0 : b ≠ 0) (h1 : ¬ (b = -1 ∧ x = -9223372036854775808)) : inR (x.tdiv b) := by
  by_cases hb : b = 1
  · subst hb; rw [Int.tdiv_one]; exact hx
  by_cases hb2 : b = -1
  · subst hb2
    have : x.tdiv (-1) = -x := by rw [Int.tdiv_neg, Int.tdiv_one]
    rw [this]
    unfold inR at *
    omega
  have h2 : (x.tdiv b).natAbs = x.natAbs / b.natAbs := Int.natAbs_tdiv x b
  have h3 : x.natAbs / b.natAbs ≤ x.natAbs / 2 := Nat.div_le_div_left (by omega) (by decide)
  rw [← h2] at h3
  unfold inR at *
  omega
set_option maxHeartbeats 2000000 in
theorem rone_any (c : Bool) (w : World) : Calls Try.prog 19 #[.bool c] w (RetW (.int .i64 (if c = true then 1 else 0)) w) := by
  cases c
  all_goals
    go_enter Try.func19, Try.ntmps19
    go_wp2
    go_returns
    exact ⟨rfl, rfl⟩
def roomV (x : Int) : Value := .tuple #[.int .i64 (roomN x).1, .bool (decide ((roomN x).2 = 0))]
theorem roomV_in {x : Int} (h : inR x) : roomV x = .tuple #[.int .i64 x, .bool true] := by unfold roomV roomN; rw [if_pos h]; rfl
theorem roomV_out {x : Int} (h : ¬ inR x) : roomV x = .tuple #[.int .i64 0, .bool false] := by unfold roomV roomN; rw [if_neg h]; rfl
theorem ret2 {a a' : Int} {b : Bool} {v : Value} (hv : v = .tuple #[.int .i64 a', .bool b]) (h : a = a') : Ending.returned (.tuple #[.int .i64 a, .bool b]) = .returned v := by rw [hv, h]
set_option maxHeartbeats 4000000 in
theorem rsum_any (a b : Int) (ha : inR a) (hb : inR b) (w : World) : Calls Try.prog 17 #[.int .i64 a, .int .i64 b] w (RetW (roomV (a + b)) w) := by
  have hin : inR (a + b) → roomV (a + b) = .tuple #[.int .i64 (a + b), .bool true] := roomV_in
  have hout : ¬ inR (a + b) → roomV (a + b) = .tuple #[.int .i64 0, .bool false] := roomV_out
  generalize roomV (a + b) = V at *
  unfold inR at *
  obtain ⟨a0, a1⟩ := ha
  obtain ⟨b0, b1⟩ := hb
  have HIn := Lib.hid hin; have HOut := Lib.hid hout
  clear hin hout
  have hc : 0 < b ∨ b < 0 ∨ b = 0 := by omega
  rcases hc with hc | hc | hc
  · have c1 : b > 0 := hc
    by_cases h : a > 9223372036854775807 - b
    · have hv := HOut.out (by omega)
      subst hv
      go_enter Try.func17, Try.ntmps17
      go_wp2
      all_goals go_returns
      all_goals exact ⟨rfl, rfl⟩
    · have hv := HIn.out (by omega)
      subst hv
      have c2 : ¬ b < 0 := by omega
      go_enter Try.func17, Try.ntmps17
      go_wp2
      all_goals go_returns
      all_goals exact ⟨rfl, rfl⟩
  · have c1 : ¬ b > 0 := by omega
    by_cases h : a < -9223372036854775808 - b
    · have hv := HOut.out (by omega)
      subst hv
      go_enter Try.func17, Try.ntmps17
      go_wp2
      all_goals go_returns
      all_goals exact ⟨rfl, rfl⟩
    · have hv := HIn.out (by omega)
      subst hv
      go_enter Try.func17, Try.ntmps17
      go_wp2
      all_goals go_returns
      all_goals exact ⟨rfl, rfl⟩
  · subst hc
    have hv := HIn.out (by omega)
    subst hv
    go_enter Try.func17, Try.ntmps17
    go_wp2
    all_goals go_returns
    all_goals exact ⟨ret2 rfl (by omega), rfl⟩
set_option maxHeartbeats 4000000 in
theorem rproduct_any (a b : Int) (ha : inR a) (hb : inR b) (w : World) : Calls Try.prog 18 #[.int .i64 a, .int .i64 b] w (RetW (roomV (a * b)) w) := by
  have hin : inR (a * b) → roomV (a * b) = .tuple #[.int .i64 (a * b), .bool true] := roomV_in
  have hout : ¬ inR (a * b) → roomV (a * b) = .tuple #[.int .i64 0, .bool false] := roomV_out
  by_cases h0 : a = 0 ∨ b = 0
  · have hv := hin (by rcases h0 with rfl | rfl <;> simp [inR])
    have hz : a * b = 0 := by rcases h0 with rfl | rfl <;> simp
    rw [hv, hz]
    clear hin hout hv hz
    rcases h0 with rfl | rfl
    all_goals
      go_enter Try.func18, Try.ntmps18
      go_wp2
      all_goals go_returns
      all_goals exact ⟨rfl, rfl⟩
  · have ha0 : a ≠ 0 := fun e => h0 (.inl e)
    have hb0 : b ≠ 0 := fun e => h0 (.inr e)
    have ea : (a == 0) = false := by simpa using ha0
    have eb : (b == 0) = false := by simpa using hb0
    have ht := prod_test ha hb hb0
    by_cases h1 : a = -1 ∧ b = -9223372036854775808
    · obtain ⟨rfl, rfl⟩ := h1
      rw [hout (by decide)]
      clear hin hout ht
      go_enter Try.func18, Try.ntmps18
      go_wp2
      all_goals go_returns
      all_goals exact ⟨rfl, rfl⟩
    by_cases h2 : b = -1 ∧ a = -9223372036854775808
    · obtain ⟨rfl, rfl⟩ := h2
      rw [hout (by decide)]
      clear hin hout ht
      go_enter Try.func18, Try.ntmps18
      go_wp2
      all_goals go_returns
      all_goals exact ⟨rfl, rfl⟩
    by_cases g1 : a = -1
    · subst g1
      have hb' : b ≠ -9223372036854775808 := fun e => h1 ⟨rfl, e⟩
      have hr : inR (-1 * b) := by unfold inR at *; omega
      have hw : wrap64 (-b) = -b := wrap_in (by unfold inR at *; omega)
      have hd : (-b).tdiv b = -1 := by rw [Int.neg_tdiv, Int.tdiv_self hb0]
      have hw1 : wrap64 1 = 1 := wrap_in (by decide)
      have hw2 : wrap64 (-1) = -1 := wrap_in (by decide)
      rw [hin hr, show -1 * b = -b by omega]
      have eb2 : (b == -9223372036854775808) = false := by simpa using hb'
      clear hin hout ht hr h1 h2 h0 ha
      by_cases g2 : b = -1
      · subst g2
        go_enter Try.func18, Try.ntmps18
        go_wp2
        all_goals go_returns
        all_goals exact ⟨rfl, rfl⟩
      · have g2b : (b == -1) = false := by simpa using g2
        go_enter Try.func18, Try.ntmps18
        go_wp2
        all_goals go_returns
        all_goals exact ⟨ret2 rfl (by first | rfl | (exact hw)), rfl⟩
    by_cases g2 : b = -1
    · subst g2
      have ha' : a ≠ -9223372036854775808 := fun e => h2 ⟨rfl, e⟩
      have hr : inR (a * -1) := by unfold inR at *; omega
      have hw : wrap64 (-a) = -a := wrap_in (by unfold inR at *; omega)
      have hw0 : wrap64 a = a := wrap_in ha
      rw [hin hr, show a * -1 = -a by omega]
      have ea1 : (a == -1) = false := by simpa using g1
      have ea2 : (a == -9223372036854775808) = false := by simpa using ha'
      clear hin hout ht hr h1 h2 h0 hb
      go_enter Try.func18, Try.ntmps18
      go_wp2
      all_goals go_returns
      all_goals exact ⟨ret2 rfl (by first | rfl | (exact hw)), rfl⟩
    have ea1 : (a == -1) = false := by simpa using g1
    have eb1 : (b == -1) = false := by simpa using g2
    have hq : wrap64 ((wrap64 (a * b)).tdiv b) = (wrap64 (a * b)).tdiv b := wrap_in (tdiv_in (wrap_range _) hb0 (fun e => g2 e.1))
    by_cases hr : inR (a * b)
    · have hx := ht.2 hr
      have hw : wrap64 (a * b) = a * b := wrap_in hr
      have hne : (wrap64 ((wrap64 (a * b)).tdiv b) != a) = false := by rw [hq]; simpa using hx
      rw [hin hr]
      have HW := Lib.hid hw
      clear hin hout ht hr h1 h2 h0 hb ha hx hq hw g1 g2
      go_enter Try.func18, Try.ntmps18
      go_wp2
      all_goals go_returns
      all_goals exact ⟨ret2 rfl HW.out, rfl⟩
    · have hx : ¬ (wrap64 (a * b)).tdiv b = a := fun e => hr (ht.1 e)
      have hne : (wrap64 ((wrap64 (a * b)).tdiv b) != a) = true := by rw [hq]; simpa using hx
      rw [hout hr]
      clear hin hout ht hr h1 h2 h0 hb ha hx hq g1 g2
      go_enter Try.func18, Try.ntmps18
      go_wp2
      all_goals go_returns
      all_goals exact ⟨rfl, rfl⟩
end Go.Proofs.Ytcflfakffeglgaa
