/- the document's Of on two numbers -/
import Derived.Test.YtcflfakffeglgaaQa
namespace Go.Proofs.Ytcflfakffeglgaa
open Go.RowKit
set_option linter.unusedVariables false
set_option linter.unusedSimpArgs false

theorem roomN_in {x : Int} (h : inR x) : roomN x = (x, 0) := if_pos h
theorem roomN_out {x : Int} (h : ¬ inR x) : roomN x = (0, 2) := if_neg h
abbrev ofV2 (r : Int × Int) : Value := .tuple #[.int .i64 r.1, .int .i64 r.2]
theorem tmod_in {a b : Int} (ha : inR a) (h0 : b ≠ 0) : inR (a.tmod b) := by
  have h := Int.natAbs_tmod a b
  have h2 := Nat.mod_le a.natAbs b.natAbs
  have h3 : a.tmod b = 0 ∨ (0 ≤ a ∧ 0 ≤ a.tmod b) ∨ (a < 0 ∧ a.tmod b ≤ 0) := by
    rcases Int.le_total 0 a with q | q
    · exact .inr (.inl ⟨q, Int.tmod_nonneg b q⟩)
    · by_cases z : a = 0
      · subst z; exact .inl (Int.zero_tmod b)
      · refine .inr (.inr ⟨by omega, ?_⟩)
        have := Int.tmod_nonneg b (show 0 ≤ -a by omega)
        rw [Int.neg_tmod] at this
        omega
  rw [← h] at h2
  unfold inR at *
  omega
theorem ret2i {a a' b b' : Int} (h : a = a') (k : b = b') : Ending.returned (.tuple #[.int .i64 a, .int .i64 b]) = .returned (.tuple #[.int .i64 a', .int .i64 b']) := by rw [h, k]
set_option maxHeartbeats 8000000 in
theorem rof07_any (op a b : Int) (ha : inR a) (hb : inR b) (w : World) : Calls Try.prog 14 #[.int .i64 op, .int .i64 a, .int .i64 b] w (RetW (ofV2 (ofN op a b)) w) := by
  by_cases h4 : op = 4
  · subst h4
    have hV : ofN 4 a b = roomN (a + b) := rfl
    rw [hV]
    by_cases hr : inR (a + b)
    · rw [roomN_in hr]
      have HC : Hid (Calls Try.prog 17 #[.int .i64 a, .int .i64 b] w (RetW (.tuple #[.int .i64 (a + b), .bool true]) w)) := by
        have q := rsum_any a b ha hb w
        rw [roomV_in hr] at q
        exact q
      clear hr hV
      go_enter Try.func14, Try.ntmps14
      go_wp2_with fail
      refine (HC.out).mono ?_
      rintro e w1 ⟨rfl, rfl⟩
      go_wp2
      all_goals go_returns
      all_goals exact ⟨rfl, rfl⟩
    · rw [roomN_out hr]
      have HC : Hid (Calls Try.prog 17 #[.int .i64 a, .int .i64 b] w (RetW (.tuple #[.int .i64 0, .bool false]) w)) := by
        have q := rsum_any a b ha hb w
        rw [roomV_out hr] at q
        exact q
      clear hr hV
      go_enter Try.func14, Try.ntmps14
      go_wp2_with fail
      refine (HC.out).mono ?_
      rintro e w1 ⟨rfl, rfl⟩
      go_wp2
      all_goals go_returns
      all_goals exact ⟨rfl, rfl⟩
  by_cases h5 : op = 5
  · subst h5
    have hV : ofN 5 a b = roomN (a - b) := rfl
    rw [hV]
    clear h4
    by_cases hm : b = -9223372036854775808
    · subst hm
      by_cases hneg : a < 0
      · have hr : inR (a - -9223372036854775808) := by unfold inR at *; omega
        rw [roomN_in hr]
        have hi : -9223372036854775808 ≤ a ∧ a ≤ 9223372036854775807 := ha
        obtain ⟨hi0, hi1⟩ := hi
        clear hr ha hb hV
        go_enter Try.func14, Try.ntmps14
        go_wp2
        all_goals go_returns
        all_goals exact ⟨ret2i (by omega) rfl, rfl⟩
      · have hr : ¬ inR (a - -9223372036854775808) := by unfold inR at *; omega
        rw [roomN_out hr]
        have hi : -9223372036854775808 ≤ a ∧ a ≤ 9223372036854775807 := ha
        obtain ⟨hi0, hi1⟩ := hi
        clear hr ha hb hV
        go_enter Try.func14, Try.ntmps14
        go_wp2
        all_goals go_returns
        all_goals exact ⟨rfl, rfl⟩
    · have hmb : (b == -9223372036854775808) = false := by simpa using hm
      have hnb : inR (-b) := by unfold inR at *; omega
      obtain ⟨hb0, hb1⟩ : -9223372036854775808 ≤ b ∧ b ≤ 9223372036854775807 := hb
      by_cases hr : inR (a - b)
      · rw [roomN_in hr]
        have HC : Hid (Calls Try.prog 17 #[.int .i64 a, .int .i64 (-b)] w (RetW (.tuple #[.int .i64 (a - b), .bool true]) w)) := by
          have q := rsum_any a (-b) ha hnb w
          rw [show a + -b = a - b by omega, roomV_in hr] at q
          exact q
        clear hr hV ha hnb
        go_enter Try.func14, Try.ntmps14
        go_wp2_with fail
        refine (HC.out).mono ?_
        rintro e w1 ⟨rfl, rfl⟩
        go_wp2
        all_goals go_returns
        all_goals exact ⟨rfl, rfl⟩
      · rw [roomN_out hr]
        have HC : Hid (Calls Try.prog 17 #[.int .i64 a, .int .i64 (-b)] w (RetW (.tuple #[.int .i64 0, .bool false]) w)) := by
          have q := rsum_any a (-b) ha hnb w
          rw [show a + -b = a - b by omega, roomV_out hr] at q
          exact q
        clear hr hV ha hnb
        go_enter Try.func14, Try.ntmps14
        go_wp2_with fail
        refine (HC.out).mono ?_
        rintro e w1 ⟨rfl, rfl⟩
        go_wp2
        all_goals go_returns
        all_goals exact ⟨rfl, rfl⟩
  by_cases h6 : op = 6
  · subst h6
    have hV : ofN 6 a b = roomN (a * b) := rfl
    rw [hV]
    by_cases hr : inR (a * b)
    · rw [roomN_in hr]
      have HC : Hid (Calls Try.prog 18 #[.int .i64 a, .int .i64 b] w (RetW (.tuple #[.int .i64 (a * b), .bool true]) w)) := by
        have q := rproduct_any a b ha hb w
        rw [roomV_in hr] at q
        exact q
      clear hr hV
      go_enter Try.func14, Try.ntmps14
      go_wp2_with fail
      refine (HC.out).mono ?_
      rintro e w1 ⟨rfl, rfl⟩
      go_wp2
      all_goals go_returns
      all_goals exact ⟨rfl, rfl⟩
    · rw [roomN_out hr]
      have HC : Hid (Calls Try.prog 18 #[.int .i64 a, .int .i64 b] w (RetW (.tuple #[.int .i64 0, .bool false]) w)) := by
        have q := rproduct_any a b ha hb w
        rw [roomV_out hr] at q
        exact q
      clear hr hV
      go_enter Try.func14, Try.ntmps14
      go_wp2_with fail
      refine (HC.out).mono ?_
      rintro e w1 ⟨rfl, rfl⟩
      go_wp2
      all_goals go_returns
      all_goals exact ⟨rfl, rfl⟩
  by_cases h7 : op = 7
  · subst h7
    have hV : ofN 7 a b = if b = 0 then (0, 3) else roomN (a.tdiv b) := rfl
    rw [hV]
    clear h4 h5 h6 hV
    by_cases hz : b = 0
    · subst hz
      rw [if_pos rfl]
      go_enter Try.func14, Try.ntmps14
      go_wp2
      all_goals go_returns
      all_goals exact ⟨rfl, rfl⟩
    · have hzb : (b == 0) = false := by simpa using hz
      rw [if_neg hz]
      by_cases hm : b = -1 ∧ a = -9223372036854775808
      · obtain ⟨rfl, rfl⟩ := hm
        rw [show roomN (Int.tdiv (-9223372036854775808) (-1)) = (0, 2) by decide]
        go_enter Try.func14, Try.ntmps14
        go_wp2
        all_goals go_returns
        all_goals exact ⟨rfl, rfl⟩
      · have hd := tdiv_in ha hz hm
        rw [roomN_in hd]
        have hw : wrap64 (a.tdiv b) = a.tdiv b := wrap_in hd
        have HW := Lib.hid hw
        by_cases hb1 : b = -1
        · subst hb1
          have hab : (a == -9223372036854775808) = false := by
            have : a ≠ -9223372036854775808 := fun e => hm ⟨rfl, e⟩
            simpa using this
          have he : a.tdiv (-1) = -a := by rw [Int.tdiv_neg, Int.tdiv_one]
          rw [he]
          have hna : wrap64 (-a) = -a := by rw [← he]; exact HW.out
          have HN := Lib.hid hna
          clear hd hw hm hna he HW
          go_enter Try.func14, Try.ntmps14
          go_wp2
          all_goals go_returns
          all_goals exact ⟨ret2i (by first | rfl | exact HN.out) rfl, rfl⟩
        · have hbb : (b == -1) = false := by simpa using hb1
          clear hd hw hm
          cases hab : (a == -9223372036854775808)
          all_goals
            go_enter Try.func14, Try.ntmps14
            go_wp2
            all_goals go_returns
            all_goals exact ⟨ret2i (by first | rfl | exact HW.out) rfl, rfl⟩
  by_cases h8 : op = 8
  · subst h8
    have hV : ofN 8 a b = if b = 0 then (0, 3) else (a.tmod b, 0) := rfl
    rw [hV]
    clear h4 h5 h6 h7 hV
    by_cases hz : b = 0
    · subst hz
      rw [if_pos rfl]
      go_enter Try.func14, Try.ntmps14
      go_wp2
      all_goals go_returns
      all_goals exact ⟨rfl, rfl⟩
    · have hzb : (b == 0) = false := by simpa using hz
      rw [if_neg hz]
      by_cases hb1 : b = -1
      · subst hb1
        rw [show a.tmod (-1) = 0 by rw [Int.tmod_neg, Int.tmod_one]]
        go_enter Try.func14, Try.ntmps14
        go_wp2
        all_goals go_returns
        all_goals exact ⟨rfl, rfl⟩
      · have hbb : (b != -1) = true := by simpa using hb1
        have hw : wrap64 (a.tmod b) = a.tmod b := wrap_in (tmod_in ha hz)
        have HW := Lib.hid hw
        clear hw
        go_enter Try.func14, Try.ntmps14
        go_wp2
        all_goals go_returns
        all_goals exact ⟨ret2i (by first | rfl | exact HW.out) rfl, rfl⟩
  by_cases h9 : op = 9
  · subst h9
    have HC : Hid (∀ c, Calls Try.prog 19 #[.bool c] w (RetW (.int .i64 (if c = true then 1 else 0)) w)) := fun c => rone_any c w
    have hV : ofN 9 a b = ((if a < b then 1 else 0), 0) := rfl
    rw [hV]
    clear h4 h5 h6 h7 h8 hV
    by_cases hlt : a < b
    · rw [if_pos hlt]
      have hd : decide (a < b) = true := decide_eq_true hlt
      go_enter Try.func14, Try.ntmps14
      go_wp2_with fail
      refine (HC.out _).mono ?_
      rintro e w1 ⟨rfl, rfl⟩
      go_wp2
      all_goals go_returns
      all_goals exact ⟨rfl, rfl⟩
    · rw [if_neg hlt]
      have hd : decide (a < b) = false := decide_eq_false hlt
      go_enter Try.func14, Try.ntmps14
      go_wp2_with fail
      refine (HC.out _).mono ?_
      rintro e w1 ⟨rfl, rfl⟩
      go_wp2
      all_goals go_returns
      all_goals exact ⟨rfl, rfl⟩
  by_cases h10 : op = 10
  · subst h10
    have HC : Hid (∀ c, Calls Try.prog 19 #[.bool c] w (RetW (.int .i64 (if c = true then 1 else 0)) w)) := fun c => rone_any c w
    have hV : ofN 10 a b = ((if a = b then 1 else 0), 0) := rfl
    rw [hV]
    clear h4 h5 h6 h7 h8 h9 hV
    by_cases hlt : a = b
    · rw [if_pos hlt]
      have hd : (a == b) = true := by simpa using hlt
      have HL := Lib.hid hlt
      clear hlt
      go_enter Try.func14, Try.ntmps14
      go_wp2_with fail
      refine (HC.out _).mono ?_
      rintro e w1 ⟨rfl, rfl⟩
      go_wp2
      all_goals go_returns
      all_goals exact ⟨rfl, rfl⟩
    · rw [if_neg hlt]
      have hd : (a == b) = false := by simpa using hlt
      go_enter Try.func14, Try.ntmps14
      go_wp2_with fail
      refine (HC.out _).mono ?_
      rintro e w1 ⟨rfl, rfl⟩
      go_wp2
      all_goals go_returns
      all_goals exact ⟨rfl, rfl⟩
  have hV : ofN op a b = (0, 0) := by
    unfold ofN
    rw [if_neg h4, if_neg h5, if_neg h6, if_neg h7, if_neg h8, if_neg h9, if_neg h10]
  rw [hV]
  have b4 : (op == 4) = false := by simpa using h4
  have b5 : (op == 5) = false := by simpa using h5
  have b6 : (op == 6) = false := by simpa using h6
  have b7 : (op == 7) = false := by simpa using h7
  have b8 : (op == 8) = false := by simpa using h8
  have b9 : (op == 9) = false := by simpa using h9
  have b10 : (op == 10) = false := by simpa using h10
  clear hV
  go_enter Try.func14, Try.ntmps14
  go_wp2
  all_goals go_returns
  all_goals exact ⟨rfl, rfl⟩
end Go.Proofs.Ytcflfakffeglgaa
