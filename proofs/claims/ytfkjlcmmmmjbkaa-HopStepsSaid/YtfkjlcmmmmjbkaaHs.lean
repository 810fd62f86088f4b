import Derived.Test.YtfkjlcmmmmjbkaaHs0
import Derived.Test.YtfkjlcmmmmjbkaaHs1
import Derived.Test.YtfkjlcmmmmjbkaaHs2
import Derived.Test.YtfkjlcmmmmjbkaaHs3
import Derived.Test.YtfkjlcmmmmjbkaaHsf
import Derived.Test.YtfkjlcmmmmjbkaaHaw
namespace Go.Proofs.Ytfkjlcmmmmjbkaa
open Go.RowKit
set_option linter.unusedVariables false
set_option linter.unusedSimpArgs false

theorem Same_yes (d : Int) (h : 1 ≤ d ∧ d ≤ 4) (W : World) : Calls Try.prog 20 #[.int .i64 d] W (Ret (.tuple #[(sameH d).val, .bool true]) W) := by have q := Same_h d W; rw [same_right, decide_eq_true h] at q; exact q
theorem Same_no (d : Int) (h : ¬ (1 ≤ d ∧ d ≤ 4)) (W : World) : Calls Try.prog 20 #[.int .i64 d] W (Ret (.tuple #[.agg #[.int .i64 0, .int .i64 0, .int .i64 0, .int .i64 0, .int .i64 0, .int .i64 0, .int .i64 0, .int .i64 0, .int .i64 0, .int .i64 0, .int .i64 0], .bool false]) W) := by have q := Same_h d W; rw [same_right, decide_eq_false h] at q; exact q
theorem Enter_yes (d : Int) (h : 1 ≤ d ∧ d ≤ 3) (W : World) : Calls Try.prog 22 #[.int .i64 d] W (Ret (.tuple #[(enterH d).val, .bool true]) W) := by have q := Enter_h d W; rw [enter_right, decide_eq_true h] at q; exact q
theorem Enter_no (d : Int) (h : ¬ (1 ≤ d ∧ d ≤ 3)) (W : World) : Calls Try.prog 22 #[.int .i64 d] W (Ret (.tuple #[.agg #[.int .i64 0, .int .i64 0, .int .i64 0, .int .i64 0, .int .i64 0, .int .i64 0, .int .i64 0, .int .i64 0, .int .i64 0, .int .i64 0, .int .i64 0], .bool false]) W) := by have q := Enter_h d W; rw [enter_right, decide_eq_false h] at q; exact q
theorem Leave_yes (d : Int) (h : 2 ≤ d ∧ d ≤ 4) (W : World) : Calls Try.prog 24 #[.int .i64 d] W (Ret (.tuple #[(leaveH d).val, .bool true]) W) := by have q := leave_any_h d W; rw [leave_right, decide_eq_true h] at q; exact q
theorem Leave_no (d : Int) (h : ¬ (2 ≤ d ∧ d ≤ 4)) (W : World) : Calls Try.prog 24 #[.int .i64 d] W (Ret (.tuple #[.agg #[.int .i64 0, .int .i64 0, .int .i64 0, .int .i64 0, .int .i64 0, .int .i64 0, .int .i64 0, .int .i64 0, .int .i64 0, .int .i64 0, .int .i64 0], .bool false]) W) := by have q := leave_any_h d W; rw [leave_right, decide_eq_false h] at q; exact q
theorem Next_yes (d : Int) (h : 1 ≤ d ∧ d ≤ 4) (W : World) : Calls Try.prog 26 #[.int .i64 d] W (Ret (.tuple #[(nextH d).val, .bool true]) W) := by have q := Next_h d W; rw [next_right, decide_eq_true h] at q; exact q
theorem Next_no (d : Int) (h : ¬ (1 ≤ d ∧ d ≤ 4)) (W : World) : Calls Try.prog 26 #[.int .i64 d] W (Ret (.tuple #[.agg #[.int .i64 0, .int .i64 0, .int .i64 0, .int .i64 0, .int .i64 0, .int .i64 0, .int .i64 0, .int .i64 0, .int .i64 0, .int .i64 0, .int .i64 0], .bool false]) W) := by have q := Next_h d W; rw [next_right, decide_eq_false h] at q; exact q
theorem rx_is {d c0 c1 c2 c3 : Int} {r : Bool} (h : rightB d c0 c1 c2 c3 = r) (W : World) : Calls Try.prog 21 #[TV.val ⟨d, c0, c1, c2, c3⟩] W (fun e w' => e = .returned (.bool r) ∧ w' = W.alloc (.cells #[.int .i64 d, .int .i64 c0, .int .i64 c1, .int .i64 c2, .int .i64 c3] 26)) := by subst h; exact right_exact d c0 c1 c2 c3 W
theorem ent_is {d c0 c1 c2 c3 : Int} {o : Bool} (h : enterB d c0 c1 c2 c3 = o) (W : World) : Calls Try.prog 23 #[TV.val ⟨d, c0, c1, c2, c3⟩] W (Ret (.tuple #[(TV.gate o ⟨d + 1, c0, c1, c2, c3⟩).val, .bool o]) W) := by subst h; exact enter_any d c0 c1 c2 c3 W
theorem lea_is {d c0 c1 c2 c3 : Int} {o : Bool} (h : leaveB d c0 c1 c2 c3 = o) (W : World) : Calls Try.prog 25 #[TV.val ⟨d, c0, c1, c2, c3⟩] W (Ret (.tuple #[(TV.gate o ⟨d - 1, if d = 1 then 0 else c0, if d = 2 then 0 else c1, if d = 3 then 0 else c2, if d = 4 then 0 else c3⟩).val, .bool o]) W) := by subst h; exact leave_any d c0 c1 c2 c3 W
theorem nex_is {d c0 c1 c2 c3 : Int} {o : Bool} (h : nextB d c0 c1 c2 c3 = o) (W : World) : Calls Try.prog 27 #[TV.val ⟨d, c0, c1, c2, c3⟩] W (Ret (.tuple #[(TV.gate o ⟨d, if d = 1 then c0 + 1 else c0, if d = 2 then c1 + 1 else c1, if d = 3 then c2 + 1 else c2, if d = 4 then c3 + 1 else c3⟩).val, .bool o]) W) := by subst h; exact next_any d c0 c1 c2 c3 W

theorem hopSteps_calls (d : Int) (t : TV) (W : World) : Calls Try.prog 4 #[.int .i64 d, t.val] W (Ret (.bool true) W) := by
  obtain ⟨e, c0, c1, c2, c3⟩ := t
  by_cases hd : d < 1
  · exact hopSteps_lo_off d ⟨e, c0, c1, c2, c3⟩ _ _ _ _ _ _ _ _ _ _ _ _ _ _ _ hd awake_any (Same_no d (by omega)) (rx_is rfl) (apply_is (h := ⟨0, 0, 0, 0, 0, 0, 0, 0, 0, 0, 0⟩) (t := ⟨e, c0, c1, c2, c3⟩) rfl rfl) (Enter_no d (by omega)) (ent_is rfl) (apply_is (h := ⟨0, 0, 0, 0, 0, 0, 0, 0, 0, 0, 0⟩) (t := ⟨e, c0, c1, c2, c3⟩) rfl rfl) (Leave_no d (by omega)) (lea_is rfl) (apply_is (h := ⟨0, 0, 0, 0, 0, 0, 0, 0, 0, 0, 0⟩) (t := ⟨e, c0, c1, c2, c3⟩) rfl rfl) (Next_no d (by omega)) (nex_is rfl) (apply_is (h := ⟨0, 0, 0, 0, 0, 0, 0, 0, 0, 0, 0⟩) (t := ⟨e, c0, c1, c2, c3⟩) rfl rfl) W
  by_cases hd : 4 < d
  · exact hopSteps_hi_off d ⟨e, c0, c1, c2, c3⟩ _ _ _ _ _ _ _ _ _ _ _ _ _ _ _ hd awake_any (Same_no d (by omega)) (rx_is rfl) (apply_is (h := ⟨0, 0, 0, 0, 0, 0, 0, 0, 0, 0, 0⟩) (t := ⟨e, c0, c1, c2, c3⟩) rfl rfl) (Enter_no d (by omega)) (ent_is rfl) (apply_is (h := ⟨0, 0, 0, 0, 0, 0, 0, 0, 0, 0, 0⟩) (t := ⟨e, c0, c1, c2, c3⟩) rfl rfl) (Leave_no d (by omega)) (lea_is rfl) (apply_is (h := ⟨0, 0, 0, 0, 0, 0, 0, 0, 0, 0, 0⟩) (t := ⟨e, c0, c1, c2, c3⟩) rfl rfl) (Next_no d (by omega)) (nex_is rfl) (apply_is (h := ⟨0, 0, 0, 0, 0, 0, 0, 0, 0, 0, 0⟩) (t := ⟨e, c0, c1, c2, c3⟩) rfl rfl) W
  by_cases h1 : d = 1
  · subst h1
    by_cases he : e = 1
    rotate_left
    · have ht : ((⟨e, c0, c1, c2, c3⟩ : TV).d == 1) = false := beq_eq_false_iff_ne.2 he
      exact hopSteps_1_off ⟨e, c0, c1, c2, c3⟩ _ _ _ _ _ _ _ _ _ _ _ _ _ _ _ _ _ _ ht awake_any (Same_yes 1 (by omega)) (rx_is rfl) (apply_is (h := sameH 1) (t := ⟨e, c0, c1, c2, c3⟩) rfl rfl) (Enter_yes 1 (by omega)) (ent_is rfl) (apply_is (h := enterH 1) (t := ⟨e, c0, c1, c2, c3⟩) rfl rfl) (Leave_no 1 (by omega)) (lea_is rfl) (apply_is (h := ⟨0, 0, 0, 0, 0, 0, 0, 0, 0, 0, 0⟩) (t := ⟨e, c0, c1, c2, c3⟩) rfl rfl) (Next_yes 1 (by omega)) (nex_is rfl) (apply_is (h := nextH 1) (t := ⟨e, c0, c1, c2, c3⟩) rfl rfl) W
    subst he
    have e0 := same_does 1 c0 c1 c2 c3 (by omega)
    have e1 := enter_does 1 c0 c1 c2 c3 (by omega)
    have e3 := next_does 1 c0 c1 c2 c3 (by omega)
    cases g0 : rightB 1 c0 c1 c2 c3
    · have g1 : enterB 1 c0 c1 c2 c3 = false := by unfold enterB; rw [g0]; rfl
      have g2 : leaveB 1 c0 c1 c2 c3 = false := by unfold leaveB; rw [g0]; rfl
      have g3 : nextB 1 c0 c1 c2 c3 = false := by unfold nextB; rw [g0]; rfl
      exact hopSteps_1_no c0 c1 c2 c3 _ _ _ _ _ _ _ _ _ _ _ _  awake_any (Same_yes 1 (by omega)) (rx_is g0) (apply_is (h := sameH 1) (t := ⟨1, c0, c1, c2, c3⟩) rfl (e0.1.trans g0)) (Enter_yes 1 (by omega)) (ent_is g1) (apply_is (h := enterH 1) (t := ⟨1, c0, c1, c2, c3⟩) rfl (e1.1.trans g0)) (Leave_no 1 (by omega)) (lea_is rfl) (apply_is (h := ⟨0, 0, 0, 0, 0, 0, 0, 0, 0, 0, 0⟩) (t := ⟨1, c0, c1, c2, c3⟩) rfl rfl) (Next_yes 1 (by omega)) (nex_is g3) (apply_is (h := nextH 1) (t := ⟨1, c0, c1, c2, c3⟩) rfl (e3.1.trans g3)) W
    have g1 : enterB 1 c0 c1 c2 c3 = true := by first | (simp [enterB, g0]; done) | (simp [enterB, g0]; omega)
    cases g3 : nextB 1 c0 c1 c2 c3
    · exact hopSteps_1_last c0 c1 c2 c3 _ _ _ _ _ _ _ _ _ _  awake_any (Same_yes 1 (by omega)) (rx_is g0) (apply_is (h := sameH 1) (t := ⟨1, c0, c1, c2, c3⟩) (e0.2 g0) (e0.1.trans g0)) (Enter_yes 1 (by omega)) (ent_is g1) (apply_is (h := enterH 1) (t := ⟨1, c0, c1, c2, c3⟩) (e1.2 g0) (e1.1.trans g0)) (Leave_no 1 (by omega)) (lea_is rfl) (apply_is (h := ⟨0, 0, 0, 0, 0, 0, 0, 0, 0, 0, 0⟩) (t := ⟨1, c0, c1, c2, c3⟩) rfl rfl) (Next_yes 1 (by omega)) (nex_is g3) (apply_is (h := nextH 1) (t := ⟨1, c0, c1, c2, c3⟩) rfl (e3.1.trans g3)) W
    · exact hopSteps_1_yes c0 c1 c2 c3 _ _ _ _ _ _ _ _ _  awake_any (Same_yes 1 (by omega)) (rx_is g0) (apply_is (h := sameH 1) (t := ⟨1, c0, c1, c2, c3⟩) (e0.2 g0) (e0.1.trans g0)) (Enter_yes 1 (by omega)) (ent_is g1) (apply_is (h := enterH 1) (t := ⟨1, c0, c1, c2, c3⟩) (e1.2 g0) (e1.1.trans g0)) (Leave_no 1 (by omega)) (lea_is rfl) (apply_is (h := ⟨0, 0, 0, 0, 0, 0, 0, 0, 0, 0, 0⟩) (t := ⟨1, c0, c1, c2, c3⟩) rfl rfl) (Next_yes 1 (by omega)) (nex_is g3) (apply_is (h := nextH 1) (t := ⟨1, c0, c1, c2, c3⟩) (e3.2 g3) (e3.1.trans g3)) W
  by_cases h4 : d = 4
  · subst h4
    by_cases he : e = 4
    rotate_left
    · have ht : ((⟨e, c0, c1, c2, c3⟩ : TV).d == 4) = false := beq_eq_false_iff_ne.2 he
      exact hopSteps_4_off ⟨e, c0, c1, c2, c3⟩ _ _ _ _ _ _ _ _ _ _ _ _ _ _ _ _ _ _ ht awake_any (Same_yes 4 (by omega)) (rx_is rfl) (apply_is (h := sameH 4) (t := ⟨e, c0, c1, c2, c3⟩) rfl rfl) (Enter_no 4 (by omega)) (ent_is rfl) (apply_is (h := ⟨0, 0, 0, 0, 0, 0, 0, 0, 0, 0, 0⟩) (t := ⟨e, c0, c1, c2, c3⟩) rfl rfl) (Leave_yes 4 (by omega)) (lea_is rfl) (apply_is (h := leaveH 4) (t := ⟨e, c0, c1, c2, c3⟩) rfl rfl) (Next_yes 4 (by omega)) (nex_is rfl) (apply_is (h := nextH 4) (t := ⟨e, c0, c1, c2, c3⟩) rfl rfl) W
    subst he
    have e0 := same_does 4 c0 c1 c2 c3 (by omega)
    have e2 := leave_does 4 c0 c1 c2 c3 (by omega)
    have e3 := next_does 4 c0 c1 c2 c3 (by omega)
    cases g0 : rightB 4 c0 c1 c2 c3
    · have g1 : enterB 4 c0 c1 c2 c3 = false := by unfold enterB; rw [g0]; rfl
      have g2 : leaveB 4 c0 c1 c2 c3 = false := by unfold leaveB; rw [g0]; rfl
      have g3 : nextB 4 c0 c1 c2 c3 = false := by unfold nextB; rw [g0]; rfl
      exact hopSteps_4_no c0 c1 c2 c3 _ _ _ _ _ _ _ _ _ _ _ _  awake_any (Same_yes 4 (by omega)) (rx_is g0) (apply_is (h := sameH 4) (t := ⟨4, c0, c1, c2, c3⟩) rfl (e0.1.trans g0)) (Enter_no 4 (by omega)) (ent_is rfl) (apply_is (h := ⟨0, 0, 0, 0, 0, 0, 0, 0, 0, 0, 0⟩) (t := ⟨4, c0, c1, c2, c3⟩) rfl rfl) (Leave_yes 4 (by omega)) (lea_is g2) (apply_is (h := leaveH 4) (t := ⟨4, c0, c1, c2, c3⟩) rfl (e2.1.trans g0)) (Next_yes 4 (by omega)) (nex_is g3) (apply_is (h := nextH 4) (t := ⟨4, c0, c1, c2, c3⟩) rfl (e3.1.trans g3)) W
    have g2 : leaveB 4 c0 c1 c2 c3 = true := by first | (simp [leaveB, g0]; done) | (simp [leaveB, g0]; omega)
    cases g3 : nextB 4 c0 c1 c2 c3
    · exact hopSteps_4_last c0 c1 c2 c3 _ _ _ _ _ _ _ _ _ _  awake_any (Same_yes 4 (by omega)) (rx_is g0) (apply_is (h := sameH 4) (t := ⟨4, c0, c1, c2, c3⟩) (e0.2 g0) (e0.1.trans g0)) (Enter_no 4 (by omega)) (ent_is rfl) (apply_is (h := ⟨0, 0, 0, 0, 0, 0, 0, 0, 0, 0, 0⟩) (t := ⟨4, c0, c1, c2, c3⟩) rfl rfl) (Leave_yes 4 (by omega)) (lea_is g2) (apply_is (h := leaveH 4) (t := ⟨4, c0, c1, c2, c3⟩) (e2.2 g0) (e2.1.trans g0)) (Next_yes 4 (by omega)) (nex_is g3) (apply_is (h := nextH 4) (t := ⟨4, c0, c1, c2, c3⟩) rfl (e3.1.trans g3)) W
    · exact hopSteps_4_yes c0 c1 c2 c3 _ _ _ _ _ _ _ _ _  awake_any (Same_yes 4 (by omega)) (rx_is g0) (apply_is (h := sameH 4) (t := ⟨4, c0, c1, c2, c3⟩) (e0.2 g0) (e0.1.trans g0)) (Enter_no 4 (by omega)) (ent_is rfl) (apply_is (h := ⟨0, 0, 0, 0, 0, 0, 0, 0, 0, 0, 0⟩) (t := ⟨4, c0, c1, c2, c3⟩) rfl rfl) (Leave_yes 4 (by omega)) (lea_is g2) (apply_is (h := leaveH 4) (t := ⟨4, c0, c1, c2, c3⟩) (e2.2 g0) (e2.1.trans g0)) (Next_yes 4 (by omega)) (nex_is g3) (apply_is (h := nextH 4) (t := ⟨4, c0, c1, c2, c3⟩) (e3.2 g3) (e3.1.trans g3)) W
  have hd2 : 2 ≤ d := by omega
  have hd3 : d ≤ 3 := by omega
  by_cases he : e = d
  rotate_left
  · have ht : ((⟨e, c0, c1, c2, c3⟩ : TV).d == d) = false := beq_eq_false_iff_ne.2 he
    exact hopSteps_m_off d ⟨e, c0, c1, c2, c3⟩ _ _ _ _ _ _ _ _ _ _ _ _ _ _ _ _ _ _ _ hd2 hd3 ht awake_any (Same_yes d (by omega)) (rx_is rfl) (apply_is (h := sameH d) (t := ⟨e, c0, c1, c2, c3⟩) rfl rfl) (Enter_yes d (by omega)) (ent_is rfl) (apply_is (h := enterH d) (t := ⟨e, c0, c1, c2, c3⟩) rfl rfl) (Leave_yes d (by omega)) (lea_is rfl) (apply_is (h := leaveH d) (t := ⟨e, c0, c1, c2, c3⟩) rfl rfl) (Next_yes d (by omega)) (nex_is rfl) (apply_is (h := nextH d) (t := ⟨e, c0, c1, c2, c3⟩) rfl rfl) W
  subst he
  have e0 := same_does e c0 c1 c2 c3 (by omega)
  have e1 := enter_does e c0 c1 c2 c3 (by omega)
  have e2 := leave_does e c0 c1 c2 c3 (by omega)
  have e3 := next_does e c0 c1 c2 c3 (by omega)
  cases g0 : rightB e c0 c1 c2 c3
  · have g1 : enterB e c0 c1 c2 c3 = false := by unfold enterB; rw [g0]; rfl
    have g2 : leaveB e c0 c1 c2 c3 = false := by unfold leaveB; rw [g0]; rfl
    have g3 : nextB e c0 c1 c2 c3 = false := by unfold nextB; rw [g0]; rfl
    exact hopSteps_m_no e c0 c1 c2 c3 _ _ _ _ _ _ _ _ _ _ _ hd2 hd3 awake_any (Same_yes e (by omega)) (rx_is g0) (apply_is (h := sameH e) (t := ⟨e, c0, c1, c2, c3⟩) rfl (e0.1.trans g0)) (Enter_yes e (by omega)) (ent_is g1) (apply_is (h := enterH e) (t := ⟨e, c0, c1, c2, c3⟩) rfl (e1.1.trans g0)) (Leave_yes e (by omega)) (lea_is g2) (apply_is (h := leaveH e) (t := ⟨e, c0, c1, c2, c3⟩) rfl (e2.1.trans g0)) (Next_yes e (by omega)) (nex_is g3) (apply_is (h := nextH e) (t := ⟨e, c0, c1, c2, c3⟩) rfl (e3.1.trans g3)) W
  have g1 : enterB e c0 c1 c2 c3 = true := by first | (simp [enterB, g0]; done) | (simp [enterB, g0]; omega)
  have g2 : leaveB e c0 c1 c2 c3 = true := by first | (simp [leaveB, g0]; done) | (simp [leaveB, g0]; omega)
  cases g3 : nextB e c0 c1 c2 c3
  · exact hopSteps_m_last e c0 c1 c2 c3 _ _ _ _ _ _ _ _ hd2 hd3 awake_any (Same_yes e (by omega)) (rx_is g0) (apply_is (h := sameH e) (t := ⟨e, c0, c1, c2, c3⟩) (e0.2 g0) (e0.1.trans g0)) (Enter_yes e (by omega)) (ent_is g1) (apply_is (h := enterH e) (t := ⟨e, c0, c1, c2, c3⟩) (e1.2 g0) (e1.1.trans g0)) (Leave_yes e (by omega)) (lea_is g2) (apply_is (h := leaveH e) (t := ⟨e, c0, c1, c2, c3⟩) (e2.2 g0) (e2.1.trans g0)) (Next_yes e (by omega)) (nex_is g3) (apply_is (h := nextH e) (t := ⟨e, c0, c1, c2, c3⟩) rfl (e3.1.trans g3)) W
  · exact hopSteps_m_yes e c0 c1 c2 c3 _ _ _ _ _ _ _ hd2 hd3 awake_any (Same_yes e (by omega)) (rx_is g0) (apply_is (h := sameH e) (t := ⟨e, c0, c1, c2, c3⟩) (e0.2 g0) (e0.1.trans g0)) (Enter_yes e (by omega)) (ent_is g1) (apply_is (h := enterH e) (t := ⟨e, c0, c1, c2, c3⟩) (e1.2 g0) (e1.1.trans g0)) (Leave_yes e (by omega)) (lea_is g2) (apply_is (h := leaveH e) (t := ⟨e, c0, c1, c2, c3⟩) (e2.2 g0) (e2.1.trans g0)) (Next_yes e (by omega)) (nex_is g3) (apply_is (h := nextH e) (t := ⟨e, c0, c1, c2, c3⟩) (e3.2 g3) (e3.1.trans g3)) W
end Go.Proofs.Ytfkjlcmmmmjbkaa
