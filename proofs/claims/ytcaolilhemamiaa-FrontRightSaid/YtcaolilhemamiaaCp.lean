import Derived.Test.YtcaolilhemamiaaTs6
import Derived.Test.YtcaolilhemamiaaH1
import Derived.Sort.LotA
namespace Go.Proofs.Ytcaolilhemamiaa
open Go.RowKit
set_option linter.unusedVariables false
set_option linter.unusedSimpArgs false

/- the orders of timestamps, as plain facts -/
def TV.ok (t : TV) : Bool := rightB t.d t.c0 t.c1 t.c2 t.c3
def TV.le (t u : TV) : Bool := leB t.d t.c0 t.c1 t.c2 t.c3 u.d u.c0 u.c1 u.c2 u.c3
def TV.lt (t u : TV) : Bool := lessB t.d t.c0 t.c1 t.c2 t.c3 u.d u.c0 u.c1 u.c2 u.c3
theorem TV.ext4 {t u : TV} (h : t.d = u.d) (h0 : t.c0 = u.c0) (h1 : t.c1 = u.c1) (h2 : t.c2 = u.c2) (h3 : t.c3 = u.c3) : t = u := by
  cases t; cases u; simp_all

/-- what a right timestamp's numbers may be -/
def okP (d c0 c1 c2 c3 : Int) : Prop := 1 ≤ d ∧ d ≤ 4 ∧ (0 ≤ c0 ∧ c0 ≤ 1048576) ∧ (0 ≤ c1 ∧ c1 ≤ 64 ∧ (d ≤ 1 → c1 = 0)) ∧ (0 ≤ c2 ∧ c2 ≤ 64 ∧ (d ≤ 2 → c2 = 0)) ∧ (0 ≤ c3 ∧ c3 ≤ 64 ∧ (d ≤ 3 → c3 = 0))
theorem TV.ok_iff (t : TV) : t.ok = true ↔ okP t.d t.c0 t.c1 t.c2 t.c3 := by
  obtain ⟨d, c0, c1, c2, c3⟩ := t
  simp only [TV.ok, rightB, decide_eq_true_eq, rightP, okP, greatestS]
  constructor
  · intro h
    obtain ⟨h1, h2, h3, h4, h5, h6, h7, h8, h9, h10⟩ := h
    split at h4 <;> split at h6 <;> split at h8 <;> split at h10 <;> simp at * <;> omega
  · intro h
    refine ⟨by omega, by omega, by omega, ?_, by omega, ?_, by omega, ?_, by omega, ?_⟩ <;> (split <;> (try split) <;> simp at * <;> omega)

/-- one number by which the one order goes -/
def TV.key (t : TV) : Int := (t.c0 + 1) * 1000000 + (if 1 < t.d then t.c1 + 1 else 0) * 10000 + (if 2 < t.d then t.c2 + 1 else 0) * 100 + (if 3 < t.d then t.c3 + 1 else 0)
theorem TV.le_iff (t u : TV) : t.le u = true ↔ t.ok = true ∧ u.ok = true ∧ t.d = u.d ∧ t.c0 ≤ u.c0 ∧ t.c1 ≤ u.c1 ∧ t.c2 ≤ u.c2 ∧ t.c3 ≤ u.c3 := by
  simp only [TV.le, leB, pairedB, Bool.and_eq_true, beq_iff_eq, decide_eq_true_eq, TV.ok]
  constructor
  · rintro ⟨⟨⟨h1, h2⟩, h3⟩, h4⟩; exact ⟨h2, h3, h1, h4⟩
  · rintro ⟨h2, h3, h1, h4⟩; exact ⟨⟨⟨h1, h2⟩, h3⟩, h4⟩
set_option maxHeartbeats 4000000 in
theorem TV.lex_key {t u : TV} (ht : t.ok = true) (hu : u.ok = true) : lexB t.d t.c0 t.c1 t.c2 t.c3 u.d u.c0 u.c1 u.c2 u.c3 = decide (t.key < u.key) := by
  rw [TV.ok_iff] at ht hu
  obtain ⟨d, c0, c1, c2, c3⟩ := t
  obtain ⟨e, x0, x1, x2, x3⟩ := u
  simp only [okP] at ht hu
  simp only [TV.key, lexB]
  have hd : d = 1 ∨ d = 2 ∨ d = 3 ∨ d = 4 := by omega
  have he : e = 1 ∨ e = 2 ∨ e = 3 ∨ e = 4 := by omega
  refine Bool.eq_iff_iff.2 ?_
  rw [decide_eq_true_eq]
  rcases hd with rfl | rfl | rfl | rfl <;> rcases he with rfl | rfl | rfl | rfl <;> simp (decide := true) only [imin, if_true, if_false, true_and, false_and, ne_eq] <;> (repeat' split) <;> (first | omega | (simp only [decide_eq_true_eq]; omega) | (simp at *; omega))
theorem TV.lt_iff (t u : TV) : t.lt u = true ↔ t.ok = true ∧ u.ok = true ∧ t.key < u.key := by
  simp only [TV.lt, lessB, Bool.and_eq_true]
  constructor
  · rintro ⟨⟨h1, h2⟩, h3⟩
    refine ⟨h1, h2, ?_⟩
    rw [TV.lex_key h1 h2] at h3
    exact of_decide_eq_true h3
  · rintro ⟨h1, h2, h3⟩
    refine ⟨⟨h1, h2⟩, ?_⟩
    rw [TV.lex_key h1 h2]
    exact decide_eq_true h3
theorem TV.key_inj {t u : TV} (ht : t.ok = true) (hu : u.ok = true) (h : t.key = u.key) : t = u := by
  rw [TV.ok_iff] at ht hu
  obtain ⟨d, c0, c1, c2, c3⟩ := t
  obtain ⟨e, x0, x1, x2, x3⟩ := u
  simp only [okP] at ht hu
  simp only [TV.key] at h
  have hd : d = 1 ∨ d = 2 ∨ d = 3 ∨ d = 4 := by omega
  have he : e = 1 ∨ e = 2 ∨ e = 3 ∨ e = 4 := by omega
  rcases hd with rfl | rfl | rfl | rfl <;> rcases he with rfl | rfl | rfl | rfl <;> simp at h <;> first | (exfalso; omega) | (apply TV.ext4 <;> simp only <;> omega)
theorem TV.le_key {t u : TV} (h : t.le u = true) : t.key ≤ u.key := by
  obtain ⟨h1, h2, h3, h4, h5, h6, h7⟩ := (TV.le_iff t u).1 h
  simp only [TV.key, h3]
  split <;> split <;> split <;> omega
theorem TV.le_refl {t : TV} (h : t.ok = true) : t.le t = true := (TV.le_iff t t).2 ⟨h, h, rfl, Int.le_refl _, Int.le_refl _, Int.le_refl _, Int.le_refl _⟩
theorem TV.le_trans {t u v : TV} (h : t.le u = true) (k : u.le v = true) : t.le v = true := by
  rw [TV.le_iff] at *
  exact ⟨h.1, k.2.1, by omega, by omega, by omega, by omega, by omega⟩
theorem TV.le_antisymm {t u : TV} (h : t.le u = true) (k : u.le t = true) : t = u := by
  rw [TV.le_iff] at *
  exact TV.ext4 (by omega) (by omega) (by omega) (by omega) (by omega)
theorem TV.le_left {t u : TV} (h : t.le u = true) : t.ok = true := ((TV.le_iff t u).1 h).1
theorem TV.le_right {t u : TV} (h : t.le u = true) : u.ok = true := ((TV.le_iff t u).1 h).2.1
end Go.Proofs.Ytcaolilhemamiaa
