/- plain: what is put or taken stays short -/
import Derived.Test.YtdgnblkoohakeaaUe
import Derived.Test.YtdgnblkoohakeaaUg
namespace Go.Proofs.Ytdgnblkoohakeaa
open Go.RowKit
set_option linter.unusedVariables false
set_option linter.unusedSimpArgs false

theorem put_short {n : List BV} {f t : Int} {m : MV} {a : Nat} (ha : ∀ b ∈ n, b.l.length ≤ a) : (putL n f t m).length ≤ n.length + 1 ∧ ∀ b ∈ putL n f t m, b.l.length ≤ a + 1 := by
  induction n with
  | nil => exact ⟨by simp [putL], fun b hb => by simp only [putL, List.mem_singleton] at hb; subst hb; simp⟩
  | cons b n ih =>
    have I := ih fun c hc => ha c (List.mem_cons_of_mem _ hc)
    have hb := ha b List.mem_cons_self
    simp only [putL]
    split
    · refine ⟨by simp, fun c hc => ?_⟩
      rcases List.mem_cons.1 hc with rfl | hc
      · simp; omega
      · have := ha c (List.mem_cons_of_mem _ hc); omega
    · split
      · refine ⟨by simp, fun c hc => ?_⟩
        rcases List.mem_cons.1 hc with rfl | hc
        · simp
        · have := ha c hc; omega
      · refine ⟨by simp only [List.length_cons]; omega, fun c hc => ?_⟩
        rcases List.mem_cons.1 hc with rfl | hc
        · omega
        · exact I.2 c hc
theorem take_short {n : List BV} {e f t : Int} {i a : Nat} (ha : ∀ b ∈ n, b.l.length ≤ a) : (takeL n e f t i).length ≤ n.length ∧ ∀ b ∈ takeL n e f t i, b.l.length ≤ a := by
  induction n with
  | nil => exact ⟨Nat.le_refl _, fun b hb => by cases hb⟩
  | cons b n ih =>
    have I := ih fun c hc => ha c (List.mem_cons_of_mem _ hc)
    have hb := ha b List.mem_cons_self
    simp only [takeL]
    split
    · split
      · exact ⟨by simp, fun c hc => ha c (List.mem_cons_of_mem _ hc)⟩
      · refine ⟨by simp, fun c hc => ?_⟩
        rcases List.mem_cons.1 hc with rfl | hc
        · have := List.length_eraseIdx_le b.l i
          simp only
          omega
        · exact ha c (List.mem_cons_of_mem _ hc)
    · refine ⟨by simp only [List.length_cons]; omega, fun c hc => ?_⟩
      rcases List.mem_cons.1 hc with rfl | hc
      · exact hb
      · exact I.2 c hc
theorem put_shortN {n : List BV} {f t room : Int} {m : MV} {a : Nat} (ha : ∀ b ∈ n, b.l.length ≤ a) : (putN n f t room m).length ≤ n.length + 1 ∧ ∀ b ∈ putN n f t room m, b.l.length ≤ a + 1 := by
  unfold putN
  split
  · exact put_short ha
  · exact ⟨Nat.le_succ _, fun b hb => by have := ha b hb; omega⟩
theorem take_shortN {n : List BV} {e f t i : Int} {a : Nat} (ha : ∀ b ∈ n, b.l.length ≤ a) : (takeN n e f t i).length ≤ n.length ∧ ∀ b ∈ takeN n e f t i, b.l.length ≤ a := by
  unfold takeN
  split
  · exact take_short ha
  · exact ⟨Nat.le_refl _, ha⟩
theorem all_get {n : List BV} {a : Nat} (h : ∀ b ∈ n, b.l.length ≤ a) : ∀ j, j < n.length → (n[j]!).l.length ≤ a := fun j hj => h _ (by rw [getElem!_pos n j hj]; exact List.getElem_mem hj)
theorem short_of {n : List BV} (h : shortN n = true) : n.length ≤ 40 ∧ ∀ b ∈ n, b.l.length ≤ 60 := by
  have q := of_decide_eq_true h
  refine ⟨q.1, fun b hb => ?_⟩
  obtain ⟨j, hj, rfl⟩ := List.mem_iff_getElem.1 hb
  have := q.2 j hj
  rwa [getElem!_pos n j hj] at this
end Go.Proofs.Ytdgnblkoohakeaa
