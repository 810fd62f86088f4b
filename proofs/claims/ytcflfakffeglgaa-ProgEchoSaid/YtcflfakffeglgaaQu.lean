/- plain facts of a step, and the program's own step, whatever the instruction -/
import Derived.Test.YtcflfakffeglgaaQs
import Derived.Test.YtcflfakffeglgaaQt
namespace Go.Proofs.Ytcflfakffeglgaa
open Go.RowKit
set_option linter.unusedVariables false
set_option linter.unusedSimpArgs false

theorem runP_err (p : List NV) (r : RV) : ∀ (f : Nat) (s : List Int) (out : List RV) (pc : Nat), (runP p r f s out pc).2 ≠ 0 → runP p r f s out pc = errL r (runP p r f s out pc).2
  | 0, s, out, pc, h => by
    unfold runP at *
    split at h
    · exact absurd rfl h
    · rename_i q; rw [if_neg q]; rfl
  | f + 1, s, out, pc, h => by
    unfold runP at *
    split at h
    · exact absurd rfl h
    · rename_i q
      rw [if_neg q]
      split at h
      · rename_i q2; rw [if_pos q2]; rfl
      · rename_i q2; rw [if_neg q2]; exact runP_err p r f _ _ _ h
theorem ofN_ok2 (op : Int) {a b : Int} (ha : inR a) (hb : inR b) : inR (ofN op a b).1 := by
  have hr : ∀ x, inR (roomN x).1 := fun x => by
    by_cases h : inR x
    · rw [roomN_in h]; exact h
    · rw [roomN_out h]; decide
  have hz : inR 0 := by decide
  unfold ofN
  split
  · exact hr _
  split
  · exact hr _
  split
  · exact hr _
  split
  · split
    · exact hz
    · exact hr _
  split
  · split
    · exact hz
    · rename_i h; exact tmod_in ha h
  split
  · split <;> decide
  split
  · split <;> decide
  exact hz
/-- a step that goes on leaves all in its bounds -/
theorem stepP_ok {rk rv op nn : Int} {n k : Nat} {S : List Int} {O : List RV} (hok : NV.ok n ⟨op, nn⟩) (hnn : inR nn) (hrk : inR rk) (hrv : inR rv) (hS8 : S.length ≤ 8) (hSr : ∀ x ∈ S, inR x) (hO8 : O.length ≤ 8) (hk : k < n) (h0 : (stepP ⟨rk, rv⟩ ⟨op, nn⟩ S O (k + 1)).1 = 0) :
    (stepP ⟨rk, rv⟩ ⟨op, nn⟩ S O (k + 1)).2.1.length ≤ 8 ∧ (∀ x ∈ (stepP ⟨rk, rv⟩ ⟨op, nn⟩ S O (k + 1)).2.1, inR x) ∧ (stepP ⟨rk, rv⟩ ⟨op, nn⟩ S O (k + 1)).2.2.1.length ≤ 8 ∧ (stepP ⟨rk, rv⟩ ⟨op, nn⟩ S O (k + 1)).2.2.2 ≤ n := by
  obtain ⟨o1, o2, o3, o4⟩ := hok
  simp only at o1 o2 o3 o4
  unfold stepP at *
  simp only at h0 ⊢
  by_cases hb : S.length < takesN op ∨ 8 < S.length - takesN op + givesN op
  · rw [if_pos hb] at h0
    exact absurd (show (1 : Int) = 0 from h0) (by decide)
  rw [if_neg hb] at h0 ⊢
  have ht : ∀ m, ∀ x ∈ S.take m, inR x := fun m x hx => hSr x (List.mem_of_mem_take hx)
  have hl : (S.take (S.length - takesN op)).length = S.length - takesN op := by rw [List.length_take]; omega
  have hg : S.length - takesN op + givesN op ≤ 8 := by omega
  have happ : ∀ (L : List Int), L.length ≤ givesN op → (∀ x ∈ L, inR x) → (S.take (S.length - takesN op) ++ L).length ≤ 8 ∧ ∀ x ∈ S.take (S.length - takesN op) ++ L, inR x := fun L h1 h2 =>
    ⟨by rw [List.length_append, hl]; omega, fun x hx => (List.mem_append.1 hx).elim (ht _ x) (h2 x)⟩
  have hz : inR 0 := by decide
  have hget : ∀ j, j < S.length → inR S[j]! := fun j hj => hSr _ (by rw [getElem!_pos S j hj]; exact List.getElem_mem hj)
  have ha : inR (if takesN op = 0 then 0 else S[S.length - takesN op]!) := by
    split
    · exact hz
    · exact hget _ (by omega)
  have hb2 : inR (if takesN op = 2 then S[S.length - takesN op + 1]! else 0) := by
    split
    · exact hget _ (by omega)
    · exact hz
  generalize (if takesN op = 0 then 0 else S[S.length - takesN op]!) = a at *
  generalize (if takesN op = 2 then S[S.length - takesN op + 1]! else 0) = b at *
  have hlen : (S.take (S.length - takesN op)).length ≤ 8 := by omega
  by_cases g1 : op = 1
  · rw [if_pos g1] at h0 ⊢
    obtain ⟨q1, q2⟩ := happ [nn] (by subst g1; show 1 ≤ givesN 1; decide) (fun x hx => by simp at hx; subst hx; exact hnn)
    exact ⟨q1, q2, hO8, hk⟩
  rw [if_neg g1] at h0 ⊢
  by_cases g2 : op = 2
  · rw [if_pos g2] at h0 ⊢
    obtain ⟨q1, q2⟩ := happ [rk] (by subst g2; show 1 ≤ givesN 2; decide) (fun x hx => by simp at hx; subst hx; exact hrk)
    exact ⟨q1, q2, hO8, hk⟩
  rw [if_neg g2] at h0 ⊢
  by_cases g3 : op = 3
  · rw [if_pos g3] at h0 ⊢
    obtain ⟨q1, q2⟩ := happ [rv] (by subst g3; show 1 ≤ givesN 3; decide) (fun x hx => by simp at hx; subst hx; exact hrv)
    exact ⟨q1, q2, hO8, hk⟩
  rw [if_neg g3] at h0 ⊢
  by_cases g11 : op = 11
  · rw [if_pos g11] at h0 ⊢
    obtain ⟨q1, q2⟩ := happ [a, a] (by subst g11; show 2 ≤ givesN 11; decide) (fun x hx => by simp at hx; subst hx; exact ha)
    exact ⟨q1, q2, hO8, hk⟩
  rw [if_neg g11] at h0 ⊢
  by_cases g12 : op = 12
  · rw [if_pos g12] at h0 ⊢
    obtain ⟨q1, q2⟩ := happ [b, a] (by subst g12; show 2 ≤ givesN 12; decide) (fun x hx => by simp at hx; rcases hx with rfl | rfl; exact hb2; exact ha)
    exact ⟨q1, q2, hO8, hk⟩
  rw [if_neg g12] at h0 ⊢
  by_cases g13 : op = 13
  · rw [if_pos g13] at h0 ⊢
    exact ⟨hlen, ht _, hO8, hk⟩
  rw [if_neg g13] at h0 ⊢
  by_cases g14 : op = 14
  · rw [if_pos g14] at h0 ⊢
    obtain ⟨n0, n1⟩ := o3 (.inl g14)
    exact ⟨hlen, ht _, hO8, by show nn.toNat ≤ n; omega⟩
  rw [if_neg g14] at h0 ⊢
  by_cases g15 : op = 15
  · rw [if_pos g15] at h0 ⊢
    obtain ⟨n0, n1⟩ := o3 (.inr g15)
    refine ⟨hlen, ht _, hO8, ?_⟩
    show (if a = 0 then nn.toNat else k + 1) ≤ n
    split <;> omega
  rw [if_neg g15] at h0 ⊢
  by_cases g16 : op = 16
  · rw [if_pos g16] at h0 ⊢
    refine ⟨hlen, ht _, ?_, hk⟩
    have h0 : (if O.length = 8 then (5 : Int) else 0) = 0 := h0
    show (O ++ [(⟨a, b⟩ : RV)]).length ≤ 8
    rw [List.length_append]
    by_cases h8 : O.length = 8
    · rw [if_pos h8] at h0; omega
    · simp; omega
  rw [if_neg g16] at h0 ⊢
  obtain ⟨q1, q2⟩ := happ [(ofN op a b).1] (by
    have : givesN op = 1 := by unfold givesN; rw [if_pos (by omega)]
    rw [this]; simp) (fun x hx => by simp at hx; subst hx; exact ofN_ok2 op ha hb2)
  exact ⟨q1, q2, hO8, hk⟩
theorem pstep_any {B bm : Nat} {rk rv : Int} {w : World} {k n : Nat} {sv ov : Value} {S : List Int} {O : List RV} (h : Mach B bm rk rv w (k : Int) sv ov S O) (op nn : Int) (hok : NV.ok n ⟨op, nn⟩) (hk : k ≤ 1000) (hnn : inR nn) (hS8 : S.length ≤ 8) (hSr : ∀ x ∈ S, inR x) (hO8 : O.length ≤ 8) :
    Calls Try.prog 20 #[.pointer (some ⟨bm, 0, none⟩), .agg #[.int .i64 op, .int .i64 nn]] w (StepR B bm rk rv w (stepP ⟨rk, rv⟩ ⟨op, nn⟩ S O (k + 1))) := by
  obtain ⟨o1, o2, o3, o4⟩ := hok
  simp only at o1 o2 o3 o4
  rcases (by omega : op = 1 ∨ op = 2 ∨ op = 3 ∨ op = 4 ∨ op = 5 ∨ op = 6 ∨ op = 7 ∨ op = 8 ∨ op = 9 ∨ op = 10 ∨ op = 11 ∨ op = 12 ∨ op = 13 ∨ op = 14 ∨ op = 15 ∨ op = 16) with rfl | rfl | rfl | rfl | rfl | rfl | rfl | rfl | rfl | rfl | rfl | rfl | rfl | rfl | rfl | rfl
  · exact pstep1 h nn hk hnn hS8 hSr hO8
  · exact pstep2 h nn hk hnn hS8 hSr hO8
  · exact pstep3 h nn hk hnn hS8 hSr hO8
  · exact pstep4 h nn hk hnn hS8 hSr hO8
  · exact pstep5 h nn hk hnn hS8 hSr hO8
  · exact pstep6 h nn hk hnn hS8 hSr hO8
  · exact pstep7 h nn hk hnn hS8 hSr hO8
  · exact pstep8 h nn hk hnn hS8 hSr hO8
  · exact pstep9 h nn hk hnn hS8 hSr hO8
  · exact pstep10 h nn hk hnn hS8 hSr hO8
  · exact pstep11 h nn hk hnn hS8 hSr hO8
  · exact pstep12 h nn hk hnn hS8 hSr hO8
  · exact pstep13 h nn hk hnn hS8 hSr hO8
  · exact pstep14 h nn hk hnn (o3 (.inl rfl)).1 hS8 hSr hO8
  · exact pstep15 h nn hk hnn (o3 (.inr rfl)).1 hS8 hSr hO8
  · exact pstep16 h nn hk hnn hS8 hSr hO8
end Go.Proofs.Ytcflfakffeglgaa
