import Derived.Test.YtcaolilhemamiaaTs1
namespace Go.Proofs.Ytcaolilhemamiaa
open Go.RowKit
set_option linter.unusedVariables false
attribute [local go_sem] ix4_0 ix4_1 ix4_2 ix4_3

theorem bcell {W w1 : World} (hb : Below W.heap.size W w1) : (∀ b o, b < W.heap.size → w1.cell? ⟨b, o, none⟩ = W.cell? ⟨b, o, none⟩) ∧ (∀ b o, b < W.heap.size → w1.frozen? ⟨b, o, none⟩ = W.frozen? ⟨b, o, none⟩) :=
  ⟨fun b o h => hb.cell (p := ⟨b, o, none⟩) h, fun b o h => hb.frozen (p := ⟨b, o, none⟩) h⟩

def pairedB (d c0 c1 c2 c3 e x0 x1 x2 x3 : Int) : Bool := (d == e) && rightB d c0 c1 c2 c3 && rightB e x0 x1 x2 x3

theorem bcall {B : Nat} {a W w1 : World} (h : Below B a W) (hb : Below W.heap.size W w1) (hB : B ≤ W.heap.size) : Below B a w1 := h.trans (hb.mono hB)

set_option maxHeartbeats 1000000 in
theorem paired_any (d c0 c1 c2 c3 e x0 x1 x2 x3 : Int) (w : World) :
    Calls Try.prog 66 #[.agg #[.int .i64 d, .int .i64 c0, .int .i64 c1, .int .i64 c2, .int .i64 c3], .agg #[.int .i64 e, .int .i64 x0, .int .i64 x1, .int .i64 x2, .int .i64 x3]] w
      (Ret (.bool (pairedB d c0 c1 c2 c3 e x0 x1 x2 x3)) w) := by
  have hp : pairedB d c0 c1 c2 c3 e x0 x1 x2 x3 = ((d == e) && rightB d c0 c1 c2 c3 && rightB e x0 x1 x2 x3) := rfl
  rw [hp]; clear hp
  by_cases h : (d == e) = true
  · cases hr : rightB d c0 c1 c2 c3
    · go_enter Try.func66, Try.ntmps66
      go_wp2_with fail
      refine (right_any _ _ _ _ _ _).mono ?_
      rintro e w1 ⟨rfl, hb1⟩
      obtain ⟨hc1, hf1⟩ := bcell hb1
      have hB := bcall (B := w.heap.size) (a := w) (by go_grown) hb1 (by go_size)
      go_wp2
      go_returns
      exact ⟨by simp, by go_grown⟩
    · go_enter Try.func66, Try.ntmps66
      go_wp2_with fail
      refine (right_any _ _ _ _ _ _).mono ?_
      rintro e w1 ⟨rfl, hb1⟩
      obtain ⟨hc1, hf1⟩ := bcell hb1
      have hB := bcall (B := w.heap.size) (a := w) (by go_grown) hb1 (by go_size)
      go_wp2_with fail
      refine (right_any _ _ _ _ _ _).mono ?_
      rintro e w2 ⟨rfl, hb2⟩
      have hB2 := bcall hB hb2 hB.size
      go_wp2
      go_returns
      exact ⟨by simp [h], by go_grown⟩
  · have h' : (d == e) = false := by simpa using h
    rw [h']
    go_enter Try.func66, Try.ntmps66
    go_wp2
    go_returns
    exact ⟨by simp, by go_grown⟩
end Go.Proofs.Ytcaolilhemamiaa
