import Derived.Test.YtcaolilhemamiaaCs
import Derived.Test.YtcaolilhemamiaaTd
import Derived.Sort.Grow
namespace Go.Proofs.Ytcaolilhemamiaa
open Go.RowKit Go.Sort
set_option linter.unusedVariables false
set_option linter.unusedSimpArgs false

/- the comparison that the sort is given -/
theorem grow_of_below {w w' : World} (h : Below w.heap.size w w') (hd : w.drawn ≤ w'.drawn) : ∃ q os', w' = grow (w.drewN q) os' := by
  refine ⟨w'.drawn - w.drawn, w'.heap.extract w.heap.size w'.heap.size, ?_⟩
  obtain ⟨h1, h2, h3, h4, h5⟩ := h
  obtain ⟨hp, tp, dr, os, out⟩ := w
  obtain ⟨hp', tp', dr', os', out'⟩ := w'
  simp only at h1 h2 h3 h4 h5 hd
  subst h1 h2 h3
  unfold grow World.drewN
  simp only [World.mk.injEq, true_and, and_true]
  refine ⟨?_, by omega⟩
  refine Array.ext_getElem? fun i => ?_
  rw [Array.getElem?_append]
  split
  · exact h5 i (by assumption)
  · rename_i hi
    rw [Array.getElem?_extract]
    split
    · congr 1; omega
    · rw [Array.getElem?_eq_none (by omega)]

theorem lt_any (a b : TV) (W : World) : Calls Try.prog 57 #[a.val, b.val] W (RetD (.bool (a.lt b)) W) := less_drawn _ _ _ _ _ _ _ _ _ _ W
def cmpT (a b : TV) : Int := if a.lt b then -1 else if b.lt a then 1 else 0
set_option maxHeartbeats 2000000 in
theorem compare_any (a b : TV) (w : World) : Calls Try.prog 63 #[a.val, b.val] w (RetD (.int .i64 (cmpT a b)) w) := by
  have H1 : Hid (∀ W, Calls Try.prog 57 #[a.val, b.val] W (RetD (.bool (a.lt b)) W)) := lt_any a b
  have H2 : Hid (∀ W, Calls Try.prog 57 #[b.val, a.val] W (RetD (.bool (b.lt a)) W)) := lt_any b a
  have hc : cmpT a b = if a.lt b then -1 else if b.lt a then 1 else 0 := rfl
  generalize cmpT a b = r at hc ⊢
  generalize a.lt b = l1 at H1 hc
  generalize b.lt a = l2 at H2 hc
  have HC := Lib.hid hc; clear hc
  go_enter Try.func63, Try.ntmps63
  go_wp2_with fail
  refine (H1.out _).mono ?_
  rintro e w1 ⟨rfl, hb1, hd1⟩
  have hz := hb1.size
  have hB := bcall (B := w.heap.size) (a := w) (by go_grown) hb1 (by go_size)
  have hP := ((Own5.new w (.int .i64 a.d) (.int .i64 a.c0) (.int .i64 a.c1) (.int .i64 a.c2) (.int .i64 a.c3) 26).alloc _ (by go_size)).below hb1 (by go_size)
  have hA := (Own5.new _ (.int .i64 b.d) (.int .i64 b.c0) (.int .i64 b.c1) (.int .i64 b.c2) (.int .i64 b.c3) 26).below hb1 (by go_size)
  have hd : w.drawn ≤ w1.drawn := hd1
  obtain ⟨p0, p1, p2, p3, p4, q0, q1, q2, q3, q4⟩ := hP
  obtain ⟨a0, a1, a2, a3, a4, b0, b1, b2, b3, b4⟩ := hA
  simp only [World.size_alloc] at *
  clear hb1 hd1
  cases l1
  · go_wp2_with fail
    refine (H2.out _).mono ?_
    rintro e w2 ⟨rfl, hb2, hd2⟩
    have hB2 := bcall hB hb2 hB.size
    have hdd : w.drawn ≤ w2.drawn := Nat.le_trans hd hd2
    cases l2
    · skip
      go_wp2
      go_returns
      exact ⟨by rw [HC.out]; rfl, hB2, hdd⟩
    · skip
      go_wp2
      go_returns
      exact ⟨by rw [HC.out]; rfl, hB2, hdd⟩
  · skip
    go_wp2
    go_returns
    exact ⟨by rw [HC.out]; rfl, hB, hd⟩
end Go.Proofs.Ytcaolilhemamiaa
