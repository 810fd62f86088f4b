/- graph.sameNode -/
import Derived.Test.YtdhmoiiagplbpaaVs
import Derived.Test.YtdhmoiiagplbpaaBoxG
namespace Go.Proofs.Ytdhmoiiagplbpaa
open Go.RowKit
set_option linter.unusedVariables false
set_option linter.unusedSimpArgs false

abbrev NW.val (x : NW) : Value := .agg #[.int .i64 x.kind, .int .i64 x.scope, .int .i64 x.arg, .slice x.p x.n x.c]
set_option maxRecDepth 100000 in
set_option maxHeartbeats 4000000 in
theorem snode_any (x y : NW) (g h : GN) (w : World) (hx : isN w x g) (hy : isN w y h) (hl : g.prog.length ≤ 900000) :
    Calls Try.prog 27 #[x.val, y.val] w (Ret (.bool (decide (g = h))) w) := by
  obtain ⟨x1, x2, x3, x4⟩ := hx
  obtain ⟨y1, y2, y3, y4⟩ := hy
  have HI := Lib.hid (fun W (hW : Below w.heap.size w W) => sinss_any g.prog h.prog _ _ W hl (x4.below hW) (y4.below hW))
  obtain ⟨k1, s1, a1, p1, n1, c1⟩ := x
  obtain ⟨k2, s2, a2, p2, n2, c2⟩ := y
  obtain ⟨gk, gs, ga, gp⟩ := g
  obtain ⟨hk, hs, ha, hp⟩ := h
  simp only at x1 x2 x3 y1 y2 y3
  subst x1; subst x2; subst x3; subst y1; subst y2; subst y3
  clear x4 y4
  have hall : ∀ r : Bool, k1 = k2 → s1 = s2 → a1 = a2 → decide (gp = hp) = r → decide ((⟨k1, s1, a1, gp⟩ : GN) = ⟨k2, s2, a2, hp⟩) = r := fun r e1 e2 e3 e4 => by
    subst e1; subst e2; subst e3; rw [← e4, Bool.eq_iff_iff, decide_eq_true_eq, decide_eq_true_eq]; simp
  have hno : ¬ (k1 = k2 ∧ s1 = s2 ∧ a1 = a2) → decide ((⟨k1, s1, a1, gp⟩ : GN) = ⟨k2, s2, a2, hp⟩) = false := fun e => decide_eq_false (fun q => e (by simp at q; exact ⟨q.1, q.2.1, q.2.2.1⟩))
  have HB0 := Lib.hid (((Below.refl w.heap.size w).alloc (Nat.le_refl _) (.cells #[.int .i64 k1, .int .i64 s1, .int .i64 a1, .slice p1 n1 c1] 46)).alloc (by simp) (.cells #[.int .i64 k2, .int .i64 s2, .int .i64 a2, .slice p2 n2 c2] 46))
  generalize hr : decide ((⟨k1, s1, a1, gp⟩ : GN) = ⟨k2, s2, a2, hp⟩) = res at hall hno ⊢
  clear hr
  dsimp only [NW.val] at *
  generalize hd : decide (gp = hp) = rp at *
  have HA := Lib.hid hall; have HNo := Lib.hid hno
  clear hall hno
  by_cases e1 : k1 = k2
  · have b1 : (k1 == k2) = true := by simp [e1]
    by_cases e2 : s1 = s2
    · have b2 : (s1 == s2) = true := by simp [e2]
      by_cases e3 : a1 = a2
      · have b3 : (a1 == a2) = true := by simp [e3]
        have HR := Lib.hid (HA.out _ e1 e2 e3 rfl)
        clear HA HNo e1 e2 e3
        go_enter Try.func27, Try.ntmps27
        go_wp2_with fail
        refine (HI.out _ HB0.out).mono ?_
        rintro e w1 ⟨rfl, hb1⟩
        have HB1 := Lib.hid (HB0.out.trans (hb1.mono HB0.out.size))
        clear hb1
        go_wp2
        go_returns
        exact ⟨ret_bool HR.out.symm, HB1.out⟩
      · have b3 : (a1 == a2) = false := by simp [e3]
        have HR := Lib.hid (HNo.out (fun q => e3 q.2.2))
        clear HA HNo e1 e2 e3
        go_enter Try.func27, Try.ntmps27
        go_wp2
        go_returns
        exact ⟨ret_bool HR.out.symm, HB0.out⟩
    · have b2 : (s1 == s2) = false := by simp [e2]
      have HR := Lib.hid (HNo.out (fun q => e2 q.2.1))
      clear HA HNo e1 e2
      go_enter Try.func27, Try.ntmps27
      go_wp2
      go_returns
      exact ⟨ret_bool HR.out.symm, HB0.out⟩
  · have b1 : (k1 == k2) = false := by simp [e1]
    have HR := Lib.hid (HNo.out (fun q => e1 q.1))
    clear HA HNo e1
    go_enter Try.func27, Try.ntmps27
    go_wp2
    go_returns
    exact ⟨ret_bool HR.out.symm, HB0.out⟩
end Go.Proofs.Ytdhmoiiagplbpaa
