/- the document's Same on any two graphs -/
import Derived.Test.YtdhmoiiagplbpaaVf
namespace Go.Proofs.Ytdhmoiiagplbpaa
open Go.RowKit
set_option linter.unusedVariables false
set_option linter.unusedSimpArgs false

set_option maxRecDepth 100000 in
set_option maxHeartbeats 8000000 in
theorem rsame_no (g h : GV) (va vb : Value) (w : World) (hg : IsG w va g) (hh : IsG w vb h) (hlp : g.parent.length ≤ 900000) (hlb : g.bound.length ≤ 900000) (hno : ¬ (g.parent = h.parent ∧ g.bound = h.bound ∧ g.nodes.length = h.nodes.length ∧ g.edges.length = h.edges.length)) :
    Calls Try.prog 13 #[va, vb] w (Ret (.bool false) w) := by
  obtain ⟨pv1, bv1, nv1, ev1, rfl, a1, a2, ⟨xs1, a3, a3n, a3a⟩, a4⟩ := hg
  obtain ⟨pv2, bv2, nv2, ev2, rfl, b1, b2, ⟨xs2, b3, b3n, b3a⟩, b4⟩ := hh
  have HI1 := Lib.hid (fun W (hW : Below w.heap.size w W) => rints_any g.parent h.parent pv1 pv2 W hlp (a1.below hW) (b1.below hW))
  have HI2 := Lib.hid (fun W (hW : Below w.heap.size w W) => rints_any g.bound h.bound bv1 bv2 W hlb (a2.below hW) (b2.below hW))
  obtain ⟨p1, c1, rfl⟩ := a1.slice
  obtain ⟨p2, c2, rfl⟩ := a2.slice
  obtain ⟨p3, c3, rfl⟩ := a3.slice
  obtain ⟨p4, c4, rfl⟩ := a4.slice
  obtain ⟨q1, d1, rfl⟩ := b1.slice
  obtain ⟨q2, d2, rfl⟩ := b2.slice
  obtain ⟨q3, d3, rfl⟩ := b3.slice
  obtain ⟨q4, d4, rfl⟩ := b4.slice
  rw [a3n, b3n]
  clear a1 a2 a3 a4 b1 b2 b3 b4 a3a b3a a3n b3n
  have hd : decide (g.parent = h.parent) = false ∨ decide (g.bound = h.bound) = false ∨ g.nodes.length ≠ h.nodes.length ∨ g.edges.length ≠ h.edges.length := by
    by_cases e1 : g.parent = h.parent
    · by_cases e2 : g.bound = h.bound
      · by_cases e3 : g.nodes.length = h.nodes.length
        · exact .inr (.inr (.inr (fun e4 => hno ⟨e1, e2, e3, e4⟩)))
        · exact .inr (.inr (.inl e3))
      · exact .inr (.inl (decide_eq_false e2))
    · exact .inl (decide_eq_false e1)
  clear hno
  have HXA : Hid (rowOf (w.alloc (.cells #[.slice p1 g.parent.length c1, .slice p2 g.bound.length c2, .slice p3 g.nodes.length c3, .slice p4 g.edges.length c4] 26)) w.heap.size = some #[.slice p1 g.parent.length c1, .slice p2 g.bound.length c2, .slice p3 g.nodes.length c3, .slice p4 g.edges.length c4]) := rowOf_alloc_at _ _ _ rfl
  have HXB : Hid (rowOf ((w.alloc (.cells #[.slice p1 g.parent.length c1, .slice p2 g.bound.length c2, .slice p3 g.nodes.length c3, .slice p4 g.edges.length c4] 26)).alloc (.cells #[.slice q1 h.parent.length d1, .slice q2 h.bound.length d2, .slice q3 h.nodes.length d3, .slice q4 h.edges.length d4] 26)) (w.heap.size + 1) = some #[.slice q1 h.parent.length d1, .slice q2 h.bound.length d2, .slice q3 h.nodes.length d3, .slice q4 h.edges.length d4]) := rowOf_alloc_at _ _ _ (by simp)
  have HB0 := Lib.hid (((Below.refl w.heap.size w).alloc (Nat.le_refl _) (.cells #[.slice p1 g.parent.length c1, .slice p2 g.bound.length c2, .slice p3 g.nodes.length c3, .slice p4 g.edges.length c4] 26)).alloc (by simp) (.cells #[.slice q1 h.parent.length d1, .slice q2 h.bound.length d2, .slice q3 h.nodes.length d3, .slice q4 h.edges.length d4] 26))
  generalize decide (g.parent = h.parent) = f1 at *
  generalize decide (g.bound = h.bound) = f2 at *
  generalize g.parent.length = n1 at *
  generalize g.bound.length = n2 at *
  generalize g.nodes.length = n3 at *
  generalize g.edges.length = n4 at *
  generalize h.parent.length = m1 at *
  generalize h.bound.length = m2 at *
  generalize h.nodes.length = m3 at *
  generalize h.edges.length = m4 at *
  go_enter Try.func13, Try.ntmps13
  go_wp2_with fail
  refine (HI1.out _ HB0.out).mono ?_
  rintro e w1 ⟨rfl, hb1⟩
  have HB1 := Lib.hid (HB0.out.trans (hb1.mono HB0.out.size))
  have hxa := rowOf_below (row_old (o := .cells #[.slice q1 m1 d1, .slice q2 m2 d2, .slice q3 m3 d3, .slice q4 m4 d4] 26) HXA.out) hb1 (by simp; omega)
  have hxb := rowOf_below HXB.out hb1 (by simp)
  have HXA1 := Lib.hid hxa; have HXB1 := Lib.hid hxb
  have r1 : w1.cell? ⟨w.heap.size, 1, none⟩ = some (.slice p2 n2 c2) := rowOf_cell hxa 1
  have s1 : w1.cell? ⟨w.heap.size + 1, 1, none⟩ = some (.slice q2 m2 d2) := rowOf_cell hxb 1
  clear hb1 hxa hxb HXA HXB HI1 HB0
  cases f1
  · clear hd HI2
    go_wp2
    go_returns
    exact ⟨rfl, HB1.out⟩
  go_wp2_with fail
  refine (HI2.out _ HB1.out).mono ?_
  rintro e w2 ⟨rfl, hb2⟩
  have HB2 := Lib.hid (HB1.out.trans (hb2.mono HB1.out.size))
  have hxa := rowOf_below HXA1.out hb2 (rowOf_lt HXA1.out)
  have hxb := rowOf_below HXB1.out hb2 (rowOf_lt HXB1.out)
  have r2 : w2.cell? ⟨w.heap.size, 2, none⟩ = some (.slice p3 n3 c3) := rowOf_cell hxa 2
  have s2 : w2.cell? ⟨w.heap.size + 1, 2, none⟩ = some (.slice q3 m3 d3) := rowOf_cell hxb 2
  have r3 : w2.cell? ⟨w.heap.size, 3, none⟩ = some (.slice p4 n4 c4) := rowOf_cell hxa 3
  have s3 : w2.cell? ⟨w.heap.size + 1, 3, none⟩ = some (.slice q4 m4 d4) := rowOf_cell hxb 3
  clear hb2 hxa hxb HXA1 HXB1 HI2 HB1 r1 s1
  cases f2
  · clear hd
    go_wp2
    go_returns
    exact ⟨rfl, HB2.out⟩
  have hd2 : n3 ≠ m3 ∨ n4 ≠ m4 := by
    rcases hd with h | h | h | h
    · cases h
    · cases h
    · exact .inl h
    · exact .inr h
  clear hd
  by_cases e3 : n3 = m3
  · have e4 : n4 ≠ m4 := by omega
    have g3 : ((n3 : Int) != (m3 : Int)) = false := by simp; omega
    have g4 : ((n4 : Int) != (m4 : Int)) = true := by simp; omega
    clear hd2 e3 e4
    go_wp2
    go_returns
    exact ⟨rfl, HB2.out⟩
  · have g3 : ((n3 : Int) != (m3 : Int)) = true := by simp; omega
    clear hd2 e3
    go_wp2
    go_returns
    exact ⟨rfl, HB2.out⟩
theorem rsame_any (g h : GV) (va vb : Value) (w : World) (hg : IsG w va g) (hh : IsG w vb h) (hl : g.nodes.length ≤ 900000) (hl2 : g.edges.length ≤ 900000) (hlp : g.parent.length ≤ 900000) (hlb : g.bound.length ≤ 900000) (hpl : ∀ x ∈ g.nodes, x.prog.length ≤ 900000) :
    Calls Try.prog 13 #[va, vb] w (Ret (.bool (decide (g = h))) w) := by
  by_cases e : g.parent = h.parent ∧ g.bound = h.bound ∧ g.nodes.length = h.nodes.length ∧ g.edges.length = h.edges.length
  · have hq := rsame_eqlen g h va vb w hg hh hl hl2 hlp hlb hpl e.2.2.1 e.2.2.2 e.1 e.2.1
    have hd : decide (g = h) = decide (g.nodes = h.nodes ∧ g.edges = h.edges) := by
      rw [Bool.eq_iff_iff, decide_eq_true_eq, decide_eq_true_eq]
      constructor
      · intro q; rw [q]; exact ⟨rfl, rfl⟩
      · rintro ⟨q1, q2⟩
        obtain ⟨e1, e2, _, _⟩ := e
        cases g; cases h
        simp only at q1 q2 e1 e2
        subst q1; subst q2; subst e1; subst e2; rfl
    rw [hd]
    exact hq
  · rw [decide_eq_false (fun q => e (by rw [q]; exact ⟨rfl, rfl, rfl, rfl⟩))]
    exact rsame_no g h va vb w hg hh hlp hlb e
end Go.Proofs.Ytdhmoiiagplbpaa
