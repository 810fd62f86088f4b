/- graph.Same -/
import Derived.Test.YtdhmoiiagplbpaaVu
namespace Go.Proofs.Ytdhmoiiagplbpaa
open Go.RowKit
set_option linter.unusedVariables false
set_option linter.unusedSimpArgs false

set_option maxRecDepth 100000 in
set_option maxHeartbeats 8000000 in
theorem psame_any (g h : GV) (va vb : Value) (w : World) (hg : IsG w va g) (hh : IsG w vb h) (hl : g.nodes.length ≤ 900000) (hl2 : g.edges.length ≤ 900000) (hlp : g.parent.length ≤ 900000) (hlb : g.bound.length ≤ 900000) (hpl : ∀ x ∈ g.nodes, x.prog.length ≤ 900000) :
    Calls Try.prog 12 #[va, vb] w (Ret (.bool (decide (g = h))) w) := by
  obtain ⟨pv1, bv1, nv1, ev1, rfl, a1, a2, a3, a4⟩ := hg
  obtain ⟨pv2, bv2, nv2, ev2, rfl, b1, b2, b3, b4⟩ := hh
  have HI1 := Lib.hid (fun W (hW : Below w.heap.size w W) => sints_any g.parent h.parent pv1 pv2 W hlp (a1.below hW) (b1.below hW))
  have HI2 := Lib.hid (fun W (hW : Below w.heap.size w W) => sints_any g.bound h.bound bv1 bv2 W hlb (a2.below hW) (b2.below hW))
  have HI3 := Lib.hid (fun W (hW : Below w.heap.size w W) => snodes_any g.nodes h.nodes nv1 nv2 W hl hpl (a3.below hW) (b3.below hW))
  have HI4 := Lib.hid (fun W (hW : Below w.heap.size w W) => sedges_any g.edges h.edges ev1 ev2 W hl2 (a4.below hW) (b4.below hW))
  obtain ⟨p1, c1, rfl⟩ := a1.slice
  obtain ⟨p2, c2, rfl⟩ := a2.slice
  obtain ⟨x3, a3, _⟩ := a3
  obtain ⟨p3, c3, rfl⟩ := a3.slice
  obtain ⟨p4, c4, rfl⟩ := a4.slice
  obtain ⟨q1, d1, rfl⟩ := b1.slice
  obtain ⟨q2, d2, rfl⟩ := b2.slice
  obtain ⟨y3, b3, _⟩ := b3
  obtain ⟨q3, d3, rfl⟩ := b3.slice
  obtain ⟨q4, d4, rfl⟩ := b4.slice
  clear a1 a2 a3 a4 b1 b2 b3 b4
  have hd : decide (g = h) = (decide (g.parent = h.parent) && (decide (g.bound = h.bound) && (decide (g.nodes = h.nodes) && decide (g.edges = h.edges)))) := by
    rw [Bool.eq_iff_iff]
    simp only [decide_eq_true_eq, Bool.and_eq_true]
    constructor
    · intro q; rw [q]; exact ⟨rfl, rfl, rfl, rfl⟩
    · rintro ⟨q1, q2, q3, q4⟩
      cases g; cases h
      simp only at q1 q2 q3 q4
      subst q1; subst q2; subst q3; subst q4; rfl
  rw [hd]
  clear hd
  generalize decide (g.parent = h.parent) = f1 at *
  generalize decide (g.bound = h.bound) = f2 at *
  generalize decide (g.nodes = h.nodes) = f3 at *
  generalize decide (g.edges = h.edges) = f4 at *
  clear hl hl2 hlp hlb hpl
  generalize g.parent.length = n1 at *
  generalize g.bound.length = n2 at *
  generalize x3.length = n3 at *
  generalize g.edges.length = n4 at *
  generalize h.parent.length = m1 at *
  generalize h.bound.length = m2 at *
  generalize y3.length = m3 at *
  generalize h.edges.length = m4 at *
  have HXA : Hid (rowOf ((w.alloc (.cells #[.slice p1 n1 c1, .slice p2 n2 c2, .slice p3 n3 c3, .slice p4 n4 c4] 26)).alloc (.cells #[.slice q1 m1 d1, .slice q2 m2 d2, .slice q3 m3 d3, .slice q4 m4 d4] 26)) w.heap.size = some #[.slice p1 n1 c1, .slice p2 n2 c2, .slice p3 n3 c3, .slice p4 n4 c4]) := row_old (row_new rfl)
  have HXB : Hid (rowOf ((w.alloc (.cells #[.slice p1 n1 c1, .slice p2 n2 c2, .slice p3 n3 c3, .slice p4 n4 c4] 26)).alloc (.cells #[.slice q1 m1 d1, .slice q2 m2 d2, .slice q3 m3 d3, .slice q4 m4 d4] 26)) (w.heap.size + 1) = some #[.slice q1 m1 d1, .slice q2 m2 d2, .slice q3 m3 d3, .slice q4 m4 d4]) := row_new (by simp)
  have HB0 := Lib.hid (((Below.refl w.heap.size w).alloc (Nat.le_refl _) (.cells #[.slice p1 n1 c1, .slice p2 n2 c2, .slice p3 n3 c3, .slice p4 n4 c4] 26)).alloc (by simp) (.cells #[.slice q1 m1 d1, .slice q2 m2 d2, .slice q3 m3 d3, .slice q4 m4 d4] 26))
  go_enter Try.func12, Try.ntmps12
  go_wp2_with fail
  refine (HI1.out _ HB0.out).mono ?_
  rintro e w1 ⟨rfl, hb⟩
  have HB1 := Lib.hid (HB0.out.trans (hb.mono HB0.out.size))
  have hxa := rowOf_below HXA.out hb (rowOf_lt HXA.out)
  have hxb := rowOf_below HXB.out hb (rowOf_lt HXB.out)
  have r1 : w1.cell? ⟨w.heap.size, 1, none⟩ = some (.slice p2 n2 c2) := rowOf_cell hxa 1
  have s1 : w1.cell? ⟨w.heap.size + 1, 1, none⟩ = some (.slice q2 m2 d2) := rowOf_cell hxb 1
  clear HXA HXB HI1 HB0
  have HXA := Lib.hid hxa; have HXB := Lib.hid hxb
  clear hb hxa hxb 
  cases f1
  · go_wp2
    go_returns
    exact ⟨rfl, HB1.out⟩
  go_wp2_with fail
  refine (HI2.out _ HB1.out).mono ?_
  rintro e w2 ⟨rfl, hb⟩
  have HB2 := Lib.hid (HB1.out.trans (hb.mono HB1.out.size))
  have hxa := rowOf_below HXA.out hb (rowOf_lt HXA.out)
  have hxb := rowOf_below HXB.out hb (rowOf_lt HXB.out)
  have r2 : w2.cell? ⟨w.heap.size, 2, none⟩ = some (.slice p3 n3 c3) := rowOf_cell hxa 2
  have s2 : w2.cell? ⟨w.heap.size + 1, 2, none⟩ = some (.slice q3 m3 d3) := rowOf_cell hxb 2
  clear HXA HXB HI2 HB1
  have HXA := Lib.hid hxa; have HXB := Lib.hid hxb
  clear hb hxa hxb r1 s1
  cases f2
  · go_wp2
    go_returns
    exact ⟨rfl, HB2.out⟩
  go_wp2_with fail
  refine (HI3.out _ HB2.out).mono ?_
  rintro e w3 ⟨rfl, hb⟩
  have HB3 := Lib.hid (HB2.out.trans (hb.mono HB2.out.size))
  have hxa := rowOf_below HXA.out hb (rowOf_lt HXA.out)
  have hxb := rowOf_below HXB.out hb (rowOf_lt HXB.out)
  have r3 : w3.cell? ⟨w.heap.size, 3, none⟩ = some (.slice p4 n4 c4) := rowOf_cell hxa 3
  have s3 : w3.cell? ⟨w.heap.size + 1, 3, none⟩ = some (.slice q4 m4 d4) := rowOf_cell hxb 3
  clear HXA HXB HI3 HB2
  have HXA := Lib.hid hxa; have HXB := Lib.hid hxb
  clear hb hxa hxb r2 s2
  cases f3
  · go_wp2
    go_returns
    exact ⟨rfl, HB3.out⟩
  go_wp2_with fail
  refine (HI4.out _ HB3.out).mono ?_
  rintro e w4 ⟨rfl, hb⟩
  have HB4 := Lib.hid (HB3.out.trans (hb.mono HB3.out.size))
  clear hb
  go_wp2
  go_returns
  exact ⟨rfl, HB4.out⟩
end Go.Proofs.Ytdhmoiiagplbpaa
