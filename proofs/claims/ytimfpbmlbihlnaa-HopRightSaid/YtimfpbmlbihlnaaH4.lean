import Derived.Test.YtimfpbmlbihlnaaH4b
import Derived.Test.YtimfpbmlbihlnaaH4c
import Derived.Test.YtimfpbmlbihlnaaH4d
import Derived.Test.YtimfpbmlbihlnaaH4e
namespace Go.Proofs.Ytimfpbmlbihlnaa
open Go.RowKit
set_option linter.unusedVariables false
set_option linter.unusedSimpArgs false

def TV.coord (t : TV) (i : Int) : Int := if i = 0 then t.c0 else if i = 1 then t.c1 else if i = 2 then t.c2 else t.c3
/-- the coordinate of what a step makes of a timestamp -/
def outC (h : HV) (t : TV) (i : Int) : Int := if i < h.k then h.add i + t.coord i else if i < h.k + h.t then h.tl (i - h.k) else 0
def TV.rightB (t : TV) : Bool := Go.Proofs.Ytimfpbmlbihlnaa.rightB t.d t.c0 t.c1 t.c2 t.c3
def outT (h : HV) (t : TV) : TV := ⟨h.k + h.t, outC h t 0, outC h t 1, outC h t 2, outC h t 3⟩
def applyOk (h : HV) (t : TV) : Bool := h.rightB && t.rightB && (t.d == h.f) && (outT h t).rightB
def TV.gate (ok : Bool) (t : TV) : TV := ⟨Go.Proofs.Ytimfpbmlbihlnaa.gate ok t.d, Go.Proofs.Ytimfpbmlbihlnaa.gate ok t.c0, Go.Proofs.Ytimfpbmlbihlnaa.gate ok t.c1, Go.Proofs.Ytimfpbmlbihlnaa.gate ok t.c2, Go.Proofs.Ytimfpbmlbihlnaa.gate ok t.c3⟩
def applyT (h : HV) (t : TV) : TV := TV.gate (applyOk h t) (outT h t)

theorem right_of' {d c0 c1 c2 c3 : Int} (h : rightB d c0 c1 c2 c3 = true) : rightP d c0 c1 c2 c3 := of_decide_eq_true h
theorem greatest_le (d i : Int) : greatestS d i ≤ 1048576 := by unfold greatestS; split <;> (try split) <;> omega
theorem right_bound {d c0 c1 c2 c3 : Int} (h : rightB d c0 c1 c2 c3 = true) : (0 ≤ c0 ∧ c0 ≤ 1048576) ∧ (0 ≤ c1 ∧ c1 ≤ 1048576) ∧ (0 ≤ c2 ∧ c2 ≤ 1048576) ∧ (0 ≤ c3 ∧ c3 ≤ 1048576) := by
  have r := right_of' h
  have := greatest_le d 0; have := greatest_le d 1; have := greatest_le d 2; have := greatest_le d 3
  unfold rightP at r
  omega

theorem apply_no (h : HV) (t : TV) (hn : applyOk h t = false) (hy : (h.rightB && t.rightB && (t.d == h.f)) = false) (w : World) :
    Calls Try.prog 6 #[h.val, t.val] w (Ret (.tuple #[.agg #[.int .i64 0, .int .i64 0, .int .i64 0, .int .i64 0, .int .i64 0], .bool false]) w) := by
  cases hr : h.rightB
  · exact apply_no1 _ _ _ _ _ _ _ _ _ _ _ _ _ _ _ _ hr w
  · cases ht : t.rightB
    · exact apply_no2 _ _ _ _ _ _ _ _ _ _ _ _ _ _ _ _ hr ht w
    · have hd : (t.d == h.f) = false := by rw [hr, ht] at hy; simpa using hy
      exact apply_no3 _ _ _ _ _ _ _ _ _ _ _ _ _ _ _ _ hr ht hd w

theorem apply_yes (h : HV) (t : TV) (hr : h.rightB = true) (ht : t.rightB = true) (hd : t.d = h.f) (ok : Bool) (ho : (outT h t).rightB = ok) (w : World) :
    Calls Try.prog 6 #[h.val, t.val] w (Ret (.tuple #[.agg #[.int .i64 (gate ok (h.k + h.t)), .int .i64 (gate ok (outC h t 0)), .int .i64 (gate ok (outC h t 1)), .int .i64 (gate ok (outC h t 2)), .int .i64 (gate ok (outC h t 3))], .bool ok]) w) := by
  obtain ⟨f, k, q, a0, a1, a2, a3, b0, b1, b2, b3⟩ := h
  obtain ⟨d, c0, c1, c2, c3⟩ := t
  simp only at hd
  subst hd
  have r : HV.right _ := of_decide_eq_true hr
  obtain ⟨⟨r1, r2, r3, r4, r5, r6⟩, r7, r8, ⟨⟨x0, y0, _⟩, ⟨x1, y1, _⟩, ⟨x2, y2, _⟩, ⟨x3, y3, _⟩⟩, _⟩ := r
  simp only at r1 r2 r3 r4 r5 r6 r7 r8 x0 y0 x1 y1 x2 y2 x3 y3
  have hb := right_bound (d := d) (c0 := c0) (c1 := c1) (c2 := c2) (c3 := c3) ht
  obtain ⟨z0, z1, z2, z3⟩ := hb
  have hk : (k = 0 ∨ k = 1 ∨ k = 2 ∨ k = 3 ∨ k = 4) ∧ (q = 0 ∨ q = 1 ∨ q = 2 ∨ q = 3 ∨ q = 4) := by omega
  obtain ⟨rfl | rfl | rfl | rfl | rfl, rfl | rfl | rfl | rfl | rfl⟩ := hk
  all_goals first | (exfalso; omega) | skip
  · exact apply_0_1 _ _ _ _ _ _ _ _ _ _ _ _ _ ok hr ht ho w
  · exact apply_0_2 _ _ _ _ _ _ _ _ _ _ _ _ _ ok hr ht ho w
  · exact apply_0_3 _ _ _ _ _ _ _ _ _ _ _ _ _ ok hr ht ho w
  · exact apply_0_4 _ _ _ _ _ _ _ _ _ _ _ _ _ ok hr ht ho w
  · exact apply_1_0 _ _ _ _ _ _ _ _ _ _ _ _ _ ok hr ht ⟨x0, y0⟩ z0 ho w
  · exact apply_1_1 _ _ _ _ _ _ _ _ _ _ _ _ _ ok hr ht ⟨x0, y0⟩ z0 ho w
  · exact apply_1_2 _ _ _ _ _ _ _ _ _ _ _ _ _ ok hr ht ⟨x0, y0⟩ z0 ho w
  · exact apply_1_3 _ _ _ _ _ _ _ _ _ _ _ _ _ ok hr ht ⟨x0, y0⟩ z0 ho w
  · exact apply_2_0 _ _ _ _ _ _ _ _ _ _ _ _ _ ok hr ht ⟨x0, y0⟩ z0 ⟨x1, y1⟩ z1 ho w
  · exact apply_2_1 _ _ _ _ _ _ _ _ _ _ _ _ _ ok hr ht ⟨x0, y0⟩ z0 ⟨x1, y1⟩ z1 ho w
  · exact apply_2_2 _ _ _ _ _ _ _ _ _ _ _ _ _ ok hr ht ⟨x0, y0⟩ z0 ⟨x1, y1⟩ z1 ho w
  · exact apply_3_0 _ _ _ _ _ _ _ _ _ _ _ _ _ ok hr ht ⟨x0, y0⟩ z0 ⟨x1, y1⟩ z1 ⟨x2, y2⟩ z2 ho w
  · exact apply_3_1 _ _ _ _ _ _ _ _ _ _ _ _ _ ok hr ht ⟨x0, y0⟩ z0 ⟨x1, y1⟩ z1 ⟨x2, y2⟩ z2 ho w
  · exact apply_4_0 _ _ _ _ _ _ _ _ _ _ _ _ _ ok hr ht ⟨x0, y0⟩ z0 ⟨x1, y1⟩ z1 ⟨x2, y2⟩ z2 ⟨x3, y3⟩ z3 ho w

theorem apply_any (h : HV) (t : TV) (w : World) :
    Calls Try.prog 6 #[h.val, t.val] w (Ret (.tuple #[(applyT h t).val, .bool (applyOk h t)]) w) := by
  cases hy : (h.rightB && t.rightB && (t.d == h.f))
  · have hn : applyOk h t = false := by unfold applyOk; rw [hy]; rfl
    have q := apply_no h t hn hy w
    rw [show applyT h t = ⟨0, 0, 0, 0, 0⟩ by unfold applyT TV.gate; rw [hn]; rfl, hn]
    exact q
  · simp only [Bool.and_eq_true, beq_iff_eq] at hy
    have q := apply_yes h t hy.1.1 hy.1.2 hy.2 _ rfl w
    have e : applyOk h t = (outT h t).rightB := by unfold applyOk; rw [hy.1.1, hy.1.2, hy.2]; simp
    unfold applyT TV.gate
    rw [e]
    exact q
end Go.Proofs.Ytimfpbmlbihlnaa
