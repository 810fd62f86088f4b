import Derived.Test.YtimfpbmlbihlnaaH6m0
import Derived.Test.YtimfpbmlbihlnaaH6m1
import Derived.Test.YtimfpbmlbihlnaaH6m2
import Derived.Test.YtimfpbmlbihlnaaH6m3
import Derived.Test.YtimfpbmlbihlnaaH6m4
import Derived.Test.YtimfpbmlbihlnaaH6y
namespace Go.Proofs.Ytimfpbmlbihlnaa
open Go.RowKit
set_option linter.unusedVariables false
set_option linter.unusedSimpArgs false

theorem then_no (a b : HV) (hy : (a.rightB && b.rightB && (a.k + a.t == b.f)) = false) (w : World) :
    Calls Try.prog 9 #[a.val, b.val] w (Ret (.tuple #[.agg #[.int .i64 0, .int .i64 0, .int .i64 0, .int .i64 0, .int .i64 0, .int .i64 0, .int .i64 0, .int .i64 0, .int .i64 0, .int .i64 0, .int .i64 0], .bool false]) w) := by
  cases ha : a.rightB
  · exact then_no1 a b ha w
  · cases hb : b.rightB
    · exact then_no2 a b ha hb w
    · rw [ha, hb] at hy
      exact then_no3 a b ha hb _ rfl (by simpa using hy) w

theorem then_yes (a b : HV) (ha : a.rightB = true) (hb : b.rightB = true) (hg : a.k + a.t = b.f) (w : World) :
    Calls Try.prog 9 #[a.val, b.val] w (Ret (.tuple #[(HV.gate (thenH a b).rightB (thenH a b)).val, .bool (thenH a b).rightB]) w) := by
  have ra := shape_of ha; have rb := shape_of hb
  have sa := right_size ra; have sb := right_size rb
  have hm : imin a.k b.k = 0 ∨ imin a.k b.k = 1 ∨ imin a.k b.k = 2 ∨ imin a.k b.k = 3 ∨ imin a.k b.k = 4 := by unfold imin; split <;> omega
  have A := fun i => at_bound ra i
  have B := fun i => at_bound rb i
  have hR : ∀ m, imin a.k b.k = m → thenH a b = thenR a.f m (b.k + b.t) b.k (a.at 0) (a.at 1) (a.at 2) (a.at 3) (b.at 0) (b.at 1) (b.at 2) (b.at 3) := fun m e => by unfold thenH; rw [e]
  rcases hm with e | e | e | e | e
  · exact then_0 a b _ ha hb hg _ rfl e _ _ (fun _ => rfl) rfl (fun _ => A 0) (B 0) _ _ (fun _ => rfl) rfl (fun _ => A 1) (B 1) _ _ (fun _ => rfl) rfl (fun _ => A 2) (B 2) _ _ (fun _ => rfl) rfl (fun _ => A 3) (B 3) (hR _ e) w
  · exact then_1 a b _ ha hb hg _ rfl e _ _ (fun _ => rfl) rfl (fun _ => A 0) (B 0) _ _ (fun _ => rfl) rfl (fun _ => A 1) (B 1) _ _ (fun _ => rfl) rfl (fun _ => A 2) (B 2) _ _ (fun _ => rfl) rfl (fun _ => A 3) (B 3) (hR _ e) w
  · exact then_2 a b _ ha hb hg _ rfl e _ _ (fun _ => rfl) rfl (fun _ => A 0) (B 0) _ _ (fun _ => rfl) rfl (fun _ => A 1) (B 1) _ _ (fun _ => rfl) rfl (fun _ => A 2) (B 2) _ _ (fun _ => rfl) rfl (fun _ => A 3) (B 3) (hR _ e) w
  · exact then_3 a b _ ha hb hg _ rfl e _ _ (fun _ => rfl) rfl (fun _ => A 0) (B 0) _ _ (fun _ => rfl) rfl (fun _ => A 1) (B 1) _ _ (fun _ => rfl) rfl (fun _ => A 2) (B 2) _ _ (fun _ => rfl) rfl (fun _ => A 3) (B 3) (hR _ e) w
  · exact then_4 a b _ ha hb hg _ rfl e _ _ (fun _ => rfl) rfl (fun _ => A 0) (B 0) _ _ (fun _ => rfl) rfl (fun _ => A 1) (B 1) _ _ (fun _ => rfl) rfl (fun _ => A 2) (B 2) _ _ (fun _ => rfl) rfl (fun _ => A 3) (B 3) (hR _ e) w

theorem then_any (a b : HV) (w : World) : Calls Try.prog 9 #[a.val, b.val] w (Ret (.tuple #[(thenV a b).val, .bool (thenOk a b)]) w) := by
  cases hy : (a.rightB && b.rightB && (a.k + a.t == b.f))
  · have hn : thenOk a b = false := by unfold thenOk; rw [hy]; rfl
    have q := then_no a b hy w
    unfold thenV
    rw [hn]
    exact q
  · simp only [Bool.and_eq_true, beq_iff_eq] at hy
    have q := then_yes a b hy.1.1 hy.1.2 hy.2 w
    have e : thenOk a b = (thenH a b).rightB := by unfold thenOk; rw [hy.1.1, hy.1.2, hy.2]; simp
    unfold thenV
    rw [e]
    exact q

/- the contracts with the answers decided beforehand -/
theorem then_is {a b x : HV} {o : Bool} (e : thenV a b = x) (h : thenOk a b = o) (W : World) : Calls Try.prog 9 #[a.val, b.val] W (Ret (.tuple #[x.val, .bool o]) W) := by subst e; subst h; exact then_any a b W
end Go.Proofs.Ytimfpbmlbihlnaa
