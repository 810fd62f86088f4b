import Derived.Test.YtfkjlcmmmmjbkaaHaw
import Derived.Test.YtfkjlcmmmmjbkaaH6
import Derived.Test.YtfkjlcmmmmjbkaaHt0
import Derived.Test.YtfkjlcmmmmjbkaaHt1
import Derived.Test.YtfkjlcmmmmjbkaaHt2
namespace Go.Proofs.Ytfkjlcmmmmjbkaa
open Go.RowKit
set_option linter.unusedVariables false
set_option linter.unusedSimpArgs false

theorem hopThen_calls (a b c : HV) (t : TV) (W : World) : Calls Try.prog 5 #[a.val, b.val, c.val, t.val] W (Ret (.bool true) W) := by
  cases o1 : thenOk a b
  · exact hopThen_1 a b c t _ awake_any (then_is rfl o1) W
  cases oa : applyOk a t
  · cases o2 : thenOk b c
    · exact hopThen_00 a b c t _ _ _ awake_any (then_is rfl o1) (apply_is rfl oa) (then_is rfl o2) W
    cases o3 : thenOk (thenV a b) c
    · exact hopThen_01 a b c t _ _ _ _ _ _ awake_any (then_is rfl o1) (apply_is rfl oa) (then_is rfl o2) (then_is rfl o3) (then_is rfl rfl) W
    cases o4 : thenOk a (thenV b c)
    · exact hopThen_02 a b c t _ _ _ _ _ awake_any (then_is rfl o1) (apply_is rfl oa) (then_is rfl o2) (then_is rfl o3) (then_is rfl o4) W
    · exact hopThen_03 a b c t _ _ _ _ awake_any (then_is rfl o1) (apply_is rfl oa) (then_is rfl o2) (then_is rfl o3) (then_is (then_assoc o1 o2 o3 o4).symm o4) W
  · have e := then_time o1 oa
    cases o2 : thenOk b c
    · exact hopThen_10 a b c t _ _ _ _ _ awake_any (then_is rfl o1) (apply_is rfl oa) (apply_is e.2 e.1) (apply_is rfl rfl) (then_is rfl o2) W
    cases o3 : thenOk (thenV a b) c
    · exact hopThen_11 a b c t _ _ _ _ _ _ _ _ awake_any (then_is rfl o1) (apply_is rfl oa) (apply_is e.2 e.1) (apply_is rfl rfl) (then_is rfl o2) (then_is rfl o3) (then_is rfl rfl) W
    cases o4 : thenOk a (thenV b c)
    · exact hopThen_12 a b c t _ _ _ _ _ _ _ awake_any (then_is rfl o1) (apply_is rfl oa) (apply_is e.2 e.1) (apply_is rfl rfl) (then_is rfl o2) (then_is rfl o3) (then_is rfl o4) W
    · exact hopThen_13 a b c t _ _ _ _ _ _ awake_any (then_is rfl o1) (apply_is rfl oa) (apply_is e.2 e.1) (apply_is rfl rfl) (then_is rfl o2) (then_is rfl o3) (then_is (then_assoc o1 o2 o3 o4).symm o4) W
end Go.Proofs.Ytfkjlcmmmmjbkaa
