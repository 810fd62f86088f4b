import Derived.Test.YtfkjlcmmmmjbkaaHaw
import Derived.Test.YtfkjlcmmmmjbkaaH6
import Derived.Test.YtfkjlcmmmmjbkaaHk0
import Derived.Test.YtfkjlcmmmmjbkaaHk1
import Derived.Test.YtfkjlcmmmmjbkaaHk2
namespace Go.Proofs.Ytfkjlcmmmmjbkaa
open Go.RowKit
set_option linter.unusedVariables false
set_option linter.unusedSimpArgs false

theorem hopKeeps_calls (a b c : HV) (t u : TV) (W : World) : Calls Try.prog 7 #[a.val, b.val, c.val, t.val, u.val] W (Ret (.bool true) W) := by
  cases l1 : leT t u
  · exact hopKeeps_0 a b c t u _ _ _ _ _ _ _ _ _ awake_any (leT_is l1) (leH_is rfl) (then_is rfl rfl) (then_is rfl rfl) (fun l p q => leH_is (keeps_left l p q)) (then_is rfl rfl) (then_is rfl rfl) (fun l p q => leH_is (keeps_right l p q)) W
  cases ou : applyOk a u
  · exact hopKeeps_1 a b c t u _ _ _ _ _ _ _ _ _ _ _ _ awake_any (leT_is l1) (apply_is rfl rfl) (apply_is rfl ou) (leH_is rfl) (then_is rfl rfl) (then_is rfl rfl) (fun l p q => leH_is (keeps_left l p q)) (then_is rfl rfl) (then_is rfl rfl) (fun l p q => leH_is (keeps_right l p q)) W
  have k := keeps_time l1 ou
  exact hopKeeps_2 a b c t u _ _ _ _ _ _ _ _ _ _ _ awake_any (leT_is l1) (apply_is rfl k.1) (apply_is rfl ou) (leT_is k.2) (leH_is rfl) (then_is rfl rfl) (then_is rfl rfl) (fun l p q => leH_is (keeps_left l p q)) (then_is rfl rfl) (then_is rfl rfl) (fun l p q => leH_is (keeps_right l p q)) W
end Go.Proofs.Ytfkjlcmmmmjbkaa
