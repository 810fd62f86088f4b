import Derived.Test.YtfkjlcmmmmjbkaaH8
namespace Go.Proofs.Ytfkjlcmmmmjbkaa
open Go.RowKit
set_option linter.unusedVariables false
set_option linter.unusedSimpArgs false

/- the contracts with the answers decided beforehand -/
theorem apply_is {h : HV} {t x : TV} {o : Bool} (e : applyT h t = x) (k : applyOk h t = o) (W : World) : Calls Try.prog 13 #[h.val, t.val] W (Ret (.tuple #[x.val, .bool o]) W) := by subst e; subst k; exact apply_any h t W
theorem leH_is {a b : HV} {o : Bool} (h : leH a b = o) (W : World) : Calls Try.prog 18 #[a.val, b.val] W (Ret (.bool o) W) := by subst h; exact leH_any a b W
theorem leT_is {t u : TV} {o : Bool} (h : leT t u = o) (W : World) : Calls Try.prog 28 #[t.val, u.val] W (Ret (.bool o) W) := by subst h; exact le_any _ _ _ _ _ _ _ _ _ _ W
end Go.Proofs.Ytfkjlcmmmmjbkaa
