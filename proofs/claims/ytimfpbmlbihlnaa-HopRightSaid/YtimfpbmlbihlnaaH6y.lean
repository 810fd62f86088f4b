import Derived.Test.YtimfpbmlbihlnaaH8
namespace Go.Proofs.Ytimfpbmlbihlnaa
open Go.RowKit
set_option linter.unusedVariables false
set_option linter.unusedSimpArgs false

/- the contracts with the answers decided beforehand -/
theorem apply_is {h : HV} {t x : TV} {o : Bool} (e : applyT h t = x) (k : applyOk h t = o) (W : World) : Calls Try.prog 6 #[h.val, t.val] W (Ret (.tuple #[x.val, .bool o]) W) := by subst e; subst k; exact apply_any h t W
theorem leH_is {a b : HV} {o : Bool} (h : leH a b = o) (W : World) : Calls Try.prog 11 #[a.val, b.val] W (Ret (.bool o) W) := by subst h; exact leH_any a b W
end Go.Proofs.Ytimfpbmlbihlnaa
