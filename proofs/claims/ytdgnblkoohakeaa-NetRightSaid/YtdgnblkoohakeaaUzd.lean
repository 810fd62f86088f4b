/- the landed net does what the document says: NetC -/
import Derived.Test.YtdgnblkoohakeaaUzc
import Derived.Test.YtdgnblkoohakeaaUt
namespace Go.Proofs.Ytdgnblkoohakeaa
open Go.RowKit
set_option linter.unusedVariables false
set_option linter.unusedSimpArgs false

theorem netC : NetC where
  right := fun n v W hs h _ => pright_any n v W (by have := hs.1; omega) h
  len := fun n v e f t W hs h _ => plen_any n v e f t W (by have := hs.1; omega) h
  put := fun n v f t room m W hs h _ => pput_any n v f t room m W hs h
  take := fun n v e f t i W hs h _ => ptake_any n v e f t i W hs h
  all := fun n v W hs h _ => pall_any n v W hs h
end Go.Proofs.Ytdgnblkoohakeaa
