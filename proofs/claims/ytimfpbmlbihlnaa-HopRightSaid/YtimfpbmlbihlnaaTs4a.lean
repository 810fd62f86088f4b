import Derived.Test.YtimfpbmlbihlnaaTs3
namespace Go.Proofs.Ytimfpbmlbihlnaa
open Go.RowKit
set_option linter.unusedVariables false
set_option linter.unusedSimpArgs false
attribute [local go_sem] ix4_0 ix4_1 ix4_2 ix4_3
attribute [local go_sem ↓] run_imax run_imin

def stepV (ok : Bool) (d c0 c1 c2 c3 : Int) : Value :=
  .tuple #[.agg #[.int .i64 (gate ok d), .int .i64 (gate ok c0), .int .i64 (gate ok c1), .int .i64 (gate ok c2), .int .i64 (gate ok c3)], .bool ok]
/-- of a right timestamp: its coordinates' numbers -/
theorem right_of {d c0 c1 c2 c3 : Int} (h : rightB d c0 c1 c2 c3 = true) : rightP d c0 c1 c2 c3 := of_decide_eq_true h
def enterB (d c0 c1 c2 c3 : Int) : Bool := rightB d c0 c1 c2 c3 && !(d == 4)
def leaveB (d c0 c1 c2 c3 : Int) : Bool := rightB d c0 c1 c2 c3 && !(d == 1)
/-- the number of the last coordinate -/
def lastOf (d c0 c1 c2 c3 : Int) : Int := if d = 1 then c0 else if d = 2 then c1 else if d = 3 then c2 else c3
def nextB (d c0 c1 c2 c3 : Int) : Bool := rightB d c0 c1 c2 c3 && !(lastOf d c0 c1 c2 c3 == greatestS d (d - 1))
def leftV (d c0 c1 c2 c3 : Int) : Value := stepV (leaveB d c0 c1 c2 c3) (d - 1) (if d = 1 then 0 else c0) (if d = 2 then 0 else c1) (if d = 3 then 0 else c2) (if d = 4 then 0 else c3)
def nextV (d c0 c1 c2 c3 : Int) : Value := stepV (nextB d c0 c1 c2 c3) d (if d = 1 then c0 + 1 else c0) (if d = 2 then c1 + 1 else c1) (if d = 3 then c2 + 1 else c2) (if d = 4 then c3 + 1 else c3)
end Go.Proofs.Ytimfpbmlbihlnaa
