import Derived.Test.YtimfpbmlbihlnaaH6a
import Derived.Deep.RegionWith
namespace Go.Proofs.Ytimfpbmlbihlnaa
open Go.RowKit
set_option linter.unusedVariables false
set_option linter.unusedSimpArgs false

def cmb (i pk A B : Int) : Int := if i < pk then B + A else B
def pick (i c0 c1 c2 c3 : Int) : Int := if i = 0 then c0 else if i = 1 then c1 else if i = 2 then c2 else c3
/-- the numbers of two steps put together: m kept, g given -/
def thenR (f m g pk A0 A1 A2 A3 B0 B1 B2 B3 : Int) : HV :=
  ⟨f, m, g - m, if 0 < m then cmb 0 pk A0 B0 else 0, if 1 < m then cmb 1 pk A1 B1 else 0, if 2 < m then cmb 2 pk A2 B2 else 0, if 3 < m then cmb 3 pk A3 B3 else 0,
    if m < g then pick m (cmb 0 pk A0 B0) (cmb 1 pk A1 B1) (cmb 2 pk A2 B2) (cmb 3 pk A3 B3) else 0,
    if m + 1 < g then pick (m + 1) (cmb 0 pk A0 B0) (cmb 1 pk A1 B1) (cmb 2 pk A2 B2) (cmb 3 pk A3 B3) else 0,
    if m + 2 < g then pick (m + 2) (cmb 0 pk A0 B0) (cmb 1 pk A1 B1) (cmb 2 pk A2 B2) (cmb 3 pk A3 B3) else 0,
    if m + 3 < g then pick (m + 3) (cmb 0 pk A0 B0) (cmb 1 pk A1 B1) (cmb 2 pk A2 B2) (cmb 3 pk A3 B3) else 0⟩
end Go.Proofs.Ytimfpbmlbihlnaa
