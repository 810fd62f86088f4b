/-
  No cell of these rows narrows 'for every input' (looked for: loops, veiled, ifaces, maps, wideKeys, modest, calm, conditions, laid).
  DERIVED. THE GIVEN ROWS OF THIS SEAT. 5 by the template 'for every input the law returns true; each argument reads behind the call as it read before'; 0 by the template 'total and deterministic' (their statements: YthhceggcdaljdaaGreatTotals.lean).
  GIVEN WITH THE SEED: the statements are not yours to turn. If you find one false, say at which input.
  Laid BY PROGRAM, IN A SANDBOX (cutbox-rows.mjs): the forced cells as the released guide's own fill.sh prints them over the translation 1dfffc5de914ac3f… (all of the seat's roots in one cut). By AI agents, Wed Nov 11 2026. No macro, syntax, notation, axiom, sorry.
-/
import Derived.Test.YthhceggcdaljdaaGreatChecked
import GoSem.Claim
import GoSem.ClaimJoined
import GoSem.ClaimMapViews
import Derived.JoinedTies
import Derived.KernelRfl
namespace Go.Proofs.YthhceggcdaljdaaGreat
/- THE CELL 'sum', in the pinned program and in every row, IS THE sha256 OF THE DUMP (.gsa) THAT YthhceggcdaljdaaGreatProg.lean LOADS. Nothing in Lean hashes anything: it is a label: what it is worth is what the hold of that sum in a sandbox is worth. -/
noncomputable def Tryz.pinned : Pinned := { name := "ythhceggcdaljdaagreat", sum := "1dfffc5de914ac3fae30b05882770889513d2b9a0a4db747cc1ed684b71559a2", checked := Tryz.checked }
namespace Rows
def none {H : Type} : Left H := { results := [], args := [] }

/-- 'backwashlaw15.CellComes': WHATEVER THE INPUT: true; the input reads as it did. -/
def cellComesSpec : ChangeSpec := { name := "cellComes", fn := fun _ => fun
  | [d1, d2, d3, d4, d5, d6] => { results := [.lit (.bool true)], args := [d1, d2, d3, d4, d5, d6] }
  | _ => none }
def cellComesRow : OpenClaim := { program := "ythhceggcdaljdaagreat", sum := "1dfffc5de914ac3fae30b05882770889513d2b9a0a4db747cc1ed684b71559a2", func := "backwash/backwashlaw15.CellComes", spec := "cellComes", inPlace := ["slices.overlaps[backwash/api.Slot]", "math/bits.Add64"], unfollowed := true, recurses := true, apart := false }
def CellComesSaid : Prop := cellComesRow.holds Tryz.pinned (OpenSpec.ofChange cellComesSpec)

/-- ITS FALSE NEIGHBOUR: 'it returns false'. Refute it at one input. -/
def cellComesWrong : ChangeSpec := { name := "cellComes", fn := fun _ => fun
  | [d1, d2, d3, d4, d5, d6] => { results := [.lit (.bool false)], args := [d1, d2, d3, d4, d5, d6] }
  | _ => none }
def CellComesWrongFalsely : Prop := cellComesRow.holds Tryz.pinned (OpenSpec.ofChange cellComesWrong)

/-- 'backwashlaw15.CellSettles': WHATEVER THE INPUT: true; the input reads as it did. -/
def cellSettlesSpec : ChangeSpec := { name := "cellSettles", fn := fun _ => fun
  | [d1, d2, d3] => { results := [.lit (.bool true)], args := [d1, d2, d3] }
  | _ => none }
def cellSettlesRow : OpenClaim := { program := "ythhceggcdaljdaagreat", sum := "1dfffc5de914ac3fae30b05882770889513d2b9a0a4db747cc1ed684b71559a2", func := "backwash/backwashlaw15.CellSettles", spec := "cellSettles", inPlace := ["slices.overlaps[backwash/api.Slot]", "math/bits.Add64"], unfollowed := true, recurses := true, apart := false }
def CellSettlesSaid : Prop := cellSettlesRow.holds Tryz.pinned (OpenSpec.ofChange cellSettlesSpec)

/-- ITS FALSE NEIGHBOUR: 'it returns false'. Refute it at one input. -/
def cellSettlesWrong : ChangeSpec := { name := "cellSettles", fn := fun _ => fun
  | [d1, d2, d3] => { results := [.lit (.bool false)], args := [d1, d2, d3] }
  | _ => none }
def CellSettlesWrongFalsely : Prop := cellSettlesRow.holds Tryz.pinned (OpenSpec.ofChange cellSettlesWrong)

/-- 'backwashlaw16.UnitComes': WHATEVER THE INPUT: true; the input reads as it did. -/
def unitComesSpec : ChangeSpec := { name := "unitComes", fn := fun _ => fun
  | [d1, d2, d3, d4, d5] => { results := [.lit (.bool true)], args := [d1, d2, d3, d4, d5] }
  | _ => none }
def unitComesRow : OpenClaim := { program := "ythhceggcdaljdaagreat", sum := "1dfffc5de914ac3fae30b05882770889513d2b9a0a4db747cc1ed684b71559a2", func := "backwash/backwashlaw16.UnitComes", spec := "unitComes", inPlace := ["slices.overlaps[backwash/api.Slot]", "math/bits.Add64"], unfollowed := true, recurses := true, apart := false }
def UnitComesSaid : Prop := unitComesRow.holds Tryz.pinned (OpenSpec.ofChange unitComesSpec)

/-- ITS FALSE NEIGHBOUR: 'it returns false'. Refute it at one input. -/
def unitComesWrong : ChangeSpec := { name := "unitComes", fn := fun _ => fun
  | [d1, d2, d3, d4, d5] => { results := [.lit (.bool false)], args := [d1, d2, d3, d4, d5] }
  | _ => none }
def UnitComesWrongFalsely : Prop := unitComesRow.holds Tryz.pinned (OpenSpec.ofChange unitComesWrong)

/-- 'backwashlaw16.UnitSends': WHATEVER THE INPUT: true; the input reads as it did. -/
def unitSendsSpec : ChangeSpec := { name := "unitSends", fn := fun _ => fun
  | [d1, d2, d3, d4, d5] => { results := [.lit (.bool true)], args := [d1, d2, d3, d4, d5] }
  | _ => none }
def unitSendsRow : OpenClaim := { program := "ythhceggcdaljdaagreat", sum := "1dfffc5de914ac3fae30b05882770889513d2b9a0a4db747cc1ed684b71559a2", func := "backwash/backwashlaw16.UnitSends", spec := "unitSends", inPlace := ["slices.overlaps[backwash/api.Slot]", "math/bits.Add64"], unfollowed := true, recurses := true, apart := false }
def UnitSendsSaid : Prop := unitSendsRow.holds Tryz.pinned (OpenSpec.ofChange unitSendsSpec)

/-- ITS FALSE NEIGHBOUR: 'it returns false'. Refute it at one input. -/
def unitSendsWrong : ChangeSpec := { name := "unitSends", fn := fun _ => fun
  | [d1, d2, d3, d4, d5] => { results := [.lit (.bool false)], args := [d1, d2, d3, d4, d5] }
  | _ => none }
def UnitSendsWrongFalsely : Prop := unitSendsRow.holds Tryz.pinned (OpenSpec.ofChange unitSendsWrong)

/-- 'backwashlaw16.UnitTurns': WHATEVER THE INPUT: true; the input reads as it did. -/
def unitTurnsSpec : ChangeSpec := { name := "unitTurns", fn := fun _ => fun
  | [d1, d2] => { results := [.lit (.bool true)], args := [d1, d2] }
  | _ => none }
def unitTurnsRow : OpenClaim := { program := "ythhceggcdaljdaagreat", sum := "1dfffc5de914ac3fae30b05882770889513d2b9a0a4db747cc1ed684b71559a2", func := "backwash/backwashlaw16.UnitTurns", spec := "unitTurns", inPlace := ["slices.overlaps[backwash/api.Slot]", "math/bits.Add64"], unfollowed := true, recurses := true, apart := false }
def UnitTurnsSaid : Prop := unitTurnsRow.holds Tryz.pinned (OpenSpec.ofChange unitTurnsSpec)

/-- ITS FALSE NEIGHBOUR: 'it returns false'. Refute it at one input. -/
def unitTurnsWrong : ChangeSpec := { name := "unitTurns", fn := fun _ => fun
  | [d1, d2] => { results := [.lit (.bool false)], args := [d1, d2] }
  | _ => none }
def UnitTurnsWrongFalsely : Prop := unitTurnsRow.holds Tryz.pinned (OpenSpec.ofChange unitTurnsWrong)

/- THE SECOND FORM. 'bulk': how many values and letters a reading holds, each counted each time it is reached (what is shared counts as often as it is met; a slice's spare places count too). A statement '..UptoSaid' is the law's where the arguments, and the package variables that the reading takes, are together of bulk at most 1048576: NARROWER than '..Said'. Prove '..Said' where nothing that the law and all that it calls make is longer than what came in: it says more and counts as full. Else prove '..UptoSaid'. A law counts once. -/
mutual
def uptoBulk {H : Type} : DataW H → Nat
  | .lit (.string bytes) => bytes.length + 1
  | .lit _ => 1
  | .nil => 1
  | .ptr d => uptoBulk d + 1
  | .slice elems spare => uptoBulkAll elems + uptoBulkAll spare + 1
  | .agg parts => uptoBulkAll parts + 1
  | .iface _ d => uptoBulk d + 1
  | .map entries => uptoBulkEntries entries + 1
  | .held _ => 1
def uptoBulkAll {H : Type} : List (DataW H) → Nat
  | [] => 0
  | d :: r => uptoBulk d + uptoBulkAll r
def uptoBulkEntries {H : Type} : List (Lit × DataW H) → Nat
  | [] => 0
  | x :: r => uptoBulkEntry x + uptoBulkEntries r
def uptoBulkEntry {H : Type} : Lit × DataW H → Nat
  | (.string bytes, d) => bytes.length + uptoBulk d + 1
  | (_, d) => uptoBulk d + 1
 end
def uptoSmall : (H : Type) → List (DataW H) → Bool := fun _ ds => decide (uptoBulkAll ds ≤ 1048576)
def OpenSpec.upto (s : _root_.Go.ChangeSpec) : _root_.Go.OpenSpec := { _root_.Go.OpenSpec.ofChange s with cond := some uptoSmall }

/-- 'backwashlaw15.CellComes', WHERE WHAT IT READS IS OF BULK AT MOST 1048576: true; the input reads as it did. -/
def cellComesUptoRow : OpenClaim := { program := "ythhceggcdaljdaagreat", sum := "1dfffc5de914ac3fae30b05882770889513d2b9a0a4db747cc1ed684b71559a2", func := "backwash/backwashlaw15.CellComes", spec := "cellComes", inPlace := ["slices.overlaps[backwash/api.Slot]", "math/bits.Add64"], unfollowed := true, recurses := true, apart := false, narrowed := true }
def CellComesUptoSaid : Prop := cellComesUptoRow.holds Tryz.pinned (OpenSpec.upto cellComesSpec)

/-- 'backwashlaw15.CellSettles', WHERE WHAT IT READS IS OF BULK AT MOST 1048576: true; the input reads as it did. -/
def cellSettlesUptoRow : OpenClaim := { program := "ythhceggcdaljdaagreat", sum := "1dfffc5de914ac3fae30b05882770889513d2b9a0a4db747cc1ed684b71559a2", func := "backwash/backwashlaw15.CellSettles", spec := "cellSettles", inPlace := ["slices.overlaps[backwash/api.Slot]", "math/bits.Add64"], unfollowed := true, recurses := true, apart := false, narrowed := true }
def CellSettlesUptoSaid : Prop := cellSettlesUptoRow.holds Tryz.pinned (OpenSpec.upto cellSettlesSpec)

/-- 'backwashlaw16.UnitComes', WHERE WHAT IT READS IS OF BULK AT MOST 1048576: true; the input reads as it did. -/
def unitComesUptoRow : OpenClaim := { program := "ythhceggcdaljdaagreat", sum := "1dfffc5de914ac3fae30b05882770889513d2b9a0a4db747cc1ed684b71559a2", func := "backwash/backwashlaw16.UnitComes", spec := "unitComes", inPlace := ["slices.overlaps[backwash/api.Slot]", "math/bits.Add64"], unfollowed := true, recurses := true, apart := false, narrowed := true }
def UnitComesUptoSaid : Prop := unitComesUptoRow.holds Tryz.pinned (OpenSpec.upto unitComesSpec)

/-- 'backwashlaw16.UnitSends', WHERE WHAT IT READS IS OF BULK AT MOST 1048576: true; the input reads as it did. -/
def unitSendsUptoRow : OpenClaim := { program := "ythhceggcdaljdaagreat", sum := "1dfffc5de914ac3fae30b05882770889513d2b9a0a4db747cc1ed684b71559a2", func := "backwash/backwashlaw16.UnitSends", spec := "unitSends", inPlace := ["slices.overlaps[backwash/api.Slot]", "math/bits.Add64"], unfollowed := true, recurses := true, apart := false, narrowed := true }
def UnitSendsUptoSaid : Prop := unitSendsUptoRow.holds Tryz.pinned (OpenSpec.upto unitSendsSpec)

/-- 'backwashlaw16.UnitTurns', WHERE WHAT IT READS IS OF BULK AT MOST 1048576: true; the input reads as it did. -/
def unitTurnsUptoRow : OpenClaim := { program := "ythhceggcdaljdaagreat", sum := "1dfffc5de914ac3fae30b05882770889513d2b9a0a4db747cc1ed684b71559a2", func := "backwash/backwashlaw16.UnitTurns", spec := "unitTurns", inPlace := ["slices.overlaps[backwash/api.Slot]", "math/bits.Add64"], unfollowed := true, recurses := true, apart := false, narrowed := true }
def UnitTurnsUptoSaid : Prop := unitTurnsUptoRow.holds Tryz.pinned (OpenSpec.upto unitTurnsSpec)

end Rows
end Go.Proofs.YthhceggcdaljdaaGreat
