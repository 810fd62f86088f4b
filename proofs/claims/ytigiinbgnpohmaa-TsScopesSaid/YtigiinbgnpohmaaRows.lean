/-
  No cell of these rows narrows 'for every input' (looked for: loops, veiled, ifaces, maps, wideKeys, modest, calm, conditions, laid).
  DERIVED. THE GIVEN ROWS OF THIS SEAT. 4 by the template 'for every input the law returns true; each argument reads behind the call as it read before'; 0 by the template 'total and deterministic' (their statements: YtigiinbgnpohmaaTotals.lean).
  GIVEN WITH THE SEED: the statements are not yours to turn. If you find one false, say at which input.
  Laid BY PROGRAM, IN A SANDBOX (cutbox-rows.mjs): the forced cells as the released guide's own fill.sh prints them over the translation 68b51963591f112f… (all of the seat's roots in one cut). By AI agents, Wed Nov 11 2026. No macro, syntax, notation, axiom, sorry.
-/
import Derived.Test.YtigiinbgnpohmaaChecked
import GoSem.Claim
import GoSem.ClaimJoined
import GoSem.ClaimMapViews
import Derived.JoinedTies
import Derived.KernelRfl
namespace Go.Proofs.Ytigiinbgnpohmaa
/- THE CELL 'sum', in the pinned program and in every row, IS THE sha256 OF THE DUMP (.gsa) THAT YtigiinbgnpohmaaProg.lean LOADS. Nothing in Lean hashes anything: it is a label: what it is worth is what the hold of that sum in a sandbox is worth. -/
noncomputable def Try.pinned : Pinned := { name := "ytigiinbgnpohmaa", sum := "68b51963591f112fc74583c505c9171d36153a04beb67e97e8b69dc0803dd81a", checked := Try.checked }
namespace Rows
def none {H : Type} : Left H := { results := [], args := [] }

/-- 'backwashlaw01.TsRight': WHATEVER THE INPUT: true; the input reads as it did. -/
def tsRightSpec : ChangeSpec := { name := "tsRight", fn := fun _ => fun
  | [d1, d2] => { results := [.lit (.bool true)], args := [d1, d2] }
  | _ => none }
def tsRightRow : OpenClaim := { program := "ytigiinbgnpohmaa", sum := "68b51963591f112fc74583c505c9171d36153a04beb67e97e8b69dc0803dd81a", func := "backwash/backwashlaw01.TsRight", spec := "tsRight", apart := false }
def TsRightSaid : Prop := tsRightRow.holds Try.pinned (OpenSpec.ofChange tsRightSpec)

/-- ITS FALSE NEIGHBOUR: 'it returns false'. Refute it at one input. -/
def tsRightWrong : ChangeSpec := { name := "tsRight", fn := fun _ => fun
  | [d1, d2] => { results := [.lit (.bool false)], args := [d1, d2] }
  | _ => none }
def TsRightWrongFalsely : Prop := tsRightRow.holds Try.pinned (OpenSpec.ofChange tsRightWrong)

/-- 'backwashlaw01.TsSteps': WHATEVER THE INPUT: true; the input reads as it did. -/
def tsStepsSpec : ChangeSpec := { name := "tsSteps", fn := fun _ => fun
  | [d] => { results := [.lit (.bool true)], args := [d] }
  | _ => none }
def tsStepsRow : OpenClaim := { program := "ytigiinbgnpohmaa", sum := "68b51963591f112fc74583c505c9171d36153a04beb67e97e8b69dc0803dd81a", func := "backwash/backwashlaw01.TsSteps", spec := "tsSteps", apart := false }
def TsStepsSaid : Prop := tsStepsRow.holds Try.pinned (OpenSpec.ofChange tsStepsSpec)

/-- ITS FALSE NEIGHBOUR: 'it returns false'. Refute it at one input. -/
def tsStepsWrong : ChangeSpec := { name := "tsSteps", fn := fun _ => fun
  | [d] => { results := [.lit (.bool false)], args := [d] }
  | _ => none }
def TsStepsWrongFalsely : Prop := tsStepsRow.holds Try.pinned (OpenSpec.ofChange tsStepsWrong)

/-- 'backwashlaw01.TsJoins': WHATEVER THE INPUT: true; the input reads as it did. -/
def tsJoinsSpec : ChangeSpec := { name := "tsJoins", fn := fun _ => fun
  | [d1, d2, d3] => { results := [.lit (.bool true)], args := [d1, d2, d3] }
  | _ => none }
def tsJoinsRow : OpenClaim := { program := "ytigiinbgnpohmaa", sum := "68b51963591f112fc74583c505c9171d36153a04beb67e97e8b69dc0803dd81a", func := "backwash/backwashlaw01.TsJoins", spec := "tsJoins", apart := false }
def TsJoinsSaid : Prop := tsJoinsRow.holds Try.pinned (OpenSpec.ofChange tsJoinsSpec)

/-- ITS FALSE NEIGHBOUR: 'it returns false'. Refute it at one input. -/
def tsJoinsWrong : ChangeSpec := { name := "tsJoins", fn := fun _ => fun
  | [d1, d2, d3] => { results := [.lit (.bool false)], args := [d1, d2, d3] }
  | _ => none }
def TsJoinsWrongFalsely : Prop := tsJoinsRow.holds Try.pinned (OpenSpec.ofChange tsJoinsWrong)

/-- 'backwashlaw01.TsScopes': WHATEVER THE INPUT: true; the input reads as it did. -/
def tsScopesSpec : ChangeSpec := { name := "tsScopes", fn := fun _ => fun
  | [d1, d2, d3] => { results := [.lit (.bool true)], args := [d1, d2, d3] }
  | _ => none }
def tsScopesRow : OpenClaim := { program := "ytigiinbgnpohmaa", sum := "68b51963591f112fc74583c505c9171d36153a04beb67e97e8b69dc0803dd81a", func := "backwash/backwashlaw01.TsScopes", spec := "tsScopes", apart := false }
def TsScopesSaid : Prop := tsScopesRow.holds Try.pinned (OpenSpec.ofChange tsScopesSpec)

/-- ITS FALSE NEIGHBOUR: 'it returns false'. Refute it at one input. -/
def tsScopesWrong : ChangeSpec := { name := "tsScopes", fn := fun _ => fun
  | [d1, d2, d3] => { results := [.lit (.bool false)], args := [d1, d2, d3] }
  | _ => none }
def TsScopesWrongFalsely : Prop := tsScopesRow.holds Try.pinned (OpenSpec.ofChange tsScopesWrong)

/- THE SECOND FORM. 'bulk': how many values and letters a reading holds, each counted each time it is reached (what is shared counts as often as it is met; a slice's spare places count too). A statement '..UptoSaid' is the law's where the arguments, and the package variables that the reading takes, are together of bulk at most 1048576: NARROWER than '..Said'. Prove '..Said' where nothing that the law and all that it calls make is longer than what came in: it says more and counts as full. Else prove '..UptoSaid'. A law counts once. -/
mutual
def uptoBulk {H : Type} : DataW H → Nat
  | .lit (.string bytes) => bytes.length + 1
  | .lit _ => 1
  | .nil => 1
  | .ptr d => uptoBulk d + 1
  | .slice elems spare => uptoBulkAll elems + uptoBulkAll spare + 1
  | .agg parts => uptoBulkAll parts + 1
  | .iface _ d => uptoBulk d + 1
  | .map entries => uptoBulkEntries entries + 1
  | .held _ => 1
def uptoBulkAll {H : Type} : List (DataW H) → Nat
  | [] => 0
  | d :: r => uptoBulk d + uptoBulkAll r
def uptoBulkEntries {H : Type} : List (Lit × DataW H) → Nat
  | [] => 0
  | x :: r => uptoBulkEntry x + uptoBulkEntries r
def uptoBulkEntry {H : Type} : Lit × DataW H → Nat
  | (.string bytes, d) => bytes.length + uptoBulk d + 1
  | (_, d) => uptoBulk d + 1
 end
def uptoSmall : (H : Type) → List (DataW H) → Bool := fun _ ds => decide (uptoBulkAll ds ≤ 1048576)
def OpenSpec.upto (s : _root_.Go.ChangeSpec) : _root_.Go.OpenSpec := { _root_.Go.OpenSpec.ofChange s with cond := some uptoSmall }

/-- 'backwashlaw01.TsRight', WHERE WHAT IT READS IS OF BULK AT MOST 1048576: true; the input reads as it did. -/
def tsRightUptoRow : OpenClaim := { program := "ytigiinbgnpohmaa", sum := "68b51963591f112fc74583c505c9171d36153a04beb67e97e8b69dc0803dd81a", func := "backwash/backwashlaw01.TsRight", spec := "tsRight", apart := false, narrowed := true }
def TsRightUptoSaid : Prop := tsRightUptoRow.holds Try.pinned (OpenSpec.upto tsRightSpec)

/-- 'backwashlaw01.TsSteps', WHERE WHAT IT READS IS OF BULK AT MOST 1048576: true; the input reads as it did. -/
def tsStepsUptoRow : OpenClaim := { program := "ytigiinbgnpohmaa", sum := "68b51963591f112fc74583c505c9171d36153a04beb67e97e8b69dc0803dd81a", func := "backwash/backwashlaw01.TsSteps", spec := "tsSteps", apart := false, narrowed := true }
def TsStepsUptoSaid : Prop := tsStepsUptoRow.holds Try.pinned (OpenSpec.upto tsStepsSpec)

/-- 'backwashlaw01.TsJoins', WHERE WHAT IT READS IS OF BULK AT MOST 1048576: true; the input reads as it did. -/
def tsJoinsUptoRow : OpenClaim := { program := "ytigiinbgnpohmaa", sum := "68b51963591f112fc74583c505c9171d36153a04beb67e97e8b69dc0803dd81a", func := "backwash/backwashlaw01.TsJoins", spec := "tsJoins", apart := false, narrowed := true }
def TsJoinsUptoSaid : Prop := tsJoinsUptoRow.holds Try.pinned (OpenSpec.upto tsJoinsSpec)

/-- 'backwashlaw01.TsScopes', WHERE WHAT IT READS IS OF BULK AT MOST 1048576: true; the input reads as it did. -/
def tsScopesUptoRow : OpenClaim := { program := "ytigiinbgnpohmaa", sum := "68b51963591f112fc74583c505c9171d36153a04beb67e97e8b69dc0803dd81a", func := "backwash/backwashlaw01.TsScopes", spec := "tsScopes", apart := false, narrowed := true }
def TsScopesUptoSaid : Prop := tsScopesUptoRow.holds Try.pinned (OpenSpec.upto tsScopesSpec)

end Rows
end Go.Proofs.Ytigiinbgnpohmaa
