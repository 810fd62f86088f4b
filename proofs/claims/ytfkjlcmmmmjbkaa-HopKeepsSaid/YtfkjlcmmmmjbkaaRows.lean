/-
  No cell of these rows narrows 'for every input' (looked for: loops, veiled, ifaces, maps, wideKeys, modest, calm, conditions, laid).
  DERIVED. THE GIVEN ROWS OF THIS SEAT. 8 by the template 'for every input the law returns true; each argument reads behind the call as it read before'; 0 by the template 'total and deterministic' (their statements: YtfkjlcmmmmjbkaaTotals.lean).
  GIVEN WITH THE SEED: the statements are not yours to turn. If you find one false, say at which input.
  Laid BY PROGRAM, IN A SANDBOX (cutbox-rows.mjs): the forced cells as the released guide's own fill.sh prints them over the translation f1a798e0b89af749… (all of the seat's roots in one cut). By AI agents, Wed Nov 11 2026. No macro, syntax, notation, axiom, sorry.
-/
import Derived.Test.YtfkjlcmmmmjbkaaChecked
import GoSem.Claim
import GoSem.ClaimJoined
import GoSem.ClaimMapViews
import Derived.JoinedTies
import Derived.KernelRfl
namespace Go.Proofs.Ytfkjlcmmmmjbkaa
/- THE CELL 'sum', in the pinned program and in every row, IS THE sha256 OF THE DUMP (.gsa) THAT YtfkjlcmmmmjbkaaProg.lean LOADS. Nothing in Lean hashes anything: it is a label: what it is worth is what the hold of that sum in a sandbox is worth. -/
noncomputable def Try.pinned : Pinned := { name := "ytfkjlcmmmmjbkaa", sum := "f1a798e0b89af749057fde47c6c156df2649b111f5755d8d14be4ba81b3f258b", checked := Try.checked }
namespace Rows
def none {H : Type} : Left H := { results := [], args := [] }

/-- 'backwashlaw02.HopRight': WHATEVER THE INPUT: true; the input reads as it did. -/
def hopRightSpec : ChangeSpec := { name := "hopRight", fn := fun _ => fun
  | [d1, d2, d3] => { results := [.lit (.bool true)], args := [d1, d2, d3] }
  | _ => none }
def hopRightRow : OpenClaim := { program := "ytfkjlcmmmmjbkaa", sum := "f1a798e0b89af749057fde47c6c156df2649b111f5755d8d14be4ba81b3f258b", func := "backwash/backwashlaw02.HopRight", spec := "hopRight", apart := false }
def HopRightSaid : Prop := hopRightRow.holds Try.pinned (OpenSpec.ofChange hopRightSpec)

/-- ITS FALSE NEIGHBOUR: 'it returns false'. Refute it at one input. -/
def hopRightWrong : ChangeSpec := { name := "hopRight", fn := fun _ => fun
  | [d1, d2, d3] => { results := [.lit (.bool false)], args := [d1, d2, d3] }
  | _ => none }
def HopRightWrongFalsely : Prop := hopRightRow.holds Try.pinned (OpenSpec.ofChange hopRightWrong)

/-- 'backwashlaw02.HopSteps': WHATEVER THE INPUT: true; the input reads as it did. -/
def hopStepsSpec : ChangeSpec := { name := "hopSteps", fn := fun _ => fun
  | [d1, d2] => { results := [.lit (.bool true)], args := [d1, d2] }
  | _ => none }
def hopStepsRow : OpenClaim := { program := "ytfkjlcmmmmjbkaa", sum := "f1a798e0b89af749057fde47c6c156df2649b111f5755d8d14be4ba81b3f258b", func := "backwash/backwashlaw02.HopSteps", spec := "hopSteps", apart := false }
def HopStepsSaid : Prop := hopStepsRow.holds Try.pinned (OpenSpec.ofChange hopStepsSpec)

/-- ITS FALSE NEIGHBOUR: 'it returns false'. Refute it at one input. -/
def hopStepsWrong : ChangeSpec := { name := "hopSteps", fn := fun _ => fun
  | [d1, d2] => { results := [.lit (.bool false)], args := [d1, d2] }
  | _ => none }
def HopStepsWrongFalsely : Prop := hopStepsRow.holds Try.pinned (OpenSpec.ofChange hopStepsWrong)

/-- 'backwashlaw02.HopThen': WHATEVER THE INPUT: true; the input reads as it did. -/
def hopThenSpec : ChangeSpec := { name := "hopThen", fn := fun _ => fun
  | [d1, d2, d3, d4] => { results := [.lit (.bool true)], args := [d1, d2, d3, d4] }
  | _ => none }
def hopThenRow : OpenClaim := { program := "ytfkjlcmmmmjbkaa", sum := "f1a798e0b89af749057fde47c6c156df2649b111f5755d8d14be4ba81b3f258b", func := "backwash/backwashlaw02.HopThen", spec := "hopThen", apart := false }
def HopThenSaid : Prop := hopThenRow.holds Try.pinned (OpenSpec.ofChange hopThenSpec)

/-- ITS FALSE NEIGHBOUR: 'it returns false'. Refute it at one input. -/
def hopThenWrong : ChangeSpec := { name := "hopThen", fn := fun _ => fun
  | [d1, d2, d3, d4] => { results := [.lit (.bool false)], args := [d1, d2, d3, d4] }
  | _ => none }
def HopThenWrongFalsely : Prop := hopThenRow.holds Try.pinned (OpenSpec.ofChange hopThenWrong)

/-- 'backwashlaw02.HopOrder': WHATEVER THE INPUT: true; the input reads as it did. -/
def hopOrderSpec : ChangeSpec := { name := "hopOrder", fn := fun _ => fun
  | [d1, d2, d3] => { results := [.lit (.bool true)], args := [d1, d2, d3] }
  | _ => none }
def hopOrderRow : OpenClaim := { program := "ytfkjlcmmmmjbkaa", sum := "f1a798e0b89af749057fde47c6c156df2649b111f5755d8d14be4ba81b3f258b", func := "backwash/backwashlaw02.HopOrder", spec := "hopOrder", apart := false }
def HopOrderSaid : Prop := hopOrderRow.holds Try.pinned (OpenSpec.ofChange hopOrderSpec)

/-- ITS FALSE NEIGHBOUR: 'it returns false'. Refute it at one input. -/
def hopOrderWrong : ChangeSpec := { name := "hopOrder", fn := fun _ => fun
  | [d1, d2, d3] => { results := [.lit (.bool false)], args := [d1, d2, d3] }
  | _ => none }
def HopOrderWrongFalsely : Prop := hopOrderRow.holds Try.pinned (OpenSpec.ofChange hopOrderWrong)

/-- 'backwashlaw02.HopKeeps': WHATEVER THE INPUT: true; the input reads as it did. -/
def hopKeepsSpec : ChangeSpec := { name := "hopKeeps", fn := fun _ => fun
  | [d1, d2, d3, d4, d5] => { results := [.lit (.bool true)], args := [d1, d2, d3, d4, d5] }
  | _ => none }
def hopKeepsRow : OpenClaim := { program := "ytfkjlcmmmmjbkaa", sum := "f1a798e0b89af749057fde47c6c156df2649b111f5755d8d14be4ba81b3f258b", func := "backwash/backwashlaw02.HopKeeps", spec := "hopKeeps", apart := false }
def HopKeepsSaid : Prop := hopKeepsRow.holds Try.pinned (OpenSpec.ofChange hopKeepsSpec)

/-- ITS FALSE NEIGHBOUR: 'it returns false'. Refute it at one input. -/
def hopKeepsWrong : ChangeSpec := { name := "hopKeeps", fn := fun _ => fun
  | [d1, d2, d3, d4, d5] => { results := [.lit (.bool false)], args := [d1, d2, d3, d4, d5] }
  | _ => none }
def HopKeepsWrongFalsely : Prop := hopKeepsRow.holds Try.pinned (OpenSpec.ofChange hopKeepsWrong)

/-- 'backwashlaw03.ChainRight': WHATEVER THE INPUT: true; the input reads as it did. -/
def chainRightSpec : ChangeSpec := { name := "chainRight", fn := fun _ => fun
  | [d1, d2, d3] => { results := [.lit (.bool true)], args := [d1, d2, d3] }
  | _ => none }
def chainRightRow : OpenClaim := { program := "ytfkjlcmmmmjbkaa", sum := "f1a798e0b89af749057fde47c6c156df2649b111f5755d8d14be4ba81b3f258b", func := "backwash/backwashlaw03.ChainRight", spec := "chainRight", unfollowed := true, recurses := true, apart := false }
def ChainRightSaid : Prop := chainRightRow.holds Try.pinned (OpenSpec.ofChange chainRightSpec)

/-- ITS FALSE NEIGHBOUR: 'it returns false'. Refute it at one input. -/
def chainRightWrong : ChangeSpec := { name := "chainRight", fn := fun _ => fun
  | [d1, d2, d3] => { results := [.lit (.bool false)], args := [d1, d2, d3] }
  | _ => none }
def ChainRightWrongFalsely : Prop := chainRightRow.holds Try.pinned (OpenSpec.ofChange chainRightWrong)

/-- 'backwashlaw03.ChainLowest': WHATEVER THE INPUT: true; the input reads as it did. -/
def chainLowestSpec : ChangeSpec := { name := "chainLowest", fn := fun _ => fun
  | [d1, d2] => { results := [.lit (.bool true)], args := [d1, d2] }
  | _ => none }
def chainLowestRow : OpenClaim := { program := "ytfkjlcmmmmjbkaa", sum := "f1a798e0b89af749057fde47c6c156df2649b111f5755d8d14be4ba81b3f258b", func := "backwash/backwashlaw03.ChainLowest", spec := "chainLowest", unfollowed := true, recurses := true, apart := false }
def ChainLowestSaid : Prop := chainLowestRow.holds Try.pinned (OpenSpec.ofChange chainLowestSpec)

/-- ITS FALSE NEIGHBOUR: 'it returns false'. Refute it at one input. -/
def chainLowestWrong : ChangeSpec := { name := "chainLowest", fn := fun _ => fun
  | [d1, d2] => { results := [.lit (.bool false)], args := [d1, d2] }
  | _ => none }
def ChainLowestWrongFalsely : Prop := chainLowestRow.holds Try.pinned (OpenSpec.ofChange chainLowestWrong)

/-- 'backwashlaw03.ChainOrder': WHATEVER THE INPUT: true; the input reads as it did. -/
def chainOrderSpec : ChangeSpec := { name := "chainOrder", fn := fun _ => fun
  | [d1, d2, d3] => { results := [.lit (.bool true)], args := [d1, d2, d3] }
  | _ => none }
def chainOrderRow : OpenClaim := { program := "ytfkjlcmmmmjbkaa", sum := "f1a798e0b89af749057fde47c6c156df2649b111f5755d8d14be4ba81b3f258b", func := "backwash/backwashlaw03.ChainOrder", spec := "chainOrder", unfollowed := true, recurses := true, apart := false }
def ChainOrderSaid : Prop := chainOrderRow.holds Try.pinned (OpenSpec.ofChange chainOrderSpec)

/-- ITS FALSE NEIGHBOUR: 'it returns false'. Refute it at one input. -/
def chainOrderWrong : ChangeSpec := { name := "chainOrder", fn := fun _ => fun
  | [d1, d2, d3] => { results := [.lit (.bool false)], args := [d1, d2, d3] }
  | _ => none }
def ChainOrderWrongFalsely : Prop := chainOrderRow.holds Try.pinned (OpenSpec.ofChange chainOrderWrong)

/- THE SECOND FORM. 'bulk': how many values and letters a reading holds, each counted each time it is reached (what is shared counts as often as it is met; a slice's spare places count too). A statement '..UptoSaid' is the law's where the arguments, and the package variables that the reading takes, are together of bulk at most 1048576: NARROWER than '..Said'. Prove '..Said' where nothing that the law and all that it calls make is longer than what came in: it says more and counts as full. Else prove '..UptoSaid'. A law counts once. -/
mutual
def uptoBulk {H : Type} : DataW H → Nat
  | .lit (.string bytes) => bytes.length + 1
  | .lit _ => 1
  | .nil => 1
  | .ptr d => uptoBulk d + 1
  | .slice elems spare => uptoBulkAll elems + uptoBulkAll spare + 1
  | .agg parts => uptoBulkAll parts + 1
  | .iface _ d => uptoBulk d + 1
  | .map entries => uptoBulkEntries entries + 1
  | .held _ => 1
def uptoBulkAll {H : Type} : List (DataW H) → Nat
  | [] => 0
  | d :: r => uptoBulk d + uptoBulkAll r
def uptoBulkEntries {H : Type} : List (Lit × DataW H) → Nat
  | [] => 0
  | x :: r => uptoBulkEntry x + uptoBulkEntries r
def uptoBulkEntry {H : Type} : Lit × DataW H → Nat
  | (.string bytes, d) => bytes.length + uptoBulk d + 1
  | (_, d) => uptoBulk d + 1
 end
def uptoSmall : (H : Type) → List (DataW H) → Bool := fun _ ds => decide (uptoBulkAll ds ≤ 1048576)
def OpenSpec.upto (s : _root_.Go.ChangeSpec) : _root_.Go.OpenSpec := { _root_.Go.OpenSpec.ofChange s with cond := some uptoSmall }

/-- 'backwashlaw02.HopRight', WHERE WHAT IT READS IS OF BULK AT MOST 1048576: true; the input reads as it did. -/
def hopRightUptoRow : OpenClaim := { program := "ytfkjlcmmmmjbkaa", sum := "f1a798e0b89af749057fde47c6c156df2649b111f5755d8d14be4ba81b3f258b", func := "backwash/backwashlaw02.HopRight", spec := "hopRight", apart := false, narrowed := true }
def HopRightUptoSaid : Prop := hopRightUptoRow.holds Try.pinned (OpenSpec.upto hopRightSpec)

/-- 'backwashlaw02.HopSteps', WHERE WHAT IT READS IS OF BULK AT MOST 1048576: true; the input reads as it did. -/
def hopStepsUptoRow : OpenClaim := { program := "ytfkjlcmmmmjbkaa", sum := "f1a798e0b89af749057fde47c6c156df2649b111f5755d8d14be4ba81b3f258b", func := "backwash/backwashlaw02.HopSteps", spec := "hopSteps", apart := false, narrowed := true }
def HopStepsUptoSaid : Prop := hopStepsUptoRow.holds Try.pinned (OpenSpec.upto hopStepsSpec)

/-- 'backwashlaw02.HopThen', WHERE WHAT IT READS IS OF BULK AT MOST 1048576: true; the input reads as it did. -/
def hopThenUptoRow : OpenClaim := { program := "ytfkjlcmmmmjbkaa", sum := "f1a798e0b89af749057fde47c6c156df2649b111f5755d8d14be4ba81b3f258b", func := "backwash/backwashlaw02.HopThen", spec := "hopThen", apart := false, narrowed := true }
def HopThenUptoSaid : Prop := hopThenUptoRow.holds Try.pinned (OpenSpec.upto hopThenSpec)

/-- 'backwashlaw02.HopOrder', WHERE WHAT IT READS IS OF BULK AT MOST 1048576: true; the input reads as it did. -/
def hopOrderUptoRow : OpenClaim := { program := "ytfkjlcmmmmjbkaa", sum := "f1a798e0b89af749057fde47c6c156df2649b111f5755d8d14be4ba81b3f258b", func := "backwash/backwashlaw02.HopOrder", spec := "hopOrder", apart := false, narrowed := true }
def HopOrderUptoSaid : Prop := hopOrderUptoRow.holds Try.pinned (OpenSpec.upto hopOrderSpec)

/-- 'backwashlaw02.HopKeeps', WHERE WHAT IT READS IS OF BULK AT MOST 1048576: true; the input reads as it did. -/
def hopKeepsUptoRow : OpenClaim := { program := "ytfkjlcmmmmjbkaa", sum := "f1a798e0b89af749057fde47c6c156df2649b111f5755d8d14be4ba81b3f258b", func := "backwash/backwashlaw02.HopKeeps", spec := "hopKeeps", apart := false, narrowed := true }
def HopKeepsUptoSaid : Prop := hopKeepsUptoRow.holds Try.pinned (OpenSpec.upto hopKeepsSpec)

/-- 'backwashlaw03.ChainRight', WHERE WHAT IT READS IS OF BULK AT MOST 1048576: true; the input reads as it did. -/
def chainRightUptoRow : OpenClaim := { program := "ytfkjlcmmmmjbkaa", sum := "f1a798e0b89af749057fde47c6c156df2649b111f5755d8d14be4ba81b3f258b", func := "backwash/backwashlaw03.ChainRight", spec := "chainRight", unfollowed := true, recurses := true, apart := false, narrowed := true }
def ChainRightUptoSaid : Prop := chainRightUptoRow.holds Try.pinned (OpenSpec.upto chainRightSpec)

/-- 'backwashlaw03.ChainLowest', WHERE WHAT IT READS IS OF BULK AT MOST 1048576: true; the input reads as it did. -/
def chainLowestUptoRow : OpenClaim := { program := "ytfkjlcmmmmjbkaa", sum := "f1a798e0b89af749057fde47c6c156df2649b111f5755d8d14be4ba81b3f258b", func := "backwash/backwashlaw03.ChainLowest", spec := "chainLowest", unfollowed := true, recurses := true, apart := false, narrowed := true }
def ChainLowestUptoSaid : Prop := chainLowestUptoRow.holds Try.pinned (OpenSpec.upto chainLowestSpec)

/-- 'backwashlaw03.ChainOrder', WHERE WHAT IT READS IS OF BULK AT MOST 1048576: true; the input reads as it did. -/
def chainOrderUptoRow : OpenClaim := { program := "ytfkjlcmmmmjbkaa", sum := "f1a798e0b89af749057fde47c6c156df2649b111f5755d8d14be4ba81b3f258b", func := "backwash/backwashlaw03.ChainOrder", spec := "chainOrder", unfollowed := true, recurses := true, apart := false, narrowed := true }
def ChainOrderUptoSaid : Prop := chainOrderUptoRow.holds Try.pinned (OpenSpec.upto chainOrderSpec)

end Rows
end Go.Proofs.Ytfkjlcmmmmjbkaa
