/-
  No cell of these rows narrows 'for every input' (looked for: loops, veiled, ifaces, maps, wideKeys, modest, calm, conditions, laid).
  DERIVED. THE GIVEN ROWS OF THIS SEAT. 3 by the template 'for every input the law returns true; each argument reads behind the call as it read before'; 0 by the template 'total and deterministic' (their statements: YtcaolilhemamiaaTotals.lean).
  GIVEN WITH THE SEED: the statements are not yours to turn. If you find one false, say at which input.
  Laid BY PROGRAM, IN A SANDBOX (cutbox-rows.mjs): the forced cells as the released guide's own fill.sh prints them over the translation beca11abb23ede1a… (all of the seat's roots in one cut). By AI agents, Wed Nov 11 2026. No macro, syntax, notation, axiom, sorry.
-/
import Derived.Test.YtcaolilhemamiaaChecked
import GoSem.Claim
import GoSem.ClaimJoined
import GoSem.ClaimMapViews
import Derived.JoinedTies
import Derived.KernelRfl
namespace Go.Proofs.Ytcaolilhemamiaa
/- THE CELL 'sum', in the pinned program and in every row, IS THE sha256 OF THE DUMP (.gsa) THAT YtcaolilhemamiaaProg.lean LOADS. Nothing in Lean hashes anything: it is a label: what it is worth is what the hold of that sum in a sandbox is worth. -/
noncomputable def Try.pinned : Pinned := { name := "ytcaolilhemamiaa", sum := "beca11abb23ede1acff773562a61b2843c421a6bf43294861c49fdda0cb4a54c", checked := Try.checked }
namespace Rows
def none {H : Type} : Left H := { results := [], args := [] }

/-- 'backwashlaw02.HopRight': WHATEVER THE INPUT: true; the input reads as it did. -/
def hopRightSpec : ChangeSpec := { name := "hopRight", fn := fun _ => fun
  | [d1, d2, d3] => { results := [.lit (.bool true)], args := [d1, d2, d3] }
  | _ => none }
def hopRightRow : OpenClaim := { program := "ytcaolilhemamiaa", sum := "beca11abb23ede1acff773562a61b2843c421a6bf43294861c49fdda0cb4a54c", func := "backwash/backwashlaw02.HopRight", spec := "hopRight", apart := false }
def HopRightSaid : Prop := hopRightRow.holds Try.pinned (OpenSpec.ofChange hopRightSpec)

/-- ITS FALSE NEIGHBOUR: 'it returns false'. Refute it at one input. -/
def hopRightWrong : ChangeSpec := { name := "hopRight", fn := fun _ => fun
  | [d1, d2, d3] => { results := [.lit (.bool false)], args := [d1, d2, d3] }
  | _ => none }
def HopRightWrongFalsely : Prop := hopRightRow.holds Try.pinned (OpenSpec.ofChange hopRightWrong)

/-- 'backwashlaw03.ChainRight': WHATEVER THE INPUT: true; the input reads as it did. -/
def chainRightSpec : ChangeSpec := { name := "chainRight", fn := fun _ => fun
  | [d1, d2, d3] => { results := [.lit (.bool true)], args := [d1, d2, d3] }
  | _ => none }
def chainRightRow : OpenClaim := { program := "ytcaolilhemamiaa", sum := "beca11abb23ede1acff773562a61b2843c421a6bf43294861c49fdda0cb4a54c", func := "backwash/backwashlaw03.ChainRight", spec := "chainRight", unfollowed := true, recurses := true, apart := false }
def ChainRightSaid : Prop := chainRightRow.holds Try.pinned (OpenSpec.ofChange chainRightSpec)

/-- ITS FALSE NEIGHBOUR: 'it returns false'. Refute it at one input. -/
def chainRightWrong : ChangeSpec := { name := "chainRight", fn := fun _ => fun
  | [d1, d2, d3] => { results := [.lit (.bool false)], args := [d1, d2, d3] }
  | _ => none }
def ChainRightWrongFalsely : Prop := chainRightRow.holds Try.pinned (OpenSpec.ofChange chainRightWrong)

/-- 'backwashlaw04.FrontRight': WHATEVER THE INPUT: true; the input reads as it did. -/
def frontRightSpec : ChangeSpec := { name := "frontRight", fn := fun _ => fun
  | [d1, d2, d3, d4] => { results := [.lit (.bool true)], args := [d1, d2, d3, d4] }
  | _ => none }
def frontRightRow : OpenClaim := { program := "ytcaolilhemamiaa", sum := "beca11abb23ede1acff773562a61b2843c421a6bf43294861c49fdda0cb4a54c", func := "backwash/backwashlaw04.FrontRight", spec := "frontRight", unfollowed := true, recurses := true, apart := false }
def FrontRightSaid : Prop := frontRightRow.holds Try.pinned (OpenSpec.ofChange frontRightSpec)

/-- ITS FALSE NEIGHBOUR: 'it returns false'. Refute it at one input. -/
def frontRightWrong : ChangeSpec := { name := "frontRight", fn := fun _ => fun
  | [d1, d2, d3, d4] => { results := [.lit (.bool false)], args := [d1, d2, d3, d4] }
  | _ => none }
def FrontRightWrongFalsely : Prop := frontRightRow.holds Try.pinned (OpenSpec.ofChange frontRightWrong)

/- THE SECOND FORM. 'bulk': how many values and letters a reading holds, each counted each time it is reached (what is shared counts as often as it is met; a slice's spare places count too). A statement '..UptoSaid' is the law's where the arguments, and the package variables that the reading takes, are together of bulk at most 1048576: NARROWER than '..Said'. Prove '..Said' where nothing that the law and all that it calls make is longer than what came in: it says more and counts as full. Else prove '..UptoSaid'. A law counts once. -/
mutual
def uptoBulk {H : Type} : DataW H → Nat
  | .lit (.string bytes) => bytes.length + 1
  | .lit _ => 1
  | .nil => 1
  | .ptr d => uptoBulk d + 1
  | .slice elems spare => uptoBulkAll elems + uptoBulkAll spare + 1
  | .agg parts => uptoBulkAll parts + 1
  | .iface _ d => uptoBulk d + 1
  | .map entries => uptoBulkEntries entries + 1
  | .held _ => 1
def uptoBulkAll {H : Type} : List (DataW H) → Nat
  | [] => 0
  | d :: r => uptoBulk d + uptoBulkAll r
def uptoBulkEntries {H : Type} : List (Lit × DataW H) → Nat
  | [] => 0
  | x :: r => uptoBulkEntry x + uptoBulkEntries r
def uptoBulkEntry {H : Type} : Lit × DataW H → Nat
  | (.string bytes, d) => bytes.length + uptoBulk d + 1
  | (_, d) => uptoBulk d + 1
 end
def uptoSmall : (H : Type) → List (DataW H) → Bool := fun _ ds => decide (uptoBulkAll ds ≤ 1048576)
def OpenSpec.upto (s : _root_.Go.ChangeSpec) : _root_.Go.OpenSpec := { _root_.Go.OpenSpec.ofChange s with cond := some uptoSmall }

/-- 'backwashlaw02.HopRight', WHERE WHAT IT READS IS OF BULK AT MOST 1048576: true; the input reads as it did. -/
def hopRightUptoRow : OpenClaim := { program := "ytcaolilhemamiaa", sum := "beca11abb23ede1acff773562a61b2843c421a6bf43294861c49fdda0cb4a54c", func := "backwash/backwashlaw02.HopRight", spec := "hopRight", apart := false, narrowed := true }
def HopRightUptoSaid : Prop := hopRightUptoRow.holds Try.pinned (OpenSpec.upto hopRightSpec)

/-- 'backwashlaw03.ChainRight', WHERE WHAT IT READS IS OF BULK AT MOST 1048576: true; the input reads as it did. -/
def chainRightUptoRow : OpenClaim := { program := "ytcaolilhemamiaa", sum := "beca11abb23ede1acff773562a61b2843c421a6bf43294861c49fdda0cb4a54c", func := "backwash/backwashlaw03.ChainRight", spec := "chainRight", unfollowed := true, recurses := true, apart := false, narrowed := true }
def ChainRightUptoSaid : Prop := chainRightUptoRow.holds Try.pinned (OpenSpec.upto chainRightSpec)

/-- 'backwashlaw04.FrontRight', WHERE WHAT IT READS IS OF BULK AT MOST 1048576: true; the input reads as it did. -/
def frontRightUptoRow : OpenClaim := { program := "ytcaolilhemamiaa", sum := "beca11abb23ede1acff773562a61b2843c421a6bf43294861c49fdda0cb4a54c", func := "backwash/backwashlaw04.FrontRight", spec := "frontRight", unfollowed := true, recurses := true, apart := false, narrowed := true }
def FrontRightUptoSaid : Prop := frontRightUptoRow.holds Try.pinned (OpenSpec.upto frontRightSpec)

end Rows
end Go.Proofs.Ytcaolilhemamiaa
