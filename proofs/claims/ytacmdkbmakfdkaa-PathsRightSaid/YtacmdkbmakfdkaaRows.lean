/-
  No cell of these rows narrows 'for every input' (looked for: loops, veiled, ifaces, maps, wideKeys, modest, calm, conditions, laid).
  DERIVED. THE GIVEN ROWS OF THIS SEAT. 2 by the template 'for every input the law returns true; each argument reads behind the call as it read before'; 0 by the template 'total and deterministic' (their statements: YtacmdkbmakfdkaaTotals.lean).
  GIVEN WITH THE SEED: the statements are not yours to turn. If you find one false, say at which input.
  Laid BY PROGRAM, IN A SANDBOX (cutbox-rows.mjs): the forced cells as the released guide's own fill.sh prints them over the translation b9a2d54a013704ec… (all of the seat's roots in one cut). By AI agents, Wed Nov 11 2026. No macro, syntax, notation, axiom, sorry.
-/
import Derived.Test.YtacmdkbmakfdkaaChecked
import GoSem.Claim
import GoSem.ClaimJoined
import GoSem.ClaimMapViews
import Derived.JoinedTies
import Derived.KernelRfl
namespace Go.Proofs.Ytacmdkbmakfdkaa
/- THE CELL 'sum', in the pinned program and in every row, IS THE sha256 OF THE DUMP (.gsa) THAT YtacmdkbmakfdkaaProg.lean LOADS. Nothing in Lean hashes anything: it is a label: what it is worth is what the hold of that sum in a sandbox is worth. -/
noncomputable def Try.pinned : Pinned := { name := "ytacmdkbmakfdkaa", sum := "b9a2d54a013704ec2082cc1554a360c3a86a3d56084ab4565a030fe1c5426934", checked := Try.checked }
namespace Rows
def none {H : Type} : Left H := { results := [], args := [] }

/-- 'backwashlaw10.PathsRight': WHATEVER THE INPUT: true; the input reads as it did. -/
def pathsRightSpec : ChangeSpec := { name := "pathsRight", fn := fun _ => fun
  | [d] => { results := [.lit (.bool true)], args := [d] }
  | _ => none }
def pathsRightRow : OpenClaim := { program := "ytacmdkbmakfdkaa", sum := "b9a2d54a013704ec2082cc1554a360c3a86a3d56084ab4565a030fe1c5426934", func := "backwash/backwashlaw10.PathsRight", spec := "pathsRight", unfollowed := true, recurses := true, apart := false }
def PathsRightSaid : Prop := pathsRightRow.holds Try.pinned (OpenSpec.ofChange pathsRightSpec)

/-- ITS FALSE NEIGHBOUR: 'it returns false'. Refute it at one input. -/
def pathsRightWrong : ChangeSpec := { name := "pathsRight", fn := fun _ => fun
  | [d] => { results := [.lit (.bool false)], args := [d] }
  | _ => none }
def PathsRightWrongFalsely : Prop := pathsRightRow.holds Try.pinned (OpenSpec.ofChange pathsRightWrong)

/-- 'backwashlaw10.PathsOn': WHATEVER THE INPUT: true; the input reads as it did. -/
def pathsOnSpec : ChangeSpec := { name := "pathsOn", fn := fun _ => fun
  | [d1, d2, d3, d4, d5, d6] => { results := [.lit (.bool true)], args := [d1, d2, d3, d4, d5, d6] }
  | _ => none }
def pathsOnRow : OpenClaim := { program := "ytacmdkbmakfdkaa", sum := "b9a2d54a013704ec2082cc1554a360c3a86a3d56084ab4565a030fe1c5426934", func := "backwash/backwashlaw10.PathsOn", spec := "pathsOn", unfollowed := true, recurses := true, apart := false }
def PathsOnSaid : Prop := pathsOnRow.holds Try.pinned (OpenSpec.ofChange pathsOnSpec)

/-- ITS FALSE NEIGHBOUR: 'it returns false'. Refute it at one input. -/
def pathsOnWrong : ChangeSpec := { name := "pathsOn", fn := fun _ => fun
  | [d1, d2, d3, d4, d5, d6] => { results := [.lit (.bool false)], args := [d1, d2, d3, d4, d5, d6] }
  | _ => none }
def PathsOnWrongFalsely : Prop := pathsOnRow.holds Try.pinned (OpenSpec.ofChange pathsOnWrong)

/- THE SECOND FORM. 'bulk': how many values and letters a reading holds, each counted each time it is reached (what is shared counts as often as it is met; a slice's spare places count too). A statement '..UptoSaid' is the law's where the arguments, and the package variables that the reading takes, are together of bulk at most 1048576: NARROWER than '..Said'. Prove '..Said' where nothing that the law and all that it calls make is longer than what came in: it says more and counts as full. Else prove '..UptoSaid'. A law counts once. -/
mutual
def uptoBulk {H : Type} : DataW H → Nat
  | .lit (.string bytes) => bytes.length + 1
  | .lit _ => 1
  | .nil => 1
  | .ptr d => uptoBulk d + 1
  | .slice elems spare => uptoBulkAll elems + uptoBulkAll spare + 1
  | .agg parts => uptoBulkAll parts + 1
  | .iface _ d => uptoBulk d + 1
  | .map entries => uptoBulkEntries entries + 1
  | .held _ => 1
def uptoBulkAll {H : Type} : List (DataW H) → Nat
  | [] => 0
  | d :: r => uptoBulk d + uptoBulkAll r
def uptoBulkEntries {H : Type} : List (Lit × DataW H) → Nat
  | [] => 0
  | x :: r => uptoBulkEntry x + uptoBulkEntries r
def uptoBulkEntry {H : Type} : Lit × DataW H → Nat
  | (.string bytes, d) => bytes.length + uptoBulk d + 1
  | (_, d) => uptoBulk d + 1
 end
def uptoSmall : (H : Type) → List (DataW H) → Bool := fun _ ds => decide (uptoBulkAll ds ≤ 1048576)
def OpenSpec.upto (s : _root_.Go.ChangeSpec) : _root_.Go.OpenSpec := { _root_.Go.OpenSpec.ofChange s with cond := some uptoSmall }

/-- 'backwashlaw10.PathsRight', WHERE WHAT IT READS IS OF BULK AT MOST 1048576: true; the input reads as it did. -/
def pathsRightUptoRow : OpenClaim := { program := "ytacmdkbmakfdkaa", sum := "b9a2d54a013704ec2082cc1554a360c3a86a3d56084ab4565a030fe1c5426934", func := "backwash/backwashlaw10.PathsRight", spec := "pathsRight", unfollowed := true, recurses := true, apart := false, narrowed := true }
def PathsRightUptoSaid : Prop := pathsRightUptoRow.holds Try.pinned (OpenSpec.upto pathsRightSpec)

/-- 'backwashlaw10.PathsOn', WHERE WHAT IT READS IS OF BULK AT MOST 1048576: true; the input reads as it did. -/
def pathsOnUptoRow : OpenClaim := { program := "ytacmdkbmakfdkaa", sum := "b9a2d54a013704ec2082cc1554a360c3a86a3d56084ab4565a030fe1c5426934", func := "backwash/backwashlaw10.PathsOn", spec := "pathsOn", unfollowed := true, recurses := true, apart := false, narrowed := true }
def PathsOnUptoSaid : Prop := pathsOnUptoRow.holds Try.pinned (OpenSpec.upto pathsOnSpec)

end Rows
end Go.Proofs.Ytacmdkbmakfdkaa
