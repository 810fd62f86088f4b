/-
  No cell of these rows narrows 'for every input' (looked for: loops, veiled, ifaces, maps, wideKeys, modest, calm, conditions, laid).
  DERIVED. THE GIVEN ROWS OF THIS SEAT. 3 by the template 'for every input the law returns true; each argument reads behind the call as it read before'; 0 by the template 'total and deterministic' (their statements: YthomddbekiknjaaGreatTotals.lean).
  GIVEN WITH THE SEED: the statements are not yours to turn. If you find one false, say at which input.
  Laid BY PROGRAM, IN A SANDBOX (cutbox-rows.mjs): the forced cells as the released guide's own fill.sh prints them over the translation 261d09c5e839b27e… (all of the seat's roots in one cut). By AI agents, Wed Nov 11 2026. No macro, syntax, notation, axiom, sorry.
-/
import Derived.Test.YthomddbekiknjaaGreatChecked
import GoSem.Claim
import GoSem.ClaimJoined
import GoSem.ClaimMapViews
import Derived.JoinedTies
import Derived.KernelRfl
namespace Go.Proofs.YthomddbekiknjaaGreat
/- THE CELL 'sum', in the pinned program and in every row, IS THE sha256 OF THE DUMP (.gsa) THAT YthomddbekiknjaaGreatProg.lean LOADS. Nothing in Lean hashes anything: it is a label: what it is worth is what the hold of that sum in a sandbox is worth. -/
noncomputable def Tryz.pinned : Pinned := { name := "ythomddbekiknjaagreat", sum := "261d09c5e839b27e0c3fa8db983006a3ba15d42bc25248aad1f97946c49f9d8c", checked := Tryz.checked }
namespace Rows
def none {H : Type} : Left H := { results := [], args := [] }

/-- 'backwashlaw15.CellComes': WHATEVER THE INPUT: true; the input reads as it did. -/
def cellComesSpec : ChangeSpec := { name := "cellComes", fn := fun _ => fun
  | [d1, d2, d3, d4, d5, d6] => { results := [.lit (.bool true)], args := [d1, d2, d3, d4, d5, d6] }
  | _ => none }
def cellComesRow : OpenClaim := { program := "ythomddbekiknjaagreat", sum := "261d09c5e839b27e0c3fa8db983006a3ba15d42bc25248aad1f97946c49f9d8c", func := "backwash/backwashlaw15.CellComes", spec := "cellComes", inPlace := ["slices.overlaps[backwash/api.Slot]", "math/bits.Add64"], unfollowed := true, recurses := true, apart := false }
def CellComesSaid : Prop := cellComesRow.holds Tryz.pinned (OpenSpec.ofChange cellComesSpec)

/-- ITS FALSE NEIGHBOUR: 'it returns false'. Refute it at one input. -/
def cellComesWrong : ChangeSpec := { name := "cellComes", fn := fun _ => fun
  | [d1, d2, d3, d4, d5, d6] => { results := [.lit (.bool false)], args := [d1, d2, d3, d4, d5, d6] }
  | _ => none }
def CellComesWrongFalsely : Prop := cellComesRow.holds Tryz.pinned (OpenSpec.ofChange cellComesWrong)

/-- 'backwashlaw15.CellSettles': WHATEVER THE INPUT: true; the input reads as it did. -/
def cellSettlesSpec : ChangeSpec := { name := "cellSettles", fn := fun _ => fun
  | [d1, d2, d3] => { results := [.lit (.bool true)], args := [d1, d2, d3] }
  | _ => none }
def cellSettlesRow : OpenClaim := { program := "ythomddbekiknjaagreat", sum := "261d09c5e839b27e0c3fa8db983006a3ba15d42bc25248aad1f97946c49f9d8c", func := "backwash/backwashlaw15.CellSettles", spec := "cellSettles", inPlace := ["slices.overlaps[backwash/api.Slot]", "math/bits.Add64"], unfollowed := true, recurses := true, apart := false }
def CellSettlesSaid : Prop := cellSettlesRow.holds Tryz.pinned (OpenSpec.ofChange cellSettlesSpec)

/-- ITS FALSE NEIGHBOUR: 'it returns false'. Refute it at one input. -/
def cellSettlesWrong : ChangeSpec := { name := "cellSettles", fn := fun _ => fun
  | [d1, d2, d3] => { results := [.lit (.bool false)], args := [d1, d2, d3] }
  | _ => none }
def CellSettlesWrongFalsely : Prop := cellSettlesRow.holds Tryz.pinned (OpenSpec.ofChange cellSettlesWrong)

/-- 'backwashlaw15.CellOrder': WHATEVER THE INPUT: true; the input reads as it did. -/
def cellOrderSpec : ChangeSpec := { name := "cellOrder", fn := fun _ => fun
  | [d1, d2, d3, d4, d5, d6, d7, d8] => { results := [.lit (.bool true)], args := [d1, d2, d3, d4, d5, d6, d7, d8] }
  | _ => none }
def cellOrderRow : OpenClaim := { program := "ythomddbekiknjaagreat", sum := "261d09c5e839b27e0c3fa8db983006a3ba15d42bc25248aad1f97946c49f9d8c", func := "backwash/backwashlaw15.CellOrder", spec := "cellOrder", inPlace := ["slices.overlaps[backwash/api.Slot]", "math/bits.Add64"], unfollowed := true, recurses := true, apart := false }
def CellOrderSaid : Prop := cellOrderRow.holds Tryz.pinned (OpenSpec.ofChange cellOrderSpec)

/-- ITS FALSE NEIGHBOUR: 'it returns false'. Refute it at one input. -/
def cellOrderWrong : ChangeSpec := { name := "cellOrder", fn := fun _ => fun
  | [d1, d2, d3, d4, d5, d6, d7, d8] => { results := [.lit (.bool false)], args := [d1, d2, d3, d4, d5, d6, d7, d8] }
  | _ => none }
def CellOrderWrongFalsely : Prop := cellOrderRow.holds Tryz.pinned (OpenSpec.ofChange cellOrderWrong)

/- THE SECOND FORM. 'bulk': how many values and letters a reading holds, each counted each time it is reached (what is shared counts as often as it is met; a slice's spare places count too). A statement '..UptoSaid' is the law's where the arguments, and the package variables that the reading takes, are together of bulk at most 1048576: NARROWER than '..Said'. Prove '..Said' where nothing that the law and all that it calls make is longer than what came in: it says more and counts as full. Else prove '..UptoSaid'. A law counts once. -/
mutual
def uptoBulk {H : Type} : DataW H → Nat
  | .lit (.string bytes) => bytes.length + 1
  | .lit _ => 1
  | .nil => 1
  | .ptr d => uptoBulk d + 1
  | .slice elems spare => uptoBulkAll elems + uptoBulkAll spare + 1
  | .agg parts => uptoBulkAll parts + 1
  | .iface _ d => uptoBulk d + 1
  | .map entries => uptoBulkEntries entries + 1
  | .held _ => 1
def uptoBulkAll {H : Type} : List (DataW H) → Nat
  | [] => 0
  | d :: r => uptoBulk d + uptoBulkAll r
def uptoBulkEntries {H : Type} : List (Lit × DataW H) → Nat
  | [] => 0
  | x :: r => uptoBulkEntry x + uptoBulkEntries r
def uptoBulkEntry {H : Type} : Lit × DataW H → Nat
  | (.string bytes, d) => bytes.length + uptoBulk d + 1
  | (_, d) => uptoBulk d + 1
 end
def uptoSmall : (H : Type) → List (DataW H) → Bool := fun _ ds => decide (uptoBulkAll ds ≤ 1048576)
def OpenSpec.upto (s : _root_.Go.ChangeSpec) : _root_.Go.OpenSpec := { _root_.Go.OpenSpec.ofChange s with cond := some uptoSmall }

/-- 'backwashlaw15.CellComes', WHERE WHAT IT READS IS OF BULK AT MOST 1048576: true; the input reads as it did. -/
def cellComesUptoRow : OpenClaim := { program := "ythomddbekiknjaagreat", sum := "261d09c5e839b27e0c3fa8db983006a3ba15d42bc25248aad1f97946c49f9d8c", func := "backwash/backwashlaw15.CellComes", spec := "cellComes", inPlace := ["slices.overlaps[backwash/api.Slot]", "math/bits.Add64"], unfollowed := true, recurses := true, apart := false, narrowed := true }
def CellComesUptoSaid : Prop := cellComesUptoRow.holds Tryz.pinned (OpenSpec.upto cellComesSpec)

/-- 'backwashlaw15.CellSettles', WHERE WHAT IT READS IS OF BULK AT MOST 1048576: true; the input reads as it did. -/
def cellSettlesUptoRow : OpenClaim := { program := "ythomddbekiknjaagreat", sum := "261d09c5e839b27e0c3fa8db983006a3ba15d42bc25248aad1f97946c49f9d8c", func := "backwash/backwashlaw15.CellSettles", spec := "cellSettles", inPlace := ["slices.overlaps[backwash/api.Slot]", "math/bits.Add64"], unfollowed := true, recurses := true, apart := false, narrowed := true }
def CellSettlesUptoSaid : Prop := cellSettlesUptoRow.holds Tryz.pinned (OpenSpec.upto cellSettlesSpec)

/-- 'backwashlaw15.CellOrder', WHERE WHAT IT READS IS OF BULK AT MOST 1048576: true; the input reads as it did. -/
def cellOrderUptoRow : OpenClaim := { program := "ythomddbekiknjaagreat", sum := "261d09c5e839b27e0c3fa8db983006a3ba15d42bc25248aad1f97946c49f9d8c", func := "backwash/backwashlaw15.CellOrder", spec := "cellOrder", inPlace := ["slices.overlaps[backwash/api.Slot]", "math/bits.Add64"], unfollowed := true, recurses := true, apart := false, narrowed := true }
def CellOrderUptoSaid : Prop := cellOrderUptoRow.holds Tryz.pinned (OpenSpec.upto cellOrderSpec)

end Rows
end Go.Proofs.YthomddbekiknjaaGreat
