/- what Put answers, the program's and the document's -/
import Derived.Test.YtdhmoiiagplbpaaVrr
import Derived.Test.YtdhmoiiagplbpaaVj
import Derived.Test.YtdhmoiiagplbpaaVk
import Derived.Test.YtdhmoiiagplbpaaWs
import Derived.Test.YtdhmoiiagplbpaaVe
namespace Go.Proofs.Ytdhmoiiagplbpaa
open Go.RowKit
set_option linter.unusedVariables false
set_option linter.unusedSimpArgs false

def putA (g : GV) : List Int × Nat := if fitsG g then (putG g, 0) else ([], 1)
theorem putA_len (g : GV) (h : okG g) : (putA g).1.length ≤ 900000 := by
  unfold putA
  split
  · rename_i hf
    exact Nat.le_trans (putG_len hf h) (by decide)
  · exact Nat.zero_le _
def PutP (r : List Int × Nat) (w : World) (e : Ending) (w' : World) : Prop := ∃ u, e = .returned (.tuple #[u, .int .i64 (r.2 : Int)]) ∧ RB.Is w' u r.1 ∧ capOk u ∧ Below w.heap.size w w'
def PutRf (r : List Int × Nat) (w : World) (e : Ending) (w' : World) : Prop := ∃ u, e = .returned (.tuple #[u, .int .i64 (r.2 : Int)]) ∧ RB.Is w' u r.1 ∧ Below w.heap.size w w'
theorem pput_any (g : GV) (v : Value) (w : World) (h : IsG w v g) (hr : roomG v) (hok : okG g) : Calls Try.prog 9 #[v] w (PutP (putA g) w) := by
  by_cases hf : fitsG g
  · refine (pput_yes g v w h hr hf hok).mono ?_
    rintro e w' ⟨u, h1, h2, h3, h4⟩
    unfold putA
    rw [if_pos hf]
    exact ⟨u, h1, h2, h3, h4⟩
  · refine (pput_no g v w h hr hf).mono ?_
    rintro e w' ⟨h1, h2⟩
    unfold putA
    rw [if_neg hf]
    exact ⟨_, h1, (RowKind.Own.nil RB 0 w').is, fun p n c e => by cases e; decide, h2⟩
theorem rput_any (g : GV) (v : Value) (w : World) (h : IsG w v g) (hok : okG g) : Calls Try.prog 10 #[v] w (PutRf (putA g) w) := by
  by_cases hf : fitsG g
  · refine (rput_yes g v w h hf hok).mono ?_
    rintro e w' ⟨u, h1, h2, h4⟩
    unfold putA
    rw [if_pos hf]
    exact ⟨u, h1, h2.is, h4⟩
  · refine (rput_no g v w h hf).mono ?_
    rintro e w' ⟨h1, h2⟩
    unfold putA
    rw [if_neg hf]
    exact ⟨_, h1, (RowKind.Own.nil RB 0 w').is, h2⟩
theorem short_lens (g : GV) (h : shortG g = true) : g.nodes.length ≤ 900000 ∧ g.edges.length ≤ 900000 ∧ g.parent.length ≤ 900000 ∧ g.bound.length ≤ 900000 ∧ ∀ x ∈ g.nodes, x.prog.length ≤ 900000 := by
  obtain ⟨h1, h2, h3, h4, h5⟩ := (shortG_iff g).1 h
  exact ⟨by omega, by omega, by omega, by omega, fun x hx => by have := h5 x hx; omega⟩
end Go.Proofs.Ytdhmoiiagplbpaa
