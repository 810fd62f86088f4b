/- the document's Put of a graph that can't be put -/
import Derived.Test.YtdhmoiiagplbpaaVh
namespace Go.Proofs.Ytdhmoiiagplbpaa
open Go.RowKit
set_option linter.unusedVariables false
set_option linter.unusedSimpArgs false

set_option maxRecDepth 100000 in
set_option maxHeartbeats 4000000 in
theorem rput_no (g : GV) (v : Value) (w : World) (h : IsG w v g) (hf : ¬ fitsG g) : Calls Try.prog 10 #[v] w (Ret (.tuple #[.slice none 0 0, .int .i64 1]) w) := by
  have HFit := Lib.hid (fun W (hW : Below w.heap.size w W) => rfits_any g v W (h.below hW))
  rw [decide_eq_false hf] at HFit
  obtain ⟨pv, bv, nv, ev, rfl, h1, h2, ⟨xs, h3, h3n, h3a⟩, h4⟩ := h
  obtain ⟨p1, c1, rfl⟩ := h1.slice
  obtain ⟨p2, c2, rfl⟩ := h2.slice
  obtain ⟨p3, c3, rfl⟩ := h3.slice
  obtain ⟨p4, c4, rfl⟩ := h4.slice
  have HB0 := Lib.hid ((Below.refl w.heap.size w).alloc (Nat.le_refl _) (.cells #[.slice p1 g.parent.length c1, .slice p2 g.bound.length c2, .slice p3 xs.length c3, .slice p4 g.edges.length c4] 26))
  clear h1 h2 h3 h3n h3a h4 hf
  generalize g.parent.length = n1 at *
  generalize g.bound.length = n2 at *
  generalize xs.length = n3 at *
  generalize g.edges.length = n4 at *
  go_enter Try.func10, Try.ntmps10
  go_wp2_with fail
  refine (HFit.out _ HB0.out).mono ?_
  rintro e w1 ⟨rfl, hb1⟩
  have HB1 := Lib.hid (HB0.out.trans (hb1.mono HB0.out.size))
  clear hb1 HB0 HFit
  go_wp2
  go_returns
  exact ⟨rfl, HB1.out⟩
end Go.Proofs.Ytdhmoiiagplbpaa
