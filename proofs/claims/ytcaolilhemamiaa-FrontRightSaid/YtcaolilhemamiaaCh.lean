import Derived.Test.YtcaolilhemamiaaCg
import Derived.Test.YtcaolilhemamiaaCe
namespace Go.Proofs.Ytcaolilhemamiaa
open Go.RowKit
set_option linter.unusedVariables false
set_option linter.unusedSimpArgs false

set_option maxHeartbeats 2000000 in
theorem chainRight_any (xs : List TV) (v : Value) (w : World) (hl : xs.length ≤ 900000) (h : IsT w v xs) : Calls Try.prog 24 #[v] w (Ret (.bool (decide (xs = ofT xs))) w) := by
  have HO := Lib.hid (of_any xs v w hl h)
  have hof := ofT_length xs
  have HE := Lib.hid (fun (W : World) (u : Value) (hb : Below w.heap.size w W) (hu : IsT W u (ofT xs)) => equal_any xs (ofT xs) v u W hl (by omega) (h.below hb) hu)
  obtain ⟨p, c, rfl⟩ := h.slice
  clear h hl hof
  generalize decide (xs = ofT xs) = r at HE ⊢
  generalize ofT xs = res at HO HE
  generalize xs.length = n at HO HE ⊢
  go_enter Try.func24, Try.ntmps24
  go_wp2_with fail
  refine (HO.out).mono ?_
  rintro e w1 ⟨u, rfl, hO, hB⟩
  have HO2 := Lib.hid hO.is; have HB := Lib.hid hB
  obtain ⟨q, d, rfl⟩ := hO.is.slice
  clear hO hB HO
  go_wp2_with fail
  refine (HE.out _ _ HB.out HO2.out).mono ?_
  rintro e w2 ⟨rfl, hb2⟩
  have HB2 := Lib.hid (HB.out.trans (hb2.mono HB.out.size))
  clear hb2 HE
  go_wp2
  go_returns
  exact ⟨rfl, HB2.out⟩
/-- a chain: what Of answers is one -/
theorem chainRight_of (xs : List TV) : decide (ofT xs = ofT (ofT xs)) = true := decide_eq_true (ofT_idem xs).symm
end Go.Proofs.Ytcaolilhemamiaa
