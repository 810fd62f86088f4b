import Derived.Test.YtbjecaajeokdoaaBp
import Derived.Test.YtbjecaajeokdoaaBm
import Derived.Test.YtbjecaajeokdoaaBk
import Derived.Test.YtbjecaajeokdoaaBu
namespace Go.Proofs.Ytbjecaajeokdoaa
open Go.RowKit
set_option linter.unusedVariables false
set_option linter.unusedSimpArgs false

theorem AnsI.mono {xs : List IV} {w W : World} {e : Ending} {w' : World} (h : AnsI xs W e w') (hb : Below w.heap.size w W) : AnsI xs w e w' := by
  obtain ⟨v, h1, h2, h3, h4⟩ := h
  exact ⟨v, h1, h2, h3, hb.trans (h4.mono hb.size)⟩
theorem inN_of {xs : List IV} (h : rightI xs = true) : inN xs := fun c hc => by
  have := (IV.ok_iff c).1 (((rightI_iff xs).1 h).1 c hc)
  exact this.2
set_option maxRecDepth 100000 in
set_option maxHeartbeats 4000000 in
theorem bplus_any (xs ys : List IV) (va vb : Value) (w : World) (hl : xs.length ≤ 400000) (hm : ys.length ≤ 400000) (ca : capOk va) (cb : capOk vb) (ha : RI.Is w va xs) (hb : RI.Is w vb ys) :
    Calls Try.prog 10 #[va, vb] w (AnsI (plusI xs ys) w) := by
  have HA := Lib.hid ha; have HB := Lib.hid hb
  have HRA := Lib.hid (bright_any xs va w (by omega) ha)
  have HRB := Lib.hid (fun W (hW : Below w.heap.size w W) => bright_any ys vb W (by omega) (hb.below hW))
  have HC := Lib.hid (fun W (hW : Below w.heap.size w W) => bclone_any xs va W (by omega) (ha.below hW))
  have HM : Hid (rightI xs = true → rightI ys = true → ∀ W (hW : Below w.heap.size w W), Calls Try.prog 16 #[va, vb] W (RI.Made (mergedI xs ys) W)) := fun h1 h2 W hW => bmerged_any xs ys va vb W hl hm (inN_of h1) (inN_of h2) ca cb (ha.below hW) (hb.below hW)
  have h1 : rightI xs = false → plusI xs ys = xs := fun h => by unfold plusI; rw [if_neg (by rw [h]; simp)]
  have h2 : rightI ys = false → plusI xs ys = xs := fun h => by unfold plusI; rw [if_neg (by rw [h]; simp)]
  have h3 : rightI xs = true → rightI ys = true → plusI xs ys = mergedI xs ys := fun h k => by unfold plusI; rw [if_pos ⟨h, k⟩]
  obtain ⟨p, c, rfl⟩ := ha.slice
  obtain ⟨q, d, rfl⟩ := hb.slice
  clear ha hb ca cb HA HB
  generalize plusI xs ys = res at h1 h2 h3 ⊢
  generalize rightI xs = b1 at *
  generalize rightI ys = b2 at *
  generalize mergedI xs ys = mm at *
  generalize xs.length = n1 at *
  generalize ys.length = n2 at *
  have H1 := Lib.hid h1; have H2 := Lib.hid h2; have H3 := Lib.hid h3
  clear h1 h2 h3
  go_enter Try.func10, Try.ntmps10
  go_wp2_with fail
  refine (HRA.out).mono ?_
  rintro e w1 ⟨rfl, hb1⟩
  have HB1 := Lib.hid hb1
  clear hb1 HRA
  cases b1
  · go_wp2_with fail
    refine (HC.out _ HB1.out).mono ?_
    rintro e w2 ⟨v, rfl, hI, hC, hb2⟩
    have HX : Hid (AnsI res w (.returned v) w2) := ⟨v, rfl, by rw [H1.out (by trivial)]; exact hI, hC, HB1.out.trans (hb2.mono HB1.out.size)⟩
    clear hI hC hb2
    go_wp2
    go_returns
    exact HX.out
  · go_wp2_with fail
    refine (HRB.out _ HB1.out).mono ?_
    rintro e w2 ⟨rfl, hb2⟩
    have HB2 := Lib.hid (HB1.out.trans (hb2.mono HB1.out.size))
    clear hb2 HRB
    cases b2
    · go_wp2_with fail
      refine (HC.out _ HB2.out).mono ?_
      rintro e w3 ⟨v, rfl, hI, hC, hb3⟩
      have HX : Hid (AnsI res w (.returned v) w3) := ⟨v, rfl, by rw [H2.out (by trivial)]; exact hI, hC, HB2.out.trans (hb3.mono HB2.out.size)⟩
      clear hI hC hb3
      go_wp2
      go_returns
      exact HX.out
    · have HM2 := Lib.hid (HM.out (by trivial) (by trivial))
      clear HM
      go_wp2_with fail
      refine (HM2.out _ HB2.out).mono ?_
      rintro e w3 ⟨v, rfl, hO, hb3⟩
      have HX : Hid (AnsI res w (.returned v) w3) := ⟨v, rfl, by rw [H3.out (by trivial) (by trivial)]; exact hO.is, ownCapI hO, HB2.out.trans (hb3.mono HB2.out.size)⟩
      clear hO hb3
      go_wp2
      go_returns
      exact HX.out
def minusI (a b : List IV) : List IV := plusI a (b.map negI)
end Go.Proofs.Ytbjecaajeokdoaa
