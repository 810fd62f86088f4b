import Derived.Test.YtcaolilhemamiaaFm
import Derived.Test.YtcaolilhemamiaaFe
namespace Go.Proofs.Ytcaolilhemamiaa
open Go.RowKit
set_option linter.unusedVariables false
set_option linter.unusedSimpArgs false

theorem AnsC.mono {xs : List CV} {w W : World} {e : Ending} {w' : World} (h : AnsC xs W e w') (hb : Below w.heap.size w W) : AnsC xs w e w' := by
  obtain ⟨v, h1, h2, h3, h4⟩ := h
  exact ⟨v, h1, h2, h3, hb.trans (h4.mono hb.size)⟩
theorem inN_of {xs : List CV} (h : rightC xs = true) : inN xs := fun c hc => by
  have := (CV.ok_iff c).1 (((rightC_iff xs).1 h).1 c hc)
  exact this.2.2
set_option maxRecDepth 100000 in
set_option maxHeartbeats 4000000 in
theorem frontAll_any (xs ys : List CV) (va vb : Value) (w : World) (hl : xs.length ≤ 400000) (hm : ys.length ≤ 400000) (ca : capOk va) (cb : capOk vb) (ha : RC.Is w va xs) (hb : RC.Is w vb ys) :
    Calls Try.prog 31 #[va, vb] w (AnsC (allC xs ys) w) := by
  have HA := Lib.hid ha; have HB := Lib.hid hb
  have HRA := Lib.hid (fright_any xs va w (by omega) ha)
  have HRB := Lib.hid (fun W (hW : Below w.heap.size w W) => fright_any ys vb W (by omega) (hb.below hW))
  have HC := Lib.hid (fun W (hW : Below w.heap.size w W) => clone_any xs va W (by omega) (ha.below hW))
  have HM : Hid (rightC xs = true → rightC ys = true → ∀ W (hW : Below w.heap.size w W), Calls Try.prog 59 #[va, vb] W (RC.Made (mergedC xs ys) W)) := fun h1 h2 W hW => merged_any xs ys va vb W hl hm (inN_of h1) (inN_of h2) ca cb (ha.below hW) (hb.below hW)
  have h1 : rightC xs = false → allC xs ys = xs := fun h => by unfold allC; rw [if_neg (by rw [h]; simp)]
  have h2 : rightC ys = false → allC xs ys = xs := fun h => by unfold allC; rw [if_neg (by rw [h]; simp)]
  have h3 : rightC xs = true → rightC ys = true → allC xs ys = mergedC xs ys := fun h k => by unfold allC; rw [if_pos ⟨h, k⟩]
  obtain ⟨p, c, rfl⟩ := ha.slice
  obtain ⟨q, d, rfl⟩ := hb.slice
  clear ha hb ca cb HA HB
  generalize allC xs ys = res at h1 h2 h3 ⊢
  generalize rightC xs = b1 at *
  generalize rightC ys = b2 at *
  generalize mergedC xs ys = mm at *
  generalize xs.length = n1 at *
  generalize ys.length = n2 at *
  have H1 := Lib.hid h1; have H2 := Lib.hid h2; have H3 := Lib.hid h3
  clear h1 h2 h3
  go_enter Try.func31, Try.ntmps31
  go_wp2_with fail
  refine (HRA.out).mono ?_
  rintro e w1 ⟨rfl, hb1⟩
  have HB1 := Lib.hid hb1
  clear hb1 HRA
  cases b1
  · go_wp2_with fail
    refine (HC.out _ HB1.out).mono ?_
    rintro e w2 ⟨v, rfl, hI, hC, hb2⟩
    have HX : Hid (AnsC res w (.returned v) w2) := ⟨v, rfl, by rw [H1.out (by trivial)]; exact hI, hC, HB1.out.trans (hb2.mono HB1.out.size)⟩
    clear hI hC hb2
    go_wp2
    go_returns
    exact HX.out
  · go_wp2_with fail
    refine (HRB.out _ HB1.out).mono ?_
    rintro e w2 ⟨rfl, hb2⟩
    have HB2 := Lib.hid (HB1.out.trans (hb2.mono HB1.out.size))
    clear hb2 HRB
    cases b2
    · go_wp2_with fail
      refine (HC.out _ HB2.out).mono ?_
      rintro e w3 ⟨v, rfl, hI, hC, hb3⟩
      have HX : Hid (AnsC res w (.returned v) w3) := ⟨v, rfl, by rw [H2.out (by trivial)]; exact hI, hC, HB2.out.trans (hb3.mono HB2.out.size)⟩
      clear hI hC hb3
      go_wp2
      go_returns
      exact HX.out
    · have HM2 := Lib.hid (HM.out (by trivial) (by trivial))
      clear HM
      go_wp2_with fail
      refine (HM2.out _ HB2.out).mono ?_
      rintro e w3 ⟨v, rfl, hO, hb3⟩
      have HX : Hid (AnsC res w (.returned v) w3) := ⟨v, rfl, by rw [H3.out (by trivial) (by trivial)]; exact hO.is, ownCap hO, HB2.out.trans (hb3.mono HB2.out.size)⟩
      clear hO hb3
      go_wp2
      go_returns
      exact HX.out
set_option maxRecDepth 100000 in
set_option maxHeartbeats 4000000 in
theorem frontAdd_any (xs : List CV) (t : TV) (n : Int) (va : Value) (w : World) (hl : xs.length ≤ 400000) (ca : capOk va) (ha : RC.Is w va xs) :
    Calls Try.prog 29 #[va, t.val, .int .i64 n] w (AnsC (addC xs t n) w) := by
  have hall := fun (W : World) (vb : Value) (hW : Below w.heap.size w W) (cb : capOk vb) (hb : RC.Is W vb [⟨t, n⟩]) => frontAll_any xs [⟨t, n⟩] va vb W hl (by simp) ca cb (ha.below hW) hb
  have HA := Lib.hid hall
  obtain ⟨p, c, rfl⟩ := ha.slice
  clear ha ca hall
  have hres : allC xs [⟨t, n⟩] = addC xs t n := rfl
  rw [hres] at HA
  clear hres
  generalize addC xs t n = res at *
  generalize xs.length = n1 at *
  go_enter Try.func29, Try.ntmps29
  have hrow := RowKind.Row.new (R := RC) (w.alloc (.cells #[.int .i64 t.d, .int .i64 t.c0, .int .i64 t.c1, .int .i64 t.c2, .int .i64 t.c3] 26)) ⟨t, n⟩ 52
  rw [World.size_alloc] at hrow
  have hB := ((Below.refl w.heap.size w).alloc (Nat.le_refl _) (.cells #[.int .i64 t.d, .int .i64 t.c0, .int .i64 t.c1, .int .i64 t.c2, .int .i64 t.c3] 26)).alloc (by simp) (.cells #[.int .i64 t.d, .int .i64 t.c0, .int .i64 t.c1, .int .i64 t.c2, .int .i64 t.c3, .int .i64 n] 52)
  have hcall := HA.out _ (.slice (some ⟨w.heap.size + 1, 0, none⟩) 1 1) hB (fun p n c e => by cases e; exact Nat.le_refl _) (.inr ⟨by simp, w.heap.size + 1, 0, 1, rfl, by simp, hrow⟩)
  have HC := Lib.hid hcall; have HB := Lib.hid hB
  clear hrow hB hcall HA
  go_wp2_with fail
  refine (HC.out).mono ?_
  rintro e w1 ⟨v, rfl, hI, hcap, hb1⟩
  have HX : Hid (AnsC res w (.returned v) w1) := ⟨v, rfl, hI, hcap, HB.out.trans (hb1.mono HB.out.size)⟩
  clear hI hcap hb1 HC HB
  go_wp2
  go_returns
  exact HX.out
end Go.Proofs.Ytcaolilhemamiaa
