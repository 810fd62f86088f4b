import Derived.Test.YtcaolilhemamiaaCf
import Derived.Test.YtcaolilhemamiaaCe
import Derived.Test.YtcaolilhemamiaaRd
namespace Go.Proofs.Ytcaolilhemamiaa
open Go.RowKit
set_option linter.unusedVariables false
set_option linter.unusedSimpArgs false
attribute [local go_sem ↓] eqTime neTime

/- the document's answers on chains: Covers, Both -/
theorem rtle_any (t u : TV) (w : World) : Calls Try.prog 49 #[t.val, u.val] w (Ret (.bool (t.le u)) w) := rle_any _ _ _ _ _ _ _ _ _ _ w
theorem rtlt_any (t u : TV) (w : World) : Calls Try.prog 50 #[t.val, u.val] w (Ret (.bool (t.lt u)) w) := rless_any _ _ _ _ _ _ _ _ _ _ w
theorem OwnT.empty (w : World) : OwnT w.heap.size (w.alloc (.cells #[] 26)) (.slice (some ⟨w.heap.size, 0, none⟩) 0 0) [] := World.ownsRow_lit w #[] 0 (Nat.le_refl _) (Nat.zero_le _) rfl
set_option maxRecDepth 100000 in
set_option maxHeartbeats 4000000 in
theorem refBoth_any (xs ys : List TV) (va vb : Value) (w : World) (hl : xs.length ≤ 400000) (hm : ys.length ≤ 400000) (ha : IsT w va xs) (hb : IsT w vb ys) : Calls Try.prog 21 #[va, vb] w (MadeT (xs ++ ys) w) := by
  have HE := Lib.hid (OwnT.empty w)
  have HB0 := Lib.hid ((Below.refl w.heap.size w).alloc (Nat.le_refl _) (.cells #[] 26))
  have HL1 : Hid (([] : List TV).length + xs.length ≤ 1000000) := by show _ ≤ _; simp; omega
  have HL2 : Hid ((([] : List TV) ++ xs).length + ys.length ≤ 1000000) := by show _ ≤ _; rw [List.nil_append]; omega
  have HA := Lib.hid ha; have HB := Lib.hid hb
  have HZ0 : Hid (w.heap.size ≤ (w.alloc (.cells #[] 26)).heap.size) := by show _ ≤ _; simp
  obtain ⟨p, c, rfl⟩ := ha.slice
  obtain ⟨q, d, rfl⟩ := hb.slice
  clear ha hb hl hm
  generalize xs.length = n at HA ⊢
  generalize ys.length = m at HB ⊢
  go_enter Try.func21, Try.ntmps21
  go_wp2_with (at_builtin; first | (refine OwnT.appendAny (ys := xs) HE.out HB0.out HZ0.out rfl _ _ rfl rfl rfl (HA.out.below HB0.out) HL1.out ?_; intro v2 w2 hO2 hB2 hz2; have HO2 := Lib.hid hO2; have HB2 := Lib.hid hB2; clear hO2 hB2 hz2) | (refine OwnT.appendAny (ys := ys) HO2.out HB2.out HB2.out.size rfl _ _ rfl rfl rfl (HB.out.below HB2.out) HL2.out ?_; intro v3 w3 hO3 hB3 hz3; have HO3 := Lib.hid hO3; have HB3 := Lib.hid hB3; clear hO3 hB3 hz3))
  go_returns
  exact ⟨_, rfl, HO3.out, HB3.out⟩
set_option maxRecDepth 100000 in
set_option maxHeartbeats 4000000 in
theorem refCovers_row (xs : List TV) (t : TV) (b off cap : Nat) (w : World) (hl : xs.length ≤ 900000) (hb : b < w.heap.size) (hr : RowT w b off xs) :
    Calls Try.prog 23 #[.slice (some ⟨b, off, none⟩) xs.length cap, t.val] w (Ret (.bool (cov xs t)) w) := by
  have hrow : Hid (∀ (W : World), Below w.heap.size w W → ∀ j, j < xs.length → _) := fun W hW j hj => (hr.below hW hb).at j hj
  have HBx : Hid (∀ ty, BoxT (w.alloc (.cells #[.int .i64 t.d, .int .i64 t.c0, .int .i64 t.c1, .int .i64 t.c2, .int .i64 t.c3] ty)) w.heap.size t) := fun ty => BoxT.new w t ty
  have HLE : Hid (∀ (x : TV) (W : World), Calls Try.prog 49 #[x.val, t.val] W (Ret (.bool (x.le t)) W)) := fun x W => rtle_any x t W
  clear hr
  generalize hn : xs.length = n at hl
  have HN := Lib.hid hn
  clear hn
  generalize hcv : cov xs t = cv
  have HCV := Lib.hid hcv
  clear hcv
  go_enter Try.func23, Try.ntmps23
  go_wp2
  go_loopg [5] n (fun gg i wr => ∃ k : Nat, k ≤ n ∧ n - k ≤ gg ∧ i = .int .i64 k ∧ Hid (Below w.heap.size w wr) ∧ Hid (cov (xs.take k) t = false) ∧ Hid (BoxT wr w.heap.size t))
  case atStart => exact ⟨0, Nat.zero_le _, by omega, rfl, (Below.refl _ w).alloc (Nat.le_refl _) _, rfl, HBx.out _⟩
  case round =>
    obtain ⟨k, hkn, hg, rfl, HB, HC, HX⟩ := hrel
    by_cases hlt : k < n
    · have hlz : (k : Int) < (n : Int) := by omega
      have hc := hrow.out wr HB.out k (by rw [HN.out]; exact hlt)
      have hhit := fun h => cov_hit (xs := xs) (t := t) (k := k) (by rw [HN.out]; exact hlt) h
      have hmiss := fun h => cov_take_false (xs := xs) (t := t) (k := k) (by rw [HN.out]; exact hlt) HC.out h
      have HCall := Lib.hid (HLE.out xs[k]!)
      generalize xs[k]! = y at hc HCall hhit hmiss
      have e0 := fun p => beh_cell hc.1 p; have e1 := fun p => beh_cell hc.2.1 p; have e2 := fun p => beh_cell hc.2.2.1 p; have e3 := fun p => beh_cell hc.2.2.2.1 p; have e4 := fun p => beh_cell hc.2.2.2.2 p
      have HXX := HX
      obtain ⟨⟨p0, p1, p2, p3, p4, q0, q1, q2, q3, q4⟩, hxl⟩ := HX.out
      have f0 := fun p => beh_cell p0 p; have f1 := fun p => beh_cell p1 p; have f2 := fun p => beh_cell p2 p; have f3 := fun p => beh_cell p3 p; have f4 := fun p => beh_cell p4 p
      clear hc hrow p0 p1 p2 p3 p4 q0 q1 q2 q3 q4 hxl HLE
      have HM := Lib.hid hmiss; have HH := Lib.hid hhit
      clear hmiss hhit
      generalize hq : y.le t = q at HCall
      have HQ := Lib.hid hq
      clear hq
      go_wp2_with fail
      refine wp_region_beh (by kernel_rfl) (by kernel_rfl) ?_
      repeat (first | go_big_quiet_step (first | (with_reducible exact Calls.beh (HCall.out _))) | quiet_step (first | (with_reducible exact Calls.beh (HCall.out _))))
      refine wpQuiet_nil ?_
      intro _ hw'
      obtain ⟨g, hw''⟩ := hw'
      subst hw''
      have HB1 := Lib.hid (HB.out.trans (g.h.mono HB.out.size)); have HX1 := Lib.hid (HXX.out.below g.h)
      clear e0 e1 e2 e3 e4 f0 f1 f2 f3 f4 HCall
      generalize g.w = wq at *
      clear g
      cases q
      · go_wp2
        go_roundg (n - (k + 1))
        case measure => omega
        case rel => exact ⟨k + 1, by omega, by omega, by go_num, HB1.out, HM.out HQ.out, HX1.out⟩
      · have HT : Hid (cv = true) := by show cv = true; rw [← HCV.out]; exact HH.out HQ.out
        go_wp2
        go_returns
        exact ⟨ret_bool HT.out.symm, HB1.out⟩
    · have hlz : ¬ (k : Int) < (n : Int) := by omega
      have : k = n := by omega
      subst this
      have HT : Hid (cv = false) := by
        have h := HC.out
        rw [List.take_of_length_le (by rw [HN.out]; exact Nat.le_refl _)] at h
        show cv = false
        rw [← HCV.out]
        exact h
      clear HC hrow
      go_wp2
      go_returns
      exact ⟨ret_bool HT.out.symm, HB.out⟩
set_option maxHeartbeats 2000000 in
theorem refCovers_nil (t : TV) (p : Option Addr) (cap : Nat) (w : World) : Calls Try.prog 23 #[.slice p 0 cap, t.val] w (Ret (.bool (cov [] t)) w) := by
  rw [show cov [] t = false from rfl]
  go_enter Try.func23, Try.ntmps23
  go_wp2
  refine wp_loop_rounds 1 ?_
  rw [rounds_succ]
  go_wp2
  go_returns
  exact ⟨rfl, (Below.refl _ w).alloc (Nat.le_refl _) _⟩
theorem refCovers_any (xs : List TV) (t : TV) (v : Value) (w : World) (hl : xs.length ≤ 900000) (h : IsT w v xs) : Calls Try.prog 23 #[v, t.val] w (Ret (.bool (cov xs t)) w) := by
  rcases h with ⟨rfl, p, cap, rfl, _⟩ | ⟨_, b, off, cap, rfl, hb, hr⟩
  · exact refCovers_nil t p cap w
  · exact refCovers_row xs t b off cap w hl hb hr
end Go.Proofs.Ytcaolilhemamiaa
