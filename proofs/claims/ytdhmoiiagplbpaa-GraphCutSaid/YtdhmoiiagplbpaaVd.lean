/- the document's low, ints, Same on programs -/
import Derived.Test.YtdhmoiiagplbpaaVc
namespace Go.Proofs.Ytdhmoiiagplbpaa
open Go.RowKit
set_option linter.unusedVariables false
set_option linter.unusedSimpArgs false
attribute [local go_sem ↓] eqIns neIns

set_option maxHeartbeats 2000000 in
theorem rlow_any (n : Int) (w : World) : Calls Try.prog 42 #[.int .i64 n] w (RetW (.bool (decide (lowN n))) w) := by
  by_cases h : lowN n
  · rw [decide_eq_true h]
    obtain ⟨h0, h1⟩ := h
    go_enter Try.func42, Try.ntmps42
    go_wp2
    all_goals go_returns
    all_goals exact ⟨rfl, rfl⟩
  · rw [decide_eq_false h]
    unfold lowN at h
    by_cases h0 : 0 ≤ n
    · have h1 : ¬ n ≤ 2147483647 := fun e => h ⟨h0, e⟩
      clear h
      go_enter Try.func42, Try.ntmps42
      go_wp2
      all_goals go_returns
      all_goals exact ⟨rfl, rfl⟩
    · clear h
      go_enter Try.func42, Try.ntmps42
      go_wp2
      all_goals go_returns
      all_goals exact ⟨rfl, rfl⟩
set_option maxRecDepth 100000 in
set_option maxHeartbeats 4000000 in
theorem rints_row (xs ys : List Int) (b off cap b2 off2 cap2 : Nat) (w : World) (hl : xs.length ≤ 900000) (hlen : xs.length = ys.length) (hb : b < w.heap.size) (hr : RN.Row w b off xs) (hb2 : b2 < w.heap.size) (hr2 : RN.Row w b2 off2 ys) :
    Calls Try.prog 29 #[.slice (some ⟨b, off, none⟩) xs.length cap, .slice (some ⟨b2, off2, none⟩) ys.length cap2] w (Ret (.bool (decide (xs = ys))) w) := by
  have hrow : Hid (∀ (W : World), Below w.heap.size w W → ∀ j, j < xs.length → _) := fun W hW j hj => atN (hr.below hW hb) j hj
  have hrow2 : Hid (∀ (W : World), Below w.heap.size w W → ∀ j, j < ys.length → _) := fun W hW j hj => atN (hr2.below hW hb2) j hj
  clear hr hr2
  rw [← hlen]
  generalize hn : xs.length = n at hl hlen
  have HN := Lib.hid hn
  have HM := Lib.hid hlen
  clear hn hlen
  generalize hres : decide (xs = ys) = res
  have HR := Lib.hid hres
  clear hres
  have hnn : ((n : Int) != (n : Int)) = false := by simp
  go_enter Try.func29, Try.ntmps29
  go_wp2
  go_loopg [5] n (fun gg i wr => ∃ k : Nat, k ≤ n ∧ n - k ≤ gg ∧ i = .int .i64 k ∧ Hid (Below w.heap.size w wr) ∧ Hid (xs.take k = ys.take k))
  case atStart => exact ⟨0, Nat.zero_le _, by omega, rfl, (Below.refl _ _), rfl⟩
  case round =>
    obtain ⟨k, hkn, hg, rfl, HB, HC⟩ := hrel
    by_cases hlt : k < n
    · have hlz : (k : Int) < (n : Int) := by omega
      have hc := fun m => hrow.out (wr.drewN m) (below_drewN HB.out m) k (by rw [HN.out]; exact hlt)
      have hc2 := fun m => hrow2.out (wr.drewN m) (below_drewN HB.out m) k (by rw [← HM.out]; exact hlt)
      have hgo := fun (h : xs[k]! = ys[k]!) => show xs.take (k + 1) = ys.take (k + 1) by rw [take_getA xs k (by rw [HN.out]; exact hlt), take_getA ys k (by rw [← HM.out]; exact hlt), HC.out, h]
      have hno := fun (h : ¬ xs[k]! = ys[k]!) => show res = false from by rw [← HR.out]; exact decide_eq_false (fun e => h (by rw [e]))
      generalize xs[k]! = x at hc hgo hno
      generalize ys[k]! = y at hc2 hgo hno
      clear hrow hrow2
      by_cases hxy : x = y
      · have hq : (x != y) = false := by simp [hxy]
        have HG := Lib.hid (hgo hxy)
        clear hgo hno hxy
        go_wp2_with fail
        go_quiet (fail)
        go_wp2
        go_roundg (n - (k + 1))
        case measure => omega
        case rel => exact ⟨k + 1, by omega, by omega, by go_num, below_drewN HB.out _, HG.out⟩
      · have hq : (x != y) = true := by simpa using hxy
        have HG := Lib.hid (hno hxy)
        clear hgo hno hxy
        go_wp2_with fail
        go_quiet (fail)
        go_wp2
        go_returns
        exact ⟨ret_bool HG.out.symm, below_drewN HB.out _⟩
    · have hlz : ¬ (k : Int) < (n : Int) := by omega
      have : k = n := by omega
      subst this
      have HX : Hid (res = true) := by
        have h := HC.out
        rw [List.take_of_length_le (by rw [HN.out]; exact Nat.le_refl _), List.take_of_length_le (by rw [← HM.out]; exact Nat.le_refl _)] at h
        show res = true
        rw [← HR.out]
        exact decide_eq_true h
      clear HC hrow hrow2
      go_wp2
      go_returns
      exact ⟨ret_bool HX.out.symm, HB.out⟩
set_option maxHeartbeats 2000000 in
theorem rints_no (xs ys : List Int) (p q : Option Addr) (cap cap2 : Nat) (w : World) (hlen : xs.length ≠ ys.length) :
    Calls Try.prog 29 #[.slice p xs.length cap, .slice q ys.length cap2] w (Ret (.bool (decide (xs = ys))) w) := by
  rw [decide_eq_false (fun e => hlen (by rw [e]))]
  generalize xs.length = n at *
  generalize ys.length = m at *
  have hne : ¬ (n : Int) = (m : Int) := by omega
  have hneb : ((n : Int) != (m : Int)) = true := by simpa using hne
  go_enter Try.func29, Try.ntmps29
  go_wp2
  go_returns
  exact ⟨rfl, Below.refl _ _⟩
set_option maxHeartbeats 2000000 in
theorem rints_nil (p q : Option Addr) (cap cap2 : Nat) (w : World) :
    Calls Try.prog 29 #[.slice p 0 cap, .slice q 0 cap2] w (Ret (.bool (decide (([] : List Int) = []))) w) := by
  rw [decide_eq_true rfl]
  go_enter Try.func29, Try.ntmps29
  go_wp2
  refine wp_loop_rounds 1 ?_
  rw [rounds_succ]
  go_wp2
  go_returns
  exact ⟨rfl, Below.refl _ _⟩
theorem rints_any (xs ys : List Int) (va vb : Value) (w : World) (h1 : xs.length ≤ 900000) (ha : RN.Is w va xs) (hb : RN.Is w vb ys) : Calls Try.prog 29 #[va, vb] w (Ret (.bool (decide (xs = ys))) w) := by
  by_cases hlen : xs.length = ys.length
  · rcases ha with ⟨rfl, p, cap, rfl, _⟩ | ⟨hne, b, off, cap, rfl, hl, hr⟩
    · obtain rfl : ys = [] := List.length_eq_zero_iff.1 hlen.symm
      obtain ⟨q, d, rfl⟩ := hb.slice
      exact rints_nil p q cap d w
    · rcases hb with ⟨rfl, q, d, rfl, _⟩ | ⟨_, b2, off2, cap2, rfl, hl2, hr2⟩
      · exact absurd (List.length_eq_zero_iff.1 hlen) hne
      · exact rints_row xs ys b off cap b2 off2 cap2 w h1 hlen hl hr hl2 hr2
  · obtain ⟨p, c, rfl⟩ := ha.slice
    obtain ⟨q, d, rfl⟩ := hb.slice
    exact rints_no xs ys p q c d w hlen

set_option maxRecDepth 100000 in
set_option maxHeartbeats 4000000 in
theorem rinss_row (xs ys : List NV) (b off cap b2 off2 cap2 : Nat) (w : World) (hl : xs.length ≤ 900000) (hlen : xs.length = ys.length) (hb : b < w.heap.size) (hr : RC.Row w b off xs) (hb2 : b2 < w.heap.size) (hr2 : RC.Row w b2 off2 ys) :
    Calls Try.prog 30 #[.slice (some ⟨b, off, none⟩) xs.length cap, .slice (some ⟨b2, off2, none⟩) ys.length cap2] w (Ret (.bool (decide (xs = ys))) w) := by
  have hrow : Hid (∀ (W : World), Below w.heap.size w W → ∀ j, j < xs.length → _) := fun W hW j hj => atC7 (hr.below hW hb) j hj
  have hrow2 : Hid (∀ (W : World), Below w.heap.size w W → ∀ j, j < ys.length → _) := fun W hW j hj => atC7 (hr2.below hW hb2) j hj
  clear hr hr2
  rw [← hlen]
  generalize hn : xs.length = n at hl hlen
  have HN := Lib.hid hn
  have HM := Lib.hid hlen
  clear hn hlen
  generalize hres : decide (xs = ys) = res
  have HR := Lib.hid hres
  clear hres
  have hnn : ((n : Int) != (n : Int)) = false := by simp
  go_enter Try.func30, Try.ntmps30
  go_wp2
  go_loopg [5] n (fun gg i wr => ∃ k : Nat, k ≤ n ∧ n - k ≤ gg ∧ i = .int .i64 k ∧ Hid (Below w.heap.size w wr) ∧ Hid (xs.take k = ys.take k))
  case atStart => exact ⟨0, Nat.zero_le _, by omega, rfl, (Below.refl _ _), rfl⟩
  case round =>
    obtain ⟨k, hkn, hg, rfl, HB, HC⟩ := hrel
    by_cases hlt : k < n
    · have hlz : (k : Int) < (n : Int) := by omega
      have hcc := fun m => hrow.out (wr.drewN m) (below_drewN HB.out m) k (by rw [HN.out]; exact hlt)
      have hcc2 := fun m => hrow2.out (wr.drewN m) (below_drewN HB.out m) k (by rw [← HM.out]; exact hlt)
      have hgo := fun (h : xs[k]! = ys[k]!) => show xs.take (k + 1) = ys.take (k + 1) by rw [take_getA xs k (by rw [HN.out]; exact hlt), take_getA ys k (by rw [← HM.out]; exact hlt), HC.out, h]
      have hno := fun (h : ¬ xs[k]! = ys[k]!) => show res = false from by rw [← HR.out]; exact decide_eq_false (fun e => h (by rw [e]))
      generalize xs[k]! = x at hcc hgo hno
      generalize ys[k]! = y at hcc2 hgo hno
      have f0 := fun m => (hcc m).1; have f1 := fun m => (hcc m).2; have g0 := fun m => (hcc2 m).1; have g1 := fun m => (hcc2 m).2
      obtain ⟨x0, x1⟩ := x
      obtain ⟨y0, y1⟩ := y
      simp only at f0 f1 g0 g1
      clear hcc hcc2
      clear hrow hrow2
      by_cases hxy : (⟨x0, x1⟩ : NV) = ⟨y0, y1⟩
      · have hq : eqV ⟨x0, x1⟩ ⟨y0, y1⟩ = true := decide_eq_true hxy
        have HG := Lib.hid (hgo hxy)
        clear hgo hno hxy
        go_wp2_with fail
        go_quiet (fail)
        go_wp2
        go_roundg (n - (k + 1))
        case measure => omega
        case rel => exact ⟨k + 1, by omega, by omega, by go_num, below_drewN HB.out _, HG.out⟩
      · have hq : eqV ⟨x0, x1⟩ ⟨y0, y1⟩ = false := decide_eq_false hxy
        have HG := Lib.hid (hno hxy)
        clear hgo hno hxy
        go_wp2_with fail
        go_quiet (fail)
        go_wp2
        go_returns
        exact ⟨ret_bool HG.out.symm, below_drewN HB.out _⟩
    · have hlz : ¬ (k : Int) < (n : Int) := by omega
      have : k = n := by omega
      subst this
      have HX : Hid (res = true) := by
        have h := HC.out
        rw [List.take_of_length_le (by rw [HN.out]; exact Nat.le_refl _), List.take_of_length_le (by rw [← HM.out]; exact Nat.le_refl _)] at h
        show res = true
        rw [← HR.out]
        exact decide_eq_true h
      clear HC hrow hrow2
      go_wp2
      go_returns
      exact ⟨ret_bool HX.out.symm, HB.out⟩
set_option maxHeartbeats 2000000 in
theorem rinss_no (xs ys : List NV) (p q : Option Addr) (cap cap2 : Nat) (w : World) (hlen : xs.length ≠ ys.length) :
    Calls Try.prog 30 #[.slice p xs.length cap, .slice q ys.length cap2] w (Ret (.bool (decide (xs = ys))) w) := by
  rw [decide_eq_false (fun e => hlen (by rw [e]))]
  generalize xs.length = n at *
  generalize ys.length = m at *
  have hne : ¬ (n : Int) = (m : Int) := by omega
  have hneb : ((n : Int) != (m : Int)) = true := by simpa using hne
  go_enter Try.func30, Try.ntmps30
  go_wp2
  go_returns
  exact ⟨rfl, Below.refl _ _⟩
set_option maxHeartbeats 2000000 in
theorem rinss_nil (p q : Option Addr) (cap cap2 : Nat) (w : World) :
    Calls Try.prog 30 #[.slice p 0 cap, .slice q 0 cap2] w (Ret (.bool (decide (([] : List NV) = []))) w) := by
  rw [decide_eq_true rfl]
  go_enter Try.func30, Try.ntmps30
  go_wp2
  refine wp_loop_rounds 1 ?_
  rw [rounds_succ]
  go_wp2
  go_returns
  exact ⟨rfl, Below.refl _ _⟩
theorem rinss_any (xs ys : List NV) (va vb : Value) (w : World) (h1 : xs.length ≤ 900000) (ha : RC.Is w va xs) (hb : RC.Is w vb ys) : Calls Try.prog 30 #[va, vb] w (Ret (.bool (decide (xs = ys))) w) := by
  by_cases hlen : xs.length = ys.length
  · rcases ha with ⟨rfl, p, cap, rfl, _⟩ | ⟨hne, b, off, cap, rfl, hl, hr⟩
    · obtain rfl : ys = [] := List.length_eq_zero_iff.1 hlen.symm
      obtain ⟨q, d, rfl⟩ := hb.slice
      exact rinss_nil p q cap d w
    · rcases hb with ⟨rfl, q, d, rfl, _⟩ | ⟨_, b2, off2, cap2, rfl, hl2, hr2⟩
      · exact absurd (List.length_eq_zero_iff.1 hlen) hne
      · exact rinss_row xs ys b off cap b2 off2 cap2 w h1 hlen hl hr hl2 hr2
  · obtain ⟨p, c, rfl⟩ := ha.slice
    obtain ⟨q, d, rfl⟩ := hb.slice
    exact rinss_no xs ys p q c d w hlen

end Go.Proofs.Ytdhmoiiagplbpaa
