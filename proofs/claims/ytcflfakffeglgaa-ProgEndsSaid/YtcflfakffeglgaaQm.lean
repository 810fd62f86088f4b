/- the program's own rightOne and Right -/
import Derived.Test.YtcflfakffeglgaaQc
namespace Go.Proofs.Ytcflfakffeglgaa
open Go.RowKit
set_option linter.unusedVariables false
set_option linter.unusedSimpArgs false

theorem retB {a : Bool} {b : Bool} (h : a = b) : Ending.returned (.bool a) = .returned (.bool b) := by rw [h]
set_option maxRecDepth 100000 in
set_option maxHeartbeats 8000000 in
theorem prightOne_any (op n : Int) (len : Nat) (w : World) : Calls Try.prog 16 #[.agg #[.int .i64 op, .int .i64 n], .int .i64 (len : Int)] w (Ret (.bool (decide (NV.ok len ⟨op, n⟩))) w) := by
  have HB := Lib.hid ((Below.refl w.heap.size w).alloc (Nat.le_refl _) (.cells #[.int .i64 op, .int .i64 n] 33))
  by_cases h1 : op = 1
  · subst h1
    rw [decide_eq_true (show NV.ok len ⟨1, n⟩ by unfold NV.ok; simp only; omega)]
    go_enter Try.func16, Try.ntmps16
    go_wp2
    all_goals go_returns
    all_goals exact ⟨rfl, HB.out⟩
  have e1 : (op == 1) = false := by simpa using h1
  by_cases hj : op = 14 ∨ op = 15
  · have hv : decide (NV.ok len ⟨op, n⟩) = (decide (0 ≤ n) && decide (n ≤ (len : Int))) := by
      rw [Bool.eq_iff_iff, Bool.and_eq_true, decide_eq_true_eq, decide_eq_true_eq, decide_eq_true_eq]
      unfold NV.ok
      simp only
      omega
    rw [hv]
    clear hv h1
    have hop : op = 14 ∨ op = 15 := hj
    clear hj
    rcases hop with rfl | rfl
    all_goals
      by_cases z0 : 0 ≤ n
      · by_cases z1 : n ≤ (len : Int)
        · rw [decide_eq_true z0, decide_eq_true z1]
          go_enter Try.func16, Try.ntmps16
          go_wp2
          all_goals go_returns
          all_goals exact ⟨rfl, HB.out⟩
        · rw [decide_eq_true z0, decide_eq_false z1]
          go_enter Try.func16, Try.ntmps16
          go_wp2
          all_goals go_returns
          all_goals exact ⟨rfl, HB.out⟩
      · rw [decide_eq_false z0, Bool.false_and]
        go_enter Try.func16, Try.ntmps16
        go_wp2
        all_goals go_returns
        all_goals exact ⟨rfl, HB.out⟩
  have e2 : (op == 14) = false := by simp; omega
  have e3 : (op == 15) = false := by simp; omega
  have hv : decide (NV.ok len ⟨op, n⟩) = (decide (1 < op) && decide (op ≤ 16) && decide (n = 0)) := by
    rw [Bool.eq_iff_iff, Bool.and_eq_true, Bool.and_eq_true, decide_eq_true_eq, decide_eq_true_eq, decide_eq_true_eq, decide_eq_true_eq]
    unfold NV.ok
    simp only
    omega
  rw [hv]
  clear hv h1 hj
  by_cases z0 : 1 < op
  · rw [decide_eq_true z0]
    by_cases z1 : op ≤ 16
    · rw [decide_eq_true z1]
      by_cases z2 : n = 0
      · subst z2
        go_enter Try.func16, Try.ntmps16
        go_wp2
        all_goals go_returns
        all_goals exact ⟨rfl, HB.out⟩
      · rw [decide_eq_false z2]
        have e4 : (n == 0) = false := by simpa using z2
        go_enter Try.func16, Try.ntmps16
        go_wp2
        all_goals go_returns
        all_goals exact ⟨rfl, HB.out⟩
    · rw [decide_eq_false z1, Bool.true_and, Bool.false_and]
      go_enter Try.func16, Try.ntmps16
      go_wp2
      all_goals go_returns
      all_goals exact ⟨rfl, HB.out⟩
  · rw [decide_eq_false z0, Bool.false_and, Bool.false_and]
    go_enter Try.func16, Try.ntmps16
    go_wp2
    all_goals go_returns
    all_goals exact ⟨rfl, HB.out⟩
set_option maxRecDepth 100000 in
set_option maxHeartbeats 8000000 in
theorem pright_row (xs : List NV) (b off cap : Nat) (w : World) (hl : xs.length ≤ 900000) (hb : b < w.heap.size) (hr : RC.Row w b off xs) :
    Calls Try.prog 11 #[.slice (some ⟨b, off, none⟩) xs.length cap] w (Ret (.bool (rightC xs)) w) := by
  have hrow : Hid (∀ (W : World), Below w.heap.size w W → ∀ j, j < xs.length → _) := fun W hW j hj => atC7 (hr.below hW hb) j hj
  have hstep := Lib.hid (fun j (hj : j < xs.length) => all_drop (len := xs.length) hj)
  have hst : xs.length ≤ 64 → (xs.drop 0).all (fun x => decide (x.ok xs.length)) = rightC xs := fun h => by unfold rightC; rw [decide_eq_true h, Bool.and_true]; rfl
  have hbig : ¬ xs.length ≤ 64 → rightC xs = false := fun h => by unfold rightC; rw [decide_eq_false h, Bool.and_false]
  have hend : ((xs.drop xs.length).all fun x => decide (x.ok xs.length)) = true := by rw [List.drop_length]; rfl
  have HSt := Lib.hid hst; have HEnd := Lib.hid hend; have HBig := Lib.hid hbig
  clear hr hst hend hbig
  generalize rightC xs = res at *
  generalize hn : xs.length = n at *
  have HN := Lib.hid hn
  clear hn
  have HC := Lib.hid (fun op nn W => prightOne_any op nn n W)
  by_cases h64 : (n : Int) > 64
  · have hq := HBig.out (by omega)
    subst hq
    clear hrow hstep
    go_enter Try.func11, Try.ntmps11
    go_wp2
    all_goals go_returns
    all_goals exact ⟨rfl, Below.refl _ _⟩
  have HSt2 := Lib.hid (HSt.out (by omega))
  clear HSt HBig
  go_enter Try.func11, Try.ntmps11
  go_wp2
  go_loopg [10] n (fun gg i wr => ∃ k : Nat, k ≤ n ∧ n - k ≤ gg ∧ i = .int .i64 k ∧ Hid (Below w.heap.size w wr) ∧ Hid ((xs.drop k).all (fun x => decide (x.ok n)) = res))
  case atStart => exact ⟨0, Nat.zero_le _, by omega, rfl, (Below.refl _ _), HSt2.out⟩
  case round =>
    obtain ⟨k, hkn, hg, rfl, HB, HQ⟩ := hrel
    by_cases hlt : k < n
    · have hlz : (k : Int) < (n : Int) := by omega
      have hc := hrow.out wr HB.out k hlt
      have hq := HQ.out
      rw [hstep.out k hlt] at hq
      generalize xs[k]! = x at hc hq
      obtain ⟨op, nn⟩ := x
      obtain ⟨f0, f1⟩ := hc
      simp only at f0 f1
      have HCx := Lib.hid (HC.out op nn)
      generalize decide (NV.ok n ⟨op, nn⟩) = ok at *
      have HB1 := Lib.hid (HB.out.alloc HB.out.size (.cells #[.int .i64 op, .int .i64 nn] 33))
      clear hrow hstep HQ HC
      have HQ2 := Lib.hid hq
      clear hq
      go_wp2_with fail
      refine (HCx.out _).mono ?_
      rintro e w1 ⟨rfl, hb1⟩
      have HB2 := Lib.hid (HB1.out.trans (hb1.mono HB1.out.size))
      clear hb1 f0 f1
      cases ok
      · have hq := HQ2.out
        rw [Bool.false_and] at hq
        subst hq
        go_wp2
        all_goals go_returns
        all_goals exact ⟨rfl, HB2.out⟩
      · have hq := HQ2.out
        rw [Bool.true_and] at hq
        have HQ3 := Lib.hid hq
        clear hq
        go_wp2
        go_roundg (n - (k + 1))
        case measure => omega
        case rel => exact ⟨k + 1, by omega, by omega, by go_num, HB2.out, HQ3.out⟩
    · have hlz : ¬ (k : Int) < (n : Int) := by omega
      obtain rfl : k = n := by omega
      have hq := HQ.out
      rw [HEnd.out] at hq
      subst hq
      clear hrow hstep HQ
      go_wp2
      all_goals go_returns
      all_goals exact ⟨rfl, HB.out⟩
set_option maxHeartbeats 2000000 in
theorem pright_nil (p : Option Addr) (cap : Nat) (w : World) : Calls Try.prog 11 #[.slice p 0 cap] w (Ret (.bool (rightC [])) w) := by
  have h : rightC [] = true := rfl
  rw [h]
  go_enter Try.func11, Try.ntmps11
  go_wp2
  refine wp_loop_rounds 1 ?_
  rw [rounds_succ]
  go_wp2
  go_returns
  exact ⟨rfl, Below.refl _ _⟩
theorem pright_any (xs : List NV) (v : Value) (w : World) (hl : xs.length ≤ 900000) (h : RC.Is w v xs) : Calls Try.prog 11 #[v] w (Ret (.bool (rightC xs)) w) := by
  rcases h with ⟨rfl, p, cap, rfl, _⟩ | ⟨_, b, off, cap, rfl, hb, hr⟩
  · exact pright_nil p cap w
  · exact pright_row xs b off cap w hl hb hr
end Go.Proofs.Ytcflfakffeglgaa
