import Derived.Test.YtcaolilhemamiaaFr
namespace Go.Proofs.Ytcaolilhemamiaa
open Go.RowKit
set_option linter.unusedVariables false
set_option linter.unusedSimpArgs false
attribute [local go_sem ↓] eqTime neTime

def sumC (xs : List CV) : Int := (xs.map CV.n).sum
theorem sumC_append (xs ys : List CV) : sumC (xs ++ ys) = sumC xs + sumC ys := by simp [sumC]
theorem sumC_one (c : CV) : sumC [c] = c.n := by simp [sumC]
def totC (xs : List CV) : Int := if rightC xs = true then sumC xs else 0
def atN (xs : List CV) (t : TV) : Int := ((xs.find? fun c => eqT c.t t).map CV.n).getD 0
def atR (xs : List CV) (t : TV) : Int := if rightC xs = true then atN xs t else 0
theorem right_n {xs : List CV} (h : rightC xs = true) {j : Nat} (hj : j < xs.length) : -2147483648 ≤ (xs[j]!).n ∧ (xs[j]!).n ≤ 2147483648 := by
  have h1 := (of_decide_eq_true h j hj).1
  simp only [CV.ok, fitsN, Bool.and_eq_true, decide_eq_true_eq] at h1
  exact h1.2.2
theorem atN_hit {xs : List CV} {t : TV} {k : Nat} (hk : k < xs.length) (h : (xs.take k).find? (fun c => eqT c.t t) = none) (he : eqT (xs[k]!).t t = true) : atN xs t = (xs[k]!).n := by
  have e : xs = xs.take (k + 1) ++ xs.drop (k + 1) := (List.take_append_drop _ _).symm
  unfold atN
  rw [e, take_getA xs k hk, List.find?_append, List.find?_append, h]
  have hg : (xs.take k ++ [xs[k]!] ++ xs.drop (k + 1))[k]! = xs[k]! := by rw [← take_getA xs k hk, ← e]
  rw [hg]
  rw [List.find?_cons, he]
  rfl
theorem find_none {xs : List CV} {t : TV} {k : Nat} (hk : k < xs.length) (h : (xs.take k).find? (fun c => eqT c.t t) = none) (he : eqT (xs[k]!).t t = false) : (xs.take (k + 1)).find? (fun c => eqT c.t t) = none := by
  rw [take_getA xs k hk, List.find?_append, h]
  rw [List.find?_cons, he]
  rfl
theorem atN_miss {xs : List CV} {t : TV} (h : xs.find? (fun c => eqT c.t t) = none) : atN xs t = 0 := by simp [atN, h]

set_option maxRecDepth 100000 in
set_option maxHeartbeats 4000000 in
theorem total_row (xs : List CV) (b off cap : Nat) (w : World) (hl : xs.length ≤ 900000) (hb : b < w.heap.size) (hr : RC.Row w b off xs) (h0 : xs ≠ []) :
    Calls Try.prog 35 #[.slice (some ⟨b, off, none⟩) xs.length cap] w (Ret (.int .i64 (totC xs)) w) := by
  have hrow : Hid (∀ (W : World), Below w.heap.size w W → ∀ j, j < xs.length → _) := fun W hW j hj => atC (hr.below hW hb) j hj
  have hRT := fright_any xs (.slice (some ⟨b, off, none⟩) xs.length cap) w hl (.inr ⟨h0, b, off, cap, rfl, hb, hr⟩)
  have hno : rightC xs = false → totC xs = 0 := fun h => by unfold totC; rw [h]; rfl
  have hyes : rightC xs = true → totC xs = sumC xs := fun h => by unfold totC; rw [h]; rfl
  have hbd : rightC xs = true → ∀ j, j < xs.length → _ := fun h j hj => right_n h hj
  generalize rightC xs = q at hRT hno hyes hbd
  generalize totC xs = res at hno hyes ⊢
  have HRT := Lib.hid hRT; have HNo := Lib.hid hno; have HYes := Lib.hid hyes; have HBd := Lib.hid hbd
  clear hr hRT hno hyes h0 hbd
  generalize hn : xs.length = n at hl HRT HBd hrow
  have HN := Lib.hid hn
  clear hn
  go_enter Try.func35, Try.ntmps35
  go_wp2_with fail
  refine (HRT.out).mono ?_
  rintro e w1 ⟨rfl, hb1⟩
  have HB1 := Lib.hid hb1
  clear hb1 HRT
  cases q
  · go_wp2
    go_returns
    exact ⟨by rw [HNo.out (by trivial)]; rfl, HB1.out⟩
  · go_wp2
    go_loopg [3, 11] n (fun gg v i wr => ∃ (k : Nat) (s : Int), k ≤ n ∧ n - k ≤ gg ∧ i = .int .i64 k ∧ v = .int .i64 s ∧ -((k : Int) * 2147483648) ≤ s ∧ s ≤ (k : Int) * 2147483648 ∧ Hid (Below w.heap.size w wr) ∧ Hid (s = sumC (xs.take k)))
    case atStart => exact ⟨0, 0, Nat.zero_le _, by omega, rfl, rfl, by omega, by omega, HB1.out, rfl⟩
    case round =>
      obtain ⟨k, s, hkn, hg, rfl, rfl, hs1, hs2, HB, HS⟩ := hrel
      by_cases hlt : k < n
      · have hlz : (k : Int) < (n : Int) := by omega
        have hc := hrow.out wr HB.out k hlt
        obtain ⟨b1, b2⟩ := HBd.out (by trivial) k hlt
        have hsum : sumC (xs.take (k + 1)) = s + (xs[k]!).n := by rw [take_getA xs k (by rw [HN.out]; exact hlt), sumC_append, sumC_one, HS.out]
        generalize xs[k]! = c at hc b1 b2 hsum
        obtain ⟨t, m⟩ := c
        obtain ⟨e0, e1, e2, e3, e4, e5⟩ := hc
        simp only at e0 e1 e2 e3 e4 e5 b1 b2 hsum
        have HSum := Lib.hid hsum
        have h1 : -9223372036854775808 ≤ s + m := by omega
        have h2 : s + m ≤ 9223372036854775807 := by omega
        have hBn := Lib.hid ((HB.out).alloc HB.out.size (.cells #[.int .i64 t.d, .int .i64 t.c0, .int .i64 t.c1, .int .i64 t.c2, .int .i64 t.c3, .int .i64 m] 52))
        clear hrow hsum
        go_wp2
        go_roundg (n - (k + 1))
        case measure => omega
        case rel => exact ⟨k + 1, s + m, by omega, by omega, by go_num, rfl, by omega, by omega, hBn.out, HSum.out.symm⟩
      · have hlz : ¬ (k : Int) < (n : Int) := by omega
        have : k = n := by omega
        subst this
        have HX : Hid (res = s) := by
          have h := HS.out
          rw [List.take_of_length_le (by rw [HN.out]; exact Nat.le_refl _)] at h
          show res = s
          rw [h]
          exact HYes.out (by trivial)
        clear HS hrow
        go_wp2
        go_returns
        exact ⟨by rw [HX.out]; rfl, HB.out⟩
set_option maxHeartbeats 2000000 in
theorem total_nil (p : Option Addr) (cap : Nat) (w : World) : Calls Try.prog 35 #[.slice p 0 cap] w (Ret (.int .i64 (totC [])) w) := by
  have HRT := Lib.hid (fright_nil p cap w)
  go_enter Try.func35, Try.ntmps35
  go_wp2_with fail
  refine (HRT.out).mono ?_
  rintro e w1 ⟨rfl, hb1⟩
  have HB1 := Lib.hid hb1
  have hr : rightC [] = true := by decide
  rw [hr]
  clear hb1 HRT
  go_wp2
  refine wp_loop_rounds 1 ?_
  rw [rounds_succ]
  go_wp2
  go_returns
  exact ⟨rfl, HB1.out⟩
theorem total_any (xs : List CV) (v : Value) (w : World) (hl : xs.length ≤ 900000) (h : RC.Is w v xs) : Calls Try.prog 35 #[v] w (Ret (.int .i64 (totC xs)) w) := by
  rcases h with ⟨rfl, p, cap, rfl, _⟩ | ⟨h0, b, off, cap, rfl, hb, hr⟩
  · exact total_nil p cap w
  · exact total_row xs b off cap w hl hb hr h0
set_option maxRecDepth 100000 in
set_option maxHeartbeats 4000000 in
theorem at_row (xs : List CV) (u : TV) (b off cap : Nat) (w : World) (hl : xs.length ≤ 900000) (hb : b < w.heap.size) (hr : RC.Row w b off xs) (h0 : xs ≠ []) :
    Calls Try.prog 33 #[.slice (some ⟨b, off, none⟩) xs.length cap, u.val] w (Ret (.int .i64 (atR xs u)) w) := by
  have hrow : Hid (∀ (W : World), Below w.heap.size w W → ∀ j, j < xs.length → _) := fun W hW j hj => atC (hr.below hW hb) j hj
  have HRT := Lib.hid (fun (W : World) (hW : Below w.heap.size w W) => fright_any xs (.slice (some ⟨b, off, none⟩) xs.length cap) W hl (.inr ⟨h0, b, off, cap, rfl, Nat.lt_of_lt_of_le hb hW.size, hr.below hW hb⟩))
  have hno : rightC xs = false → atR xs u = 0 := fun h => by unfold atR; rw [h]; rfl
  have hyes : rightC xs = true → atR xs u = atN xs u := fun h => by unfold atR; rw [h]; rfl
  generalize rightC xs = q at HRT hno hyes
  generalize atR xs u = res at hno hyes ⊢
  have HNo := Lib.hid hno; have HYes := Lib.hid hyes
  clear hr hno hyes h0
  generalize hn : xs.length = n at hl HRT hrow
  have HN := Lib.hid hn
  clear hn
  go_enter Try.func33, Try.ntmps33
  go_wp2_with fail
  have HB0 := Lib.hid ((Below.refl w.heap.size w).alloc (Nat.le_refl _) (.cells #[.int .i64 u.d, .int .i64 u.c0, .int .i64 u.c1, .int .i64 u.c2, .int .i64 u.c3] 26))
  refine (HRT.out _ HB0.out).mono ?_
  rintro e w1 ⟨rfl, hb1⟩
  have hBx := (Own5.new w (.int .i64 u.d) (.int .i64 u.c0) (.int .i64 u.c1) (.int .i64 u.c2) (.int .i64 u.c3) 26).below hb1 (by simp)
  have HB1 := Lib.hid (HB0.out.trans (hb1.mono HB0.out.size))
  have hl1 : w.heap.size < w1.heap.size := by have := hb1.size; simp at this; omega
  have HU5 : Hid (∀ W, Below w1.heap.size w1 W → Own5 W w.heap.size (.int .i64 u.d) (.int .i64 u.c0) (.int .i64 u.c1) (.int .i64 u.c2) (.int .i64 u.c3)) := fun W hW => hBx.below hW hl1
  clear hb1 HRT hBx
  cases q
  · go_wp2
    go_returns
    exact ⟨by rw [HNo.out (by trivial)]; rfl, HB1.out⟩
  · go_wp2
    go_loopg [12] n (fun gg i wr => ∃ (k : Nat), k ≤ n ∧ n - k ≤ gg ∧ i = .int .i64 k ∧ Hid (Below w1.heap.size w1 wr) ∧ Hid ((xs.take k).find? (fun c => eqT c.t u) = none))
    case atStart => exact ⟨0, Nat.zero_le _, by omega, rfl, Below.refl _ _, rfl⟩
    case round =>
      obtain ⟨k, hkn, hg, rfl, HB, HF⟩ := hrel
      by_cases hlt : k < n
      · have hlz : (k : Int) < (n : Int) := by omega
        have hBw := HB1.out.trans (HB.out.mono HB1.out.size)
        have hc := hrow.out wr hBw k hlt
        have hhit := fun h => atN_hit (xs := xs) (t := u) (k := k) (by rw [HN.out]; exact hlt) HF.out h
        have hmiss := fun h => find_none (xs := xs) (t := u) (k := k) (by rw [HN.out]; exact hlt) HF.out h
        generalize xs[k]! = c at hc hhit hmiss
        obtain ⟨t, m⟩ := c
        obtain ⟨e0, e1, e2, e3, e4, e5⟩ := hc
        simp only at e0 e1 e2 e3 e4 e5 hhit hmiss
        obtain ⟨r0, r1, r2, r3, r4, _, _, _, _, _⟩ := HU5.out wr HB.out
        have hlw := HB.out.size
        have hlu : w.heap.size < wr.heap.size := by omega
        have hne : w.heap.size ≠ wr.heap.size := by omega
        have hne' := Ne.symm hne
        have hBn := Lib.hid ((HB.out).alloc HB.out.size (.cells #[.int .i64 t.d, .int .i64 t.c0, .int .i64 t.c1, .int .i64 t.c2, .int .i64 t.c3, .int .i64 m] 52))
        clear hrow HU5
        cases hq : eqT t u
        · have hq5 : eqT ⟨t.d, t.c0, t.c1, t.c2, t.c3⟩ ⟨u.d, u.c0, u.c1, u.c2, u.c3⟩ = false := hq
          have HM := Lib.hid (hmiss hq)
          clear hmiss hhit hq hBw
          go_wp2
          go_roundg (n - (k + 1))
          case measure => omega
          case rel => exact ⟨k + 1, by omega, by omega, by go_num, hBn.out, HM.out⟩
        · have hq5 : eqT ⟨t.d, t.c0, t.c1, t.c2, t.c3⟩ ⟨u.d, u.c0, u.c1, u.c2, u.c3⟩ = true := hq
          have HM := Lib.hid ((HYes.out (by trivial)).trans (hhit hq))
          clear hmiss hhit hq hBw
          go_wp2
          go_returns
          exact ⟨by rw [HM.out]; rfl, HB1.out.trans (hBn.out.mono HB1.out.size)⟩
      · have hlz : ¬ (k : Int) < (n : Int) := by omega
        have : k = n := by omega
        subst this
        have HX : Hid (res = 0) := by
          have h := HF.out
          rw [List.take_of_length_le (by rw [HN.out]; exact Nat.le_refl _)] at h
          exact (HYes.out (by trivial)).trans (atN_miss h)
        clear HF hrow
        go_wp2
        go_returns
        exact ⟨by rw [HX.out]; rfl, HB1.out.trans (HB.out.mono HB1.out.size)⟩
set_option maxHeartbeats 2000000 in
theorem at_nil (p : Option Addr) (cap : Nat) (u : TV) (w : World) : Calls Try.prog 33 #[.slice p 0 cap, u.val] w (Ret (.int .i64 (atR [] u)) w) := by
  have HRT := Lib.hid (fun W => fright_nil p cap W)
  have HB0 := Lib.hid ((Below.refl w.heap.size w).alloc (Nat.le_refl _) (.cells #[.int .i64 u.d, .int .i64 u.c0, .int .i64 u.c1, .int .i64 u.c2, .int .i64 u.c3] 26))
  go_enter Try.func33, Try.ntmps33
  go_wp2_with fail
  refine (HRT.out _).mono ?_
  rintro e w1 ⟨rfl, hb1⟩
  have HB1 := Lib.hid (HB0.out.trans (hb1.mono HB0.out.size))
  have hr : rightC [] = true := by decide
  rw [hr]
  clear hb1 HRT
  go_wp2
  refine wp_loop_rounds 1 ?_
  rw [rounds_succ]
  go_wp2
  go_returns
  exact ⟨rfl, HB1.out⟩
theorem frontAt_any (xs : List CV) (u : TV) (v : Value) (w : World) (hl : xs.length ≤ 900000) (h : RC.Is w v xs) : Calls Try.prog 33 #[v, u.val] w (Ret (.int .i64 (atR xs u)) w) := by
  rcases h with ⟨rfl, p, cap, rfl, _⟩ | ⟨h0, b, off, cap, rfl, hb, hr⟩
  · exact at_nil p cap u w
  · exact at_row xs u b off cap w hl hb hr h0
end Go.Proofs.Ytcaolilhemamiaa
