import Derived.Test.YtcaolilhemamiaaCo
import Derived.Test.YtcaolilhemamiaaCc
namespace Go.Proofs.Ytcaolilhemamiaa
open Go.RowKit
set_option linter.unusedVariables false
set_option linter.unusedSimpArgs false

theorem foldl_take (ys : List TV) (k : Nat) (hk : k < ys.length) : (ys.take (k + 1)).foldl lowStep [] = lowStep ((ys.take k).foldl lowStep []) ys[k]! := by
  rw [take_get ys k hk, List.foldl_append]
  rfl
set_option maxRecDepth 100000 in
set_option maxHeartbeats 8000000 in
/-- chain.Of: the lowest, in a row of the call's own -/
theorem of_any (xs : List TV) (v : Value) (w : World) (hl : xs.length ≤ 900000) (h : IsT w v xs) : Calls Try.prog 17 #[v] w (MadeT (ofT xs) w) := by
  have HO := Lib.hid (ordered_any xs v w hl h)
  have hm := sortedT_length xs
  have hrep : ofT xs = (sortedT xs).foldl lowStep [] := rfl
  generalize ofT xs = res at hrep ⊢
  generalize sortedT xs = ys at HO hm hrep
  have HR := Lib.hid hrep
  clear hrep h
  go_enter Try.func17, Try.ntmps17
  go_wp2_with fail
  refine (HO.out).mono ?_
  rintro e w1 ⟨u, rfl, hO, hB⟩
  have HB1 := Lib.hid hB
  clear hB HO
  rcases hO.is with ⟨rfl, p, cap, rfl, _⟩ | ⟨hne, b, off, cap, rfl, hb, hr⟩
  · clear hO
    go_wp2
    refine wp_loop_rounds 1 ?_
    rw [rounds_succ]
    go_wp2
    go_returns
    rw [HR.out]
    exact ⟨_, rfl, OwnT.nil _ _, HB1.out⟩
  · have hrow : Hid (∀ (W : World), Below w1.heap.size w1 W → ∀ j, j < ys.length → _) := fun W hW j hj => (hr.below hW hb).at j hj
    clear hr hO hne
    generalize hn : ys.length = n at hm
    have HN := Lib.hid hn
    clear hn
    go_wp2
    go_loopg [3, 9] n (fun gg v i wr => ∃ k : Nat, k ≤ n ∧ n - k ≤ gg ∧ i = .int .i64 k ∧ Hid (Below w1.heap.size w1 wr) ∧ Hid (OwnT w1.heap.size wr v ((ys.take k).foldl lowStep [])))
    case atStart => exact ⟨0, Nat.zero_le _, by omega, rfl, Below.refl _ _, OwnT.nil _ _⟩
    case round =>
      obtain ⟨k, hkn, hg, rfl, HB, HO⟩ := hrel
      by_cases hlt : k < n
      · have hlz : (k : Int) < (n : Int) := by omega
        have hc := hrow.out wr HB.out k (by rw [HN.out]; exact hlt)
        have hf := foldl_take ys k (by rw [HN.out]; exact hlt)
        have hlen : ((ys.take k).foldl lowStep []).length ≤ 900000 := by
          have h1 := low_length (ys.take k) []
          rw [List.length_take] at h1
          simp at h1
          omega
        generalize (ys.take k).foldl lowStep [] = acc at HO hf hlen
        generalize hy : ys[k]! = y at hc hf
        have HF := Lib.hid hf; clear hf hy
        obtain ⟨e0, e1, e2, e3, e4⟩ := hc
        clear hrow
        have hsz := HB.out.size
        have hcov := covers_any acc y u3 (wr.alloc (.cells #[.int .i64 y.d, .int .i64 y.c0, .int .i64 y.c1, .int .i64 y.c2, .int .i64 y.c3] 26)) hlen (HO.out.alloc _).is
        have hlow : lowStep acc y = if cov acc y then acc else acc ++ [y] := rfl
        generalize hq : cov acc y = q at hcov hlow
        have HC := Lib.hid hcov; have HL := Lib.hid hlow
        clear hcov hlow hq
        go_wp2_with fail
        refine (HC.out).mono ?_
        rintro e w2 ⟨rfl, hb1⟩
        have hz := hb1.size
        have hBx := (Own5.new wr (.int .i64 y.d) (.int .i64 y.c0) (.int .i64 y.c1) (.int .i64 y.c2) (.int .i64 y.c3) 26).below hb1 (by simp)
        have hO1 : OwnT w1.heap.size w2 u3 acc := (HO.out.alloc _).below hb1
        have hB2 : Below w1.heap.size w1 w2 := bcall (HB.out.alloc hsz _) hb1 (by simp; omega)
        rw [World.size_alloc] at hz
        have hz2 := hB2.size
        clear hb1 e0 e1 e2 e3 e4 HB HO HC
        have HB2 := Lib.hid hB2; have HO1 := Lib.hid hO1
        clear hB2 hO1
        obtain ⟨p0, p1, p2, p3, p4, q0, q1, q2, q3, q4⟩ := hBx
        cases q
        · go_wp2_with (at_builtin; refine OwnT.push HO1.out HB2.out hz2 rfl _ _ rfl rfl _ rfl hlen ?_; intro v3 w3 hO2 hB3 hz3)
          go_roundg (n - (k + 1))
          case measure => omega
          case rel =>
            refine ⟨k + 1, by omega, by omega, by go_num, hB3, ?_⟩
            show OwnT _ _ _ _
            rw [HF.out, HL.out]
            exact hO2
        · go_wp2
          go_roundg (n - (k + 1))
          case measure => omega
          case rel =>
            refine ⟨k + 1, by omega, by omega, by go_num, HB2.out, ?_⟩
            show OwnT _ _ _ _
            rw [HF.out, HL.out]
            exact HO1.out
      · have hlz : ¬ (k : Int) < (n : Int) := by omega
        have : k = n := by omega
        subst this
        have HX : Hid (OwnT w1.heap.size wr u3 res) := by
          have h := HO.out
          rw [List.take_of_length_le (by rw [HN.out]; exact Nat.le_refl _)] at h
          show OwnT _ _ _ _
          rw [HR.out]
          exact h
        clear HO hrow
        go_wp2
        go_returns
        exact ⟨_, rfl, HX.out.mono HB1.out.size, HB1.out.trans (HB.out.mono HB1.out.size)⟩
end Go.Proofs.Ytcaolilhemamiaa
