import Derived.Test.YtcaolilhemamiaaCt
import Derived.Deep.LoopGhost
import Derived.Deep.Draws
import Derived.Deep.Light
namespace Go.Proofs.Ytcaolilhemamiaa
open Go.RowKit
set_option linter.unusedVariables false
set_option linter.unusedSimpArgs false

/-- the call makes a row of its own, of these timestamps -/
def MadeT (xs : List TV) (w : World) (e : Ending) (w' : World) : Prop := ∃ v, e = .returned v ∧ OwnT w.heap.size w' v xs ∧ Below w.heap.size w w'

set_option maxRecDepth 100000 in
set_option maxHeartbeats 4000000 in
theorem ordered_row (xs : List TV) (b off cap : Nat) (w : World) (hl : xs.length ≤ 900000) (hb : b < w.heap.size) (hr : RowT w b off xs) :
    Calls Try.prog 48 #[.slice (some ⟨b, off, none⟩) xs.length cap] w (MadeT (sortedT xs) w) := by
  have hrow : Hid (∀ (W : World), Below w.heap.size w W → ∀ j, j < xs.length → _) := fun W hW j hj => (hr.below hW hb).at j hj
  clear hr
  generalize hn : xs.length = n at hl
  have HN := Lib.hid hn
  clear hn
  go_enter Try.func48, Try.ntmps48
  go_wp2
  go_loopg [3, 8] n (fun gg v i wr => ∃ k : Nat, k ≤ n ∧ n - k ≤ gg ∧ i = .int .i64 k ∧ Hid (Below w.heap.size w wr) ∧ Hid (OwnT w.heap.size wr v ((xs.take k).filter TV.ok)))
  case atStart => exact ⟨0, Nat.zero_le _, by omega, rfl, Below.refl _ _, OwnT.nil _ _⟩
  case round =>
    obtain ⟨k, hkn, hg, rfl, HB, HO⟩ := hrel
    by_cases hlt : k < n
    · have hlz : (k : Int) < (n : Int) := by omega
      have hc := hrow.out wr HB.out k (by rw [HN.out]; exact hlt)
      generalize hy : xs[k]! = y at hc
      have HY := Lib.hid hy; clear hy
      obtain ⟨e0, e1, e2, e3, e4⟩ := hc
      clear hrow
      go_wp2_with fail
      refine (ok_any _ _).mono ?_
      rintro e w1 ⟨rfl, hb1⟩
      have hz := hb1.size
      have hBx := (Own5.new wr (.int .i64 y.d) (.int .i64 y.c0) (.int .i64 y.c1) (.int .i64 y.c2) (.int .i64 y.c3) 26).below hb1 (by simp)
      have hO1 : OwnT w.heap.size w1 u3 ((xs.take k).filter TV.ok) := (HO.out.alloc _).below hb1
      have hz0 := HB.out.size
      have hB1 : Below w.heap.size w w1 := bcall (HB.out.alloc hz0 _) hb1 (by simp; omega)
      rw [World.size_alloc] at hz
      clear hb1 e0 e1 e2 e3 e4 HB HO
      obtain ⟨p0, p1, p2, p3, p4, q0, q1, q2, q3, q4⟩ := hBx
      cases hy : y.ok
      · have HB1 := Lib.hid hB1; have HO1 := Lib.hid hO1
        clear hB1 hO1
        go_wp2
        go_roundg (n - (k + 1))
        case measure => omega
        case rel =>
          refine ⟨k + 1, by omega, by omega, by go_num, HB1.out, ?_⟩
          have ht := take_get xs k (by rw [HN.out]; exact hlt)
          rw [HY.out] at ht
          show OwnT _ _ _ _
          rw [ht, List.filter_append, List.filter_cons_of_neg (by rw [hy]; decide), List.filter_nil, List.append_nil]
          exact HO1.out
      · have HB1 := Lib.hid hB1; have HO1 := Lib.hid hO1
        have hz2 := hB1.size
        have hlen : ((xs.take k).filter TV.ok).length ≤ 900000 := by
          have h1 := List.length_filter_le TV.ok (xs.take k)
          rw [List.length_take] at h1
          omega
        clear hB1 hO1
        go_wp2_with (at_builtin; refine OwnT.push HO1.out HB1.out hz2 rfl _ _ rfl rfl _ rfl hlen ?_; intro v2 w2 hO2 hB2 hz3)
        go_roundg (n - (k + 1))
        case measure => omega
        case rel =>
          refine ⟨k + 1, by omega, by omega, by go_num, hB2, ?_⟩
          have ht := take_get xs k (by rw [HN.out]; exact hlt)
          rw [HY.out] at ht
          show OwnT _ _ _ _
          rw [ht, List.filter_append, List.filter_cons_of_pos hy, List.filter_nil]
          exact hO2
    · have hlz : ¬ (k : Int) < (n : Int) := by omega
      have : k = n := by omega
      subst this
      have hO : OwnT w.heap.size wr u3 (xs.filter TV.ok) := by
        have h := HO.out
        rw [List.take_of_length_le (by rw [HN.out]; exact Nat.le_refl _)] at h
        exact h
      have hlen : (xs.filter TV.ok).length ≤ 900000 := by
        have h1 := List.length_filter_le TV.ok xs
        rw [HN.out] at h1
        omega
      have hsort := sort_own w.heap.size u3 (xs.filter TV.ok) (fun x hx => (List.mem_filter.1 hx).2) wr hO HB.out.size hlen
      have HS := Lib.hid hsort
      clear hsort hO hlen
      go_wp2_with fail
      refine (HS.out).mono ?_
      rintro e w2 ⟨rfl, ys, hp, hs, hO2, hB2⟩
      have HR : Hid (OwnT w.heap.size w2 u3 (sortedT xs)) := by show OwnT _ _ _ _; rw [← sortedT_eq hp hs]; exact hO2
      have hB3 := HB.out.trans hB2
      clear hp hs hO2 hB2
      go_wp2
      go_returns
      exact ⟨_, rfl, HR.out, hB3⟩
set_option maxRecDepth 100000 in
set_option maxHeartbeats 4000000 in
theorem ordered_nil (p : Option Addr) (cap : Nat) (w : World) : Calls Try.prog 48 #[.slice p 0 cap] w (MadeT (sortedT []) w) := by
  have hsort := fun wr (hz : w.heap.size ≤ wr.heap.size) => sort_own w.heap.size (.slice none 0 0) [] (by simp) wr (OwnT.nil _ _) hz (by simp)
  have HS := Lib.hid hsort
  clear hsort
  go_enter Try.func48, Try.ntmps48
  go_wp2
  refine wp_loop_rounds 1 ?_
  rw [rounds_succ]
  go_wp2_with fail
  refine (HS.out _ (Nat.le_refl _)).mono ?_
  rintro e w2 ⟨rfl, ys, hp, hs, hO2, hB2⟩
  have HR : Hid (OwnT w.heap.size w2 (.slice none 0 0) (sortedT [])) := by show OwnT _ _ _ _; rw [← sortedT_eq (xs := []) hp hs]; exact hO2
  clear hp hs hO2
  go_wp2
  go_returns
  exact ⟨_, rfl, HR.out, hB2⟩
theorem ordered_any (xs : List TV) (v : Value) (w : World) (hl : xs.length ≤ 900000) (h : IsT w v xs) : Calls Try.prog 48 #[v] w (MadeT (sortedT xs) w) := by
  rcases h with ⟨rfl, p, cap, rfl, _⟩ | ⟨_, b, off, cap, rfl, hb, hr⟩
  · exact ordered_nil p cap w
  · exact ordered_row xs b off cap w hl hb hr
end Go.Proofs.Ytcaolilhemamiaa
