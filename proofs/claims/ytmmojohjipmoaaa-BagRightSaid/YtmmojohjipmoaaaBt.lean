/- bag.There -/
import Derived.Test.YtmmojohjipmoaaaBr
namespace Go.Proofs.Ytmmojohjipmoaaa
open Go.RowKit
set_option linter.unusedVariables false
set_option linter.unusedSimpArgs false

def posI (xs : List IV) : List IV := xs.filter fun c => decide (0 < c.n)
def thereI (xs : List IV) : List IV := if rightI xs = true then posI xs else []
theorem pos_take_succ {xs : List IV} {k : Nat} (hk : k < xs.length) : posI (xs.take (k + 1)) = posI (xs.take k) ++ (if 0 < (xs[k]!).n then [xs[k]!] else []) := by
  unfold posI
  rw [take_getA xs k hk, List.filter_append]
  split
  · rename_i h; rw [List.filter_cons_of_pos (by simpa using h)]; rfl
  · rename_i h; rw [List.filter_cons_of_neg (by simpa using h)]; rfl
theorem pos_length (xs : List IV) : (posI xs).length ≤ xs.length := List.length_filter_le _ _
set_option maxRecDepth 100000 in
set_option maxHeartbeats 4000000 in
theorem bthere_row (xs : List IV) (b off cap : Nat) (w : World) (hl : xs.length ≤ 900000) (hb : b < w.heap.size) (hr : RI.Row w b off xs) (h0 : xs ≠ []) :
    Calls Try.prog 19 #[.slice (some ⟨b, off, none⟩) xs.length cap] w (RI.Made (thereI xs) w) := by
  have hrow : Hid (∀ (W : World), Below w.heap.size w W → ∀ j, j < xs.length → _) := fun W hW j hj => atI (hr.below hW hb) j hj
  have hRT := bright_any xs (.slice (some ⟨b, off, none⟩) xs.length cap) w hl (.inr ⟨h0, b, off, cap, rfl, hb, hr⟩)
  have hno : rightI xs = false → thereI xs = [] := fun h => by unfold thereI; rw [h]; rfl
  have hyes : rightI xs = true → thereI xs = posI xs := fun h => by unfold thereI; rw [h]; rfl
  generalize rightI xs = q at hRT hno hyes
  generalize thereI xs = res at hno hyes ⊢
  have HRT := Lib.hid hRT; have HNo := Lib.hid hno; have HYes := Lib.hid hyes
  clear hr hRT hno hyes h0
  generalize hn : xs.length = n at hl HRT hrow
  have HN := Lib.hid hn
  clear hn
  go_enter Try.func19, Try.ntmps19
  go_wp2_with fail
  refine (HRT.out).mono ?_
  rintro e w1 ⟨rfl, hb1⟩
  have HB1 := Lib.hid hb1
  clear hb1 HRT
  cases q
  · go_wp2
    go_returns
    exact ⟨_, rfl, by rw [HNo.out (by trivial)]; exact RowKind.Own.nil RI _ _, HB1.out⟩
  · go_wp2
    go_loopg [3, 11] n (fun gg v i wr => ∃ k : Nat, k ≤ n ∧ n - k ≤ gg ∧ i = .int .i64 k ∧ Hid (Below w.heap.size w wr) ∧ Hid (RI.Own w.heap.size wr v (posI (xs.take k))))
    case atStart => exact ⟨0, Nat.zero_le _, by omega, rfl, HB1.out, RowKind.Own.nil RI _ _⟩
    case round =>
      obtain ⟨k, hkn, hg, rfl, HB, HO⟩ := hrel
      by_cases hlt : k < n
      · have hlz : (k : Int) < (n : Int) := by omega
        have hc := hrow.out wr HB.out k hlt
        have hts := pos_take_succ (xs := xs) (k := k) (by rw [HN.out]; exact hlt)
        have hlen : (posI (xs.take k)).length ≤ 900000 := by
          have h1 := pos_length (xs.take k)
          rw [List.length_take] at h1
          omega
        generalize posI (xs.take k) = acc at HO hts hlen
        generalize xs[k]! = c at hc hts
        obtain ⟨t, m⟩ := c
        obtain ⟨e0, e1, e2⟩ := hc
        simp only at e0 e1 e2 hts
        have hz := HB.out.size
        have HBn := Lib.hid ((HB.out).alloc hz (.cells #[.int .i64 t.k, .int .i64 t.v, .int .i64 m] 43))
        have HOn := Lib.hid (HO.out.alloc (.cells #[.int .i64 t.k, .int .i64 t.v, .int .i64 m] 43))
        have HZn := Lib.hid HBn.out.size
        clear hrow
        by_cases hm : 0 < m
        · rw [if_pos hm] at hts
          have HTS := Lib.hid hts
          clear hts HO HB
          go_wp2_with (at_builtin; refine RowKind.Own.push (R := RI) (y := ⟨t, m⟩) HOn.out HBn.out HZn.out rfl _ _ rfl rfl _ (by show Value.slice (some ⟨wr.heap.size + 1, 0, none⟩) 1 1 = _; rw [World.size_alloc]) hlen (Nat.le_refl _) ?_; intro v2 w2 hO2 hB2 hz2)
          go_roundg (n - (k + 1))
          case measure => omega
          case rel =>
            refine ⟨k + 1, by omega, by omega, by go_num, hB2, ?_⟩
            show RI.Own _ _ _ _
            rw [HTS.out]
            exact hO2
        · rw [if_neg hm, List.append_nil] at hts
          have HTS := Lib.hid hts
          clear hts HO HB
          go_wp2
          go_roundg (n - (k + 1))
          case measure => omega
          case rel =>
            refine ⟨k + 1, by omega, by omega, by go_num, HBn.out, ?_⟩
            show RI.Own _ _ _ _
            rw [HTS.out]
            exact HOn.out
      · have hlz : ¬ (k : Int) < (n : Int) := by omega
        have : k = n := by omega
        subst this
        have HX : Hid (RI.Own w.heap.size wr u3 (posI xs)) := by
          have h := HO.out
          rw [List.take_of_length_le (by rw [HN.out]; exact Nat.le_refl _)] at h
          exact h
        clear HO hrow
        go_wp2
        go_returns
        exact ⟨_, rfl, by rw [HYes.out (by trivial)]; exact HX.out, HB.out⟩
set_option maxRecDepth 100000 in
set_option maxHeartbeats 4000000 in
theorem bthere_nil (p : Option Addr) (cap : Nat) (w : World) : Calls Try.prog 19 #[.slice p 0 cap] w (RI.Made (thereI []) w) := by
  have HRT := Lib.hid (bright_nil p cap w)
  have hr : rightI [] = true := by decide
  have hf : thereI [] = [] := by unfold thereI; rw [hr]; rfl
  rw [hr] at HRT
  rw [hf]
  go_enter Try.func19, Try.ntmps19
  go_wp2_with fail
  refine (HRT.out).mono ?_
  rintro e w1 ⟨rfl, hb1⟩
  have HB1 := Lib.hid hb1
  clear hb1 HRT
  go_wp2
  refine wp_loop_rounds 1 ?_
  rw [rounds_succ]
  go_wp2
  go_returns
  exact ⟨_, rfl, RowKind.Own.nil RI _ _, HB1.out⟩
theorem bthere_any (xs : List IV) (v : Value) (w : World) (hl : xs.length ≤ 900000) (h : RI.Is w v xs) : Calls Try.prog 19 #[v] w (RI.Made (thereI xs) w) := by
  rcases h with ⟨rfl, p, cap, rfl, _⟩ | ⟨h0, b, off, cap, rfl, hb, hr⟩
  · exact bthere_nil p cap w
  · exact bthere_row xs b off cap w hl hb hr h0
end Go.Proofs.Ytmmojohjipmoaaa
