/- the document's Uint, Int -/
import Derived.Test.YtdhmoiiagplbpaaWa
namespace Go.Proofs.Ytdhmoiiagplbpaa
open Go.RowKit
set_option linter.unusedVariables false
set_option linter.unusedSimpArgs false

set_option maxRecDepth 100000 in
set_option maxHeartbeats 4000000 in
theorem ruint_any (xs : List Int) (v : Value) (n : Nat) (w : World) (hl : xs.length ≤ 800000) (hn : n < 18446744073709551616) (h : RB.Is w v xs) :
    Calls Try.prog 23 #[v, .int .u64 (n : Int)] w (RB.Made (xs ++ bytesOf n) w) := by
  have hB0 := (Below.refl w.heap.size w).alloc (Nat.le_refl _) (.cells #[] 5)
  have HB0 := Lib.hid hB0
  have HO0 := Lib.hid (show RB.Own w.heap.size (w.alloc (.cells #[] 5)) (.slice (some ⟨w.heap.size, 0, none⟩) 0 0) [] from World.ownsRow_made w #[] 0 (Nat.le_refl _) (Nat.zero_le _) rfl)
  have HI := Lib.hid (h.below hB0)
  obtain ⟨p, c, rfl⟩ := h.slice
  have HT : Hid ((xs ++ bytesOf n).length ≤ 800010) := by show _ ≤ _; rw [List.length_append]; have := bytes_len10 hn; omega
  clear h hB0
  generalize hk : xs.length = k at *
  have HL : Hid (([] : List Int).length + xs.length ≤ 1000000) := by show _ ≤ _; rw [hk]; simp; omega
  clear hk
  generalize ht : xs ++ bytesOf n = tot at *
  have HN := Lib.hid ht
  clear ht
  go_enter Try.func23, Try.ntmps23
  go_wp2_with (at_builtin; refine RowKind.Own.appendAny (R := RB) (ys := xs) HO0.out HB0.out (by simp) rfl _ _ rfl rfl rfl HI.out HL.out ?_; intro v1 w1 hO1 hB1 hz1)
  have HO1 := Lib.hid hO1; have HB1 := Lib.hid hB1
  clear hO1 hB1 HO0 HB0 hz1
  go_loopg [5, 1] n (fun gg u i wr => ∃ m : Nat, m ≤ gg ∧ i = .int .u64 (m : Int) ∧ Hid (m < 18446744073709551616) ∧ Hid (Below w.heap.size w wr) ∧ ∃ ys, Hid (RB.Own w.heap.size wr u ys) ∧ Hid (ys ++ bytesOf m = tot))
  case atStart => exact ⟨n, Nat.le_refl _, rfl, hn, HB1.out, xs, HO1.out, HN.out⟩
  case round =>
    obtain ⟨m, hg, rfl, HM, HB, ys, HO, HE⟩ := hrel
    have hm64 := HM.out
    have hys : ys.length ≤ 900000 := by
      have h1 := HT.out
      rw [← HE.out, List.length_append] at h1
      omega
    by_cases hlt : m < 128
    · have hge : ((m : Int) / 128 == 0) = true := by simp; omega
      have hq := HE.out
      rw [bytes_lo hlt] at hq
      have HQ := Lib.hid hq
      clear hq HE HI
      go_wp2_with (at_builtin; refine RowKind.Own.push (R := RB) (y := (m : Int) % 128) HO.out HB.out HB.out.size rfl _ _ rfl rfl _ rfl hys (Nat.le_refl _) ?_; intro v2 w2 hO2 hB2 hz2)
      go_returns
      exact ⟨_, rfl, by rw [← HQ.out]; rw [show (m : Int) % 128 = (m : Int) from by omega] at hO2; exact hO2, hB2⟩
    · have hge : ((m : Int) / 128 == 0) = false := by simp; omega
      have hq := HE.out
      rw [bytes_hi hlt, List.append_cons] at hq
      have HQ := Lib.hid hq
      clear hq HE HI
      go_wp2_with (at_builtin; refine RowKind.Own.push (R := RB) (y := ((m % 128 + 128 : Nat) : Int)) HO.out HB.out HB.out.size rfl _ _ rfl rfl _ rfl hys (Nat.le_refl _) ?_; intro v2 w2 hO2 hB2 hz2)
      go_roundg (m / 128)
      case measure => omega
      case rel => exact ⟨m / 128, Nat.le_refl _, by go_num, (by show _ < _; omega), hB2, _, hO2, HQ.out⟩
set_option maxRecDepth 100000 in
set_option maxHeartbeats 4000000 in
theorem rintB_any (xs : List Int) (v : Value) (k : Int) (w : World) (hl : xs.length ≤ 800000) (h1 : -9223372036854775808 ≤ k) (h2 : k ≤ 9223372036854775807) (h : RB.Is w v xs) :
    Calls Try.prog 24 #[v, .int .i64 k] w (RB.Made (xs ++ bytesOf (zig k)) w) := by
  have HU : Hid (Calls Try.prog 23 #[v, .int .u64 (zig k)] w (RB.Made (xs ++ bytesOf (zig k)) w)) := ruint_any xs v (zig k) w hl (zig_lt h1 h2) h
  have e1 : k < 0 → (zig k : Int) = 2 * (-(k + 1)) + 1 := fun h => by unfold zig; rw [if_pos h]; omega
  have e2 : ¬ k < 0 → (zig k : Int) = 2 * k := fun h => by unfold zig; rw [if_neg h]; omega
  obtain ⟨p, c, rfl⟩ := h.slice
  clear h
  generalize xs.length = n at *
  generalize xs ++ bytesOf (zig k) = tot at *
  generalize ((zig k : Nat) : Int) = z at *
  by_cases hk : k < 0
  · have e := e1 hk
    clear e1 e2
    subst e
    have hk0 : ¬ k ≥ 0 := by omega
    go_enter Try.func24, Try.ntmps24
    go_wp2_with fail
    refine (HU.out).mono ?_
    rintro e w2 ⟨v2, rfl, hO, hB⟩
    have HO := Lib.hid hO; have HB := Lib.hid hB
    clear hO hB
    go_wp2
    go_returns
    exact ⟨_, rfl, HO.out, HB.out⟩
  · have e := e2 hk
    clear e1 e2
    subst e
    have hk0 : k ≥ 0 := by omega
    go_enter Try.func24, Try.ntmps24
    go_wp2_with fail
    refine (HU.out).mono ?_
    rintro e w2 ⟨v2, rfl, hO, hB⟩
    have HO := Lib.hid hO; have HB := Lib.hid hB
    clear hO hB
    go_wp2
    go_returns
    exact ⟨_, rfl, HO.out, HB.out⟩
end Go.Proofs.Ytdhmoiiagplbpaa
