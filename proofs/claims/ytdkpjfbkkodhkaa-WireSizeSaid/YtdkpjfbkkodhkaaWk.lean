/- the law WireSize -/
import Derived.Test.YtdkpjfbkkodhkaaWh
namespace Go.Proofs.Ytdkpjfbkkodhkaa
open Go.RowKit
set_option linter.unusedVariables false
set_option linter.unusedSimpArgs false

theorem RowKind.Made.len {xs : List Int} {W : World} {e : Ending} {w' : World} (h : RB.Made xs W e w') : ∃ p c, e = .returned (.slice p xs.length c) ∧ Below W.heap.size W w' := by
  obtain ⟨v, h1, h2, h3⟩ := h
  obtain ⟨p, c, rfl⟩ := h2.is.slice
  exact ⟨p, c, h1, h3⟩
set_option maxRecDepth 100000 in
set_option maxHeartbeats 4000000 in
theorem wireSize_walk (n : Int) (n0 : 0 ≤ n) (n9 : n ≤ 18446744073709551615) (m : Int) (m0 : 0 ≤ m) (m9 : m ≤ 18446744073709551615) (k : Int) (k0 : -128 ≤ k) (k9 : k ≤ 127) (w : World) :
    Calls Try.prog 6 #[.int .u64 n, .int .u64 m, .int .i8 k] w (Ret (.bool true) w) := by
  obtain ⟨n, rfl⟩ := Int.eq_ofNat_of_zero_le n0
  obtain ⟨m, rfl⟩ := Int.eq_ofNat_of_zero_le m0
  have n64 : n < 18446744073709551616 := by omega
  have m64 : m < 18446744073709551616 := by omega
  clear n0 n9 m0 m9
  have HU : Hid (∀ W, Calls Try.prog 9 #[.slice none 0 0, .int .u64 (n : Int)] W (fun e w' => ∃ p c, e = .returned (.slice p (bytesOf n).length c) ∧ Below W.heap.size W w')) := fun W => by
    have q := uint_any [] (.slice none 0 0) n W (by simp) n64 (RowKind.Is.nil W)
    exact q.mono fun e w' h => RowKind.Made.len h
  have HV : Hid (∀ W, Calls Try.prog 9 #[.slice none 0 0, .int .u64 (m : Int)] W (fun e w' => ∃ p c, e = .returned (.slice p (bytesOf m).length c) ∧ Below W.heap.size W w')) := fun W => by
    have q := uint_any [] (.slice none 0 0) m W (by simp) m64 (RowKind.Is.nil W)
    exact q.mono fun e w' h => RowKind.Made.len h
  have HI : Hid (∀ W, Calls Try.prog 11 #[.slice none 0 0, .int .i64 k] W (fun e w' => ∃ p c, e = .returned (.slice p (bytesOf (zig k)).length c) ∧ Below W.heap.size W w')) := fun W => by
    have q := intB_any [] (.slice none 0 0) k W (by simp) (by omega) (by omega) (RowKind.Is.nil W)
    exact q.mono fun e w' h => RowKind.Made.len h
  have hmono := fun (h : n ≤ m) => bytes_mono m n h
  have hz := zig_one k0 k9
  have hm := bytes_more n
  have hl10 := bytes_len10 n64
  generalize (bytesOf n).length = L at *
  generalize (bytesOf m).length = M at *
  generalize (bytesOf (zig k)).length = Z at *
  obtain ⟨hz1, hz2, hz3⟩ := hz
  have HM := Lib.hid hm
  clear hm
  have HAW := Lib.hid (fun W => wireAwake W)
  go_enter Try.func6, Try.ntmps6
  go_wp2_with fail
  refine (HAW.out _).mono ?_
  rintro ee w1 ⟨rfl, hb1⟩
  have HB1 := Lib.hid hb1
  clear hb1
  go_wp2_with fail
  go_loopg [7, 8] n (fun gg s x wr => ∃ a y : Nat, s = .int .i64 (a : Int) ∧ x = .int .u64 (y : Int) ∧ y ≤ gg ∧ Hid (y < 18446744073709551616) ∧ Hid (a + more y = L) ∧ wr = w1)
  case atStart => exact ⟨1, n / 128, rfl, by go_num, by omega, (by show _ < _; omega), HM.out.symm, rfl⟩
  case round =>
    obtain ⟨a, y, rfl, rfl, hg, hy, HE, rfl⟩ := hrel
    have hy := hy.out
    by_cases h0 : 0 < y
    · have hi : (y : Int) > 0 := by omega
      have he := HE.out
      rw [more_pos h0] at he
      have HE2 : Hid (a + 1 + more (y / 128) = L) := by show _ = _; omega
      have ha10 : a ≤ 10 := by omega
      clear HE he
      go_wp2
      go_roundg (y / 128)
      case measure => omega
      case rel => exact ⟨a + 1, y / 128, by go_num, by go_num, Nat.le_refl _, (by show _ < _; omega), HE2.out, rfl⟩
    · have hi : ¬ (y : Int) > 0 := by omega
      have he := HE.out
      rw [show y = 0 from by omega, more_zero] at he
      obtain rfl : a = L := by omega
      clear HE he
      have bL : ((a : Int) == (a : Int)) = true := by simp
      clear HM
      go_wp2_with fail
      refine (HI.out _).mono ?_
      rintro ee w2 ⟨p2, c2, rfl, hb2⟩
      have HB2 := Lib.hid (HB1.out.trans (hb2.mono HB1.out.size))
      clear hb2
      go_wp2_with fail
      refine (HU.out _).mono ?_
      rintro ee w3 ⟨p3, c3, rfl, hb3⟩
      have HB3 := Lib.hid (HB2.out.trans (hb3.mono HB2.out.size))
      clear hb3
      by_cases hnm : n ≤ m
      · have hg1 : ¬ ((n : Int) > (m : Int)) := by omega
        have hlm := hmono hnm
        have hlmi : ((a : Int) ≤ (M : Int)) := by omega
        go_wp2_with fail
        refine (HU.out _).mono ?_
        rintro ee w4 ⟨p4, c4, rfl, hb4⟩
        have HB4 := Lib.hid (HB3.out.trans (hb4.mono HB3.out.size))
        clear hb4
        go_wp2_with fail
        refine (HV.out _).mono ?_
        rintro ee w5 ⟨p5, c5, rfl, hb5⟩
        have HB5 := Lib.hid (HB4.out.trans (hb5.mono HB4.out.size))
        clear hb5
        have hz2i : (Z : Int) ≥ 1 := by omega
        have hz3i : (Z : Int) ≤ 2 := by omega
        by_cases hk1 : -64 ≤ k
        · by_cases hk2 : k < 64
          · obtain rfl : Z = 1 := by omega
            clear hz1 hz2 hz3
            go_wp2
            all_goals go_returns
            all_goals exact ⟨rfl, HB5.out⟩
          · obtain rfl : Z = 2 := by omega
            have hk2b : decide (k < 64) = false := by simp; omega
            clear hz1 hz2 hz3
            go_wp2
            all_goals go_returns
            all_goals exact ⟨rfl, HB5.out⟩
        · obtain rfl : Z = 2 := by omega
          clear hz1 hz2 hz3
          go_wp2
          all_goals go_returns
          all_goals exact ⟨rfl, HB5.out⟩
      · have hg1 : ((n : Int) > (m : Int)) := by omega
        by_cases hk1 : -64 ≤ k
        · by_cases hk2 : k < 64
          · obtain rfl : Z = 1 := by omega
            clear hz1 hz2 hz3
            go_wp2
            all_goals go_returns
            all_goals exact ⟨rfl, HB3.out⟩
          · obtain rfl : Z = 2 := by omega
            have hk2b : decide (k < 64) = false := by simp; omega
            clear hz1 hz2 hz3
            go_wp2
            all_goals go_returns
            all_goals exact ⟨rfl, HB3.out⟩
        · obtain rfl : Z = 2 := by omega
          clear hz1 hz2 hz3
          go_wp2
          all_goals go_returns
          all_goals exact ⟨rfl, HB3.out⟩
end Go.Proofs.Ytdkpjfbkkodhkaa
