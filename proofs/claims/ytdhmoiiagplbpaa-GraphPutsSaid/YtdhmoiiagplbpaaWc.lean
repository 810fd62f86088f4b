/- Uint, Int: the program's own and the document's -/
import Derived.Test.YtdhmoiiagplbpaaWb
namespace Go.Proofs.Ytdhmoiiagplbpaa
open Go.RowKit
set_option linter.unusedVariables false
set_option linter.unusedSimpArgs false

theorem makeB (n : Nat) (hn : n ≤ 100000) (w : World) : (Instr.makeSlice 29 (.int .i64 0) (.int .i64 ((n : Int) + 10))).run Try.prog w = .ok (.slice (some ⟨w.heap.size, 0, none⟩) 0 (n + 10)) (w.alloc (.cells (madeCells #[.int .u8 0] (n + 10)) 5)) := by
  obtain ⟨i, hi, hz0, hz1, hz2⟩ := info_parts RB.info
  have h2 : i.bytes = 1 := hz2
  have h1 : i.size = 1 := hz1
  have hr := run_make (P := Try.prog) w RB.tS RB.tE i RB.zero RB.under hi hz0 .i64 .i64 0 ((n + 10 : Nat) : Int) (Int.le_refl _) (by omega) (by rw [h2]; omega) (by omega)
  rw [h1, Int.toNat_natCast, Nat.mul_one] at hr
  exact hr
theorem ownMade (n : Nat) (hn : n ≤ 100000) (w : World) : RB.Own w.heap.size (w.alloc (.cells (madeCells #[.int .u8 0] (n + 10)) 5)) (.slice (some ⟨w.heap.size, 0, none⟩) 0 (n + 10)) [] :=
  World.ownsRow_made w _ (n + 10) (Nat.le_refl _) (by unfold maxLen; omega) (by rw [size_madeCells]; show n + 10 = (n + 10) * 1; omega)

set_option maxRecDepth 100000 in
set_option maxHeartbeats 4000000 in
theorem uint_any (xs : List Int) (v : Value) (n : Nat) (w : World) (hl : xs.length ≤ 90000) (hn : n < 18446744073709551616) (h : RB.Is w v xs) :
    Calls Try.prog 53 #[v, .int .u64 (n : Int)] w (RB.Made (xs ++ bytesOf n) w) := by
  have hB0 := (Below.refl w.heap.size w).alloc (Nat.le_refl _) (.cells (madeCells #[.int .u8 0] (xs.length + 10)) 5)
  have HB0 := Lib.hid hB0
  have HO0 := Lib.hid (ownMade xs.length (by omega) w)
  have HI := Lib.hid (h.below hB0)
  obtain ⟨p, c, rfl⟩ := h.slice
  have hmk := makeB xs.length (by omega)
  have HT : Hid ((xs ++ bytesOf n).length ≤ 90010) := by show _ ≤ _; rw [List.length_append]; have := bytes_len10 hn; omega
  clear h hB0
  generalize hk : xs.length = k at *
  have HK := Lib.hid hk
  have HL : Hid (([] : List Int).length + xs.length ≤ 1000000) := by show _ ≤ _; rw [hk]; simp; omega
  clear hk
  generalize ht : xs ++ bytesOf n = tot at *
  have HN := Lib.hid ht
  clear ht
  go_enter Try.func53, Try.ntmps53
  go_wp2_with (at_builtin; refine RowKind.Own.appendAny (R := RB) (ys := xs) HO0.out HB0.out (by simp) rfl _ _ rfl rfl rfl HI.out HL.out ?_; intro v1 w1 hO1 hB1 hz1)
  have HO1 := Lib.hid hO1; have HB1 := Lib.hid hB1
  clear hO1 hB1 HO0 HB0 hz1
  go_loopg [5, 1] n (fun gg u i wr => ∃ m : Nat, m ≤ gg ∧ i = .int .u64 (m : Int) ∧ Hid (m < 18446744073709551616) ∧ Hid (Below w.heap.size w wr) ∧ ∃ ys, Hid (RB.Own w.heap.size wr u ys) ∧ Hid (ys ++ bytesOf m = tot))
  case atStart => exact ⟨n, Nat.le_refl _, rfl, hn, HB1.out, xs, HO1.out, HN.out⟩
  case round =>
    obtain ⟨m, hg, rfl, HM, HB, ys, HO, HE⟩ := hrel
    have hm64 := HM.out
    have hys : ys.length ≤ 900000 := by
      have h1 := HT.out
      rw [← HE.out, List.length_append] at h1
      omega
    by_cases hlt : m < 128
    · have hge : ¬ ((m : Int) ≥ 128) := by omega
      have hq := HE.out
      rw [bytes_lo hlt] at hq
      have HQ := Lib.hid hq
      clear hq HE HI HK
      go_wp2_with (at_builtin; refine RowKind.Own.push (R := RB) (y := (m : Int)) HO.out HB.out HB.out.size rfl _ _ rfl rfl _ rfl hys (Nat.le_refl _) ?_; intro v2 w2 hO2 hB2 hz2)
      go_returns
      exact ⟨_, rfl, by rw [← HQ.out]; exact hO2, hB2⟩
    · have hge : ((m : Int) ≥ 128) := by omega
      have hq := HE.out
      rw [bytes_hi hlt, List.append_cons] at hq
      have HQ := Lib.hid hq
      clear hq HE HI HK
      go_wp2_with (at_builtin; refine RowKind.Own.push (R := RB) (y := ((m % 128 + 128 : Nat) : Int)) HO.out HB.out HB.out.size rfl _ _ rfl rfl _ rfl hys (Nat.le_refl _) ?_; intro v2 w2 hO2 hB2 hz2)
      go_roundg (m / 128)
      case measure => omega
      case rel => exact ⟨m / 128, Nat.le_refl _, by go_num, (by show _ < _; omega), hB2, _, hO2, HQ.out⟩

set_option maxRecDepth 100000 in
set_option maxHeartbeats 4000000 in
theorem intB_any (xs : List Int) (v : Value) (k : Int) (w : World) (hl : xs.length ≤ 90000) (h1 : -9223372036854775808 ≤ k) (h2 : k ≤ 9223372036854775807) (h : RB.Is w v xs) :
    Calls Try.prog 54 #[v, .int .i64 k] w (RB.Made (xs ++ bytesOf (zig k)) w) := by
  have HU := Lib.hid (fun W (hW : Below w.heap.size w W) => uint_any xs v (zig k) W hl (zig_lt h1 h2) (h.below hW))
  have HZ := Lib.hid (fun W => unsigned_any k h1 h2 W)
  obtain ⟨p, c, rfl⟩ := h.slice
  clear h h1 h2
  generalize xs.length = n at *
  generalize zig k = z at *
  generalize xs ++ bytesOf z = tot at *
  go_enter Try.func54, Try.ntmps54
  go_wp2_with fail
  refine (HZ.out _).mono ?_
  rintro e w1 ⟨rfl, hb1⟩
  have HB1 := Lib.hid hb1
  clear hb1
  go_wp2_with fail
  refine (HU.out _ HB1.out).mono ?_
  rintro e w2 h2
  obtain ⟨v2, rfl, hO, hB⟩ := RowKind.Made.mono h2 HB1.out
  have HO := Lib.hid hO; have HB := Lib.hid hB
  clear h2 hO hB
  go_wp2
  go_returns
  exact ⟨_, rfl, HO.out, HB.out⟩
end Go.Proofs.Ytdhmoiiagplbpaa
