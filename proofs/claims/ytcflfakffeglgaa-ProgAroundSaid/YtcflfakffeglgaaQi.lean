/- the law ProgAround: over what the program's own Run answers -/
import Derived.Test.YtcflfakffeglgaaQf
namespace Go.Proofs.Ytcflfakffeglgaa
open Go.RowKit
set_option linter.unusedVariables false
set_option linter.unusedSimpArgs false

theorem emptyC (W : World) : RC.Own W.heap.size (W.alloc (.cells #[] 33)) (.slice (some ⟨W.heap.size, 0, none⟩) 0 0) [] := World.ownsRow_made W #[] 0 (Nat.le_refl _) (Nat.zero_le _) rfl
set_option maxRecDepth 100000 in
set_option maxHeartbeats 4000000 in
theorem progAround_walk (C : ProgC) (n : Int) (n0 : 0 ≤ n) (n9 : n ≤ 255) (rk rv : Int) (hk : inR rk) (hv : inR rv) (w : World) :
    Calls Try.prog 6 #[.int .u8 n, .agg #[.int .i64 rk, .int .i64 rv]] w (Ret (.bool true) w) := by
  obtain ⟨m, hm⟩ : ∃ m : Nat, n % 30 = (m : Int) := ⟨(n % 30).toNat, by omega⟩
  have hm29 : m ≤ 29 := by omega
  have HAW := Lib.hid (fun W => progAwake C W)
  have hin : ∀ (x : NV), inR x.n → ∀ y ∈ repL m blkA ++ [x], inR y.n := fun x hx y hy => by
    rcases List.mem_append.1 hy with hy | hy
    · unfold repL at hy
      obtain ⟨l, h1, h2⟩ := List.mem_flatten.1 hy
      have := List.eq_of_mem_replicate h1
      subst this
      simp [blkA] at h2
      rcases h2 with rfl | rfl <;> (show inR 0; decide)
    · simp at hy
      subst hy
      exact hx
  have hl1 : ∀ x : NV, (repL m blkA ++ [x]).length ≤ 1000 := fun x => by rw [List.length_append, repL_len]; show m * 2 + 1 ≤ 1000; omega
  have HR1 : Hid (∀ W v, RC.Is W v (repL m blkA ++ [⟨14, (m : Int) * 2 + 1⟩]) → Calls Try.prog 9 #[v, .agg #[.int .i64 rk, .int .i64 rv]] W (fun e w' => ∃ p c, e = .returned (.tuple #[.slice p 0 c, .int .i64 0]) ∧ Below W.heap.size W w')) := fun W v h => by
    have q := C.run _ v rk rv W (hl1 _) h (hin _ (by unfold inR; simp only; omega)) hk hv
    unfold RunR at q
    rw [show ((m : Int) * 2 + 1) = ((m * 2 + 1 : Nat) : Int) by omega, runC_around m hm29] at q
    refine q.mono fun e w' h => ?_
    obtain ⟨v, h1, h2, h3⟩ := h
    obtain ⟨p, c, rfl⟩ := h2.is.slice
    exact ⟨p, c, h1, h3⟩
  have HR2 : Hid (∀ W v, RC.Is W v (repL m blkA ++ [⟨14, 0⟩]) → Calls Try.prog 9 #[v, .agg #[.int .i64 rk, .int .i64 rv]] W (fun e w' => ∃ p c, e = .returned (.tuple #[.slice p 1 c, .int .i64 4]) ∧ Below W.heap.size W w')) := fun W v h => by
    have q := C.run _ v rk rv W (hl1 _) h (hin _ (by decide)) hk hv
    unfold RunR at q
    rw [runC_round m hm29] at q
    refine q.mono fun e w' h => ?_
    obtain ⟨v, h1, h2, h3⟩ := h
    obtain ⟨p, c, rfl⟩ := h2.is.slice
    exact ⟨p, c, h1, h3⟩
  have hbx := (Below.refl w.heap.size w).alloc (Nat.le_refl _) (.cells #[.int .i64 rk, .int .i64 rv] 24)
  have HB0 := Lib.hid hbx
  have HRb := Lib.hid (Boxed.new w #[.int .i64 rk, .int .i64 rv] 24)
  have HLm : Hid ((repL m blkA).length = m * 2) := repL_len m blkA
  clear hbx hin hl1 hk hv
  go_enter Try.func6, Try.ntmps6
  go_wp2_with fail
  refine (HAW.out _).mono ?_
  rintro e w1 ⟨rfl, hb1⟩
  have HRb1 := Lib.hid (HRb.out.below hb1 (by simp))
  have HB1 := Lib.hid (HB0.out.trans (hb1.mono HB0.out.size))
  clear hb1 HRb HB0
  go_wp2_with fail
  go_loopg [5, 6] m (fun gg v i wr => ∃ k : Nat, k ≤ m ∧ m - k ≤ gg ∧ i = .int .i64 (k : Int) ∧ Hid (Below w1.heap.size w1 wr) ∧ Hid (RC.Own w1.heap.size wr v (repL k blkA)))
  case atStart => exact ⟨0, Nat.zero_le _, by omega, rfl, Below.refl _ _, RowKind.Own.nil RC _ _⟩
  case round =>
    obtain ⟨k, hkm, hg, rfl, HB, HO⟩ := hrel
    by_cases hlt : k < m
    · have hlz : (k : Int) < (m : Int) := by omega
      have HLen : Hid ((repL k blkA).length + blkA.length ≤ 900000) := by show _ ≤ _; rw [repL_len]; show k * 2 + 2 ≤ _; omega
      have HN : Hid (R6.Own w1.heap.size wr (.slice none 0 0) []) := RowKind.Own.nil R6 _ _
      go_wp2_with (at_builtin; refine RowKind.Own.pushO (R := RC) (R2 := R6) (ys := blkA) HO.out HN.out (by decide) HB.out HB.out.size rfl _ _ rfl rfl _ rfl HLen.out ?_; intro v6 w6 hO6 hN6 hB6)
      go_roundg (m - (k + 1))
      case measure => omega
      case rel =>
        refine ⟨k + 1, by omega, by omega, by go_num, hB6, ?_⟩
        show RC.Own _ _ _ _
        rw [repL_add]
        exact hO6
    · have hlz : ¬ (k : Int) < (m : Int) := by omega
      obtain rfl : k = m := by omega
      obtain ⟨p5, c5, rfl⟩ := HO.out.is.slice
      have HI := Lib.hid HO.out.is
      rw [HLm.out] at HI
      rw [HLm.out]
      have HBt := Lib.hid (HB1.out.trans (HB.out.mono HB1.out.size))
      have HRb2 := Lib.hid (HRb1.out.below HB.out HRb1.out.lt)
      clear HO HRb1 HB HB1
      have hE1 := (Below.refl wr.heap.size wr).alloc (Nat.le_refl _) (.cells #[] 33)
      have HE1 := Lib.hid hE1
      have HO1 := Lib.hid (emptyC wr)
      have HI1 := Lib.hid (HI.out.below hE1)
      have HL1 : Hid (([] : List NV).length + (repL k blkA).length ≤ 1000000) := by show _ ≤ _; rw [HLm.out]; simp; omega
      have HL2 : Hid (([] ++ repL k blkA).length ≤ 900000) := by show _ ≤ _; rw [List.nil_append, HLm.out]; omega
      clear hE1
      go_upto_region 9 with (first
        | (at_builtin; refine RowKind.Own.appendAny (R := RC) (ys := repL k blkA) HO1.out HE1.out (by simp) rfl _ _ rfl rfl rfl HI1.out HL1.out ?_; intro v4 w4 hO4 hB4 hz4)
        | (at_builtin; refine RowKind.Own.push (R := RC) (y := ⟨14, (k : Int) * 2 + 1⟩) hO4 hB4 hB4.size rfl _ _ rfl rfl _ rfl HL2.out (Nat.le_refl _) ?_; intro v5 w5 hO5 hB5 hz5))
      rw [List.nil_append] at hO5
      have HO5 := Lib.hid hO5.is
      have HI5 := Lib.hid (HI.out.below hB5)
      have HB5 := Lib.hid (HBt.out.trans (hB5.mono HBt.out.size))
      have HRb3 := Lib.hid (HRb2.out.below hB5 HRb2.out.lt)
      clear hO4 hB4 hz4 hO5 hB5 hz5 HO1 HE1 HI1 HI HBt HRb2
      have hE2 := (Below.refl w5.heap.size w5).alloc (Nat.le_refl _) (.cells #[] 33)
      have HE2 := Lib.hid hE2
      have HO2 := Lib.hid (emptyC w5)
      have HI2 := Lib.hid (HI5.out.below hE2)
      clear hE2
      go_upto_region 10 with (first
        | (at_builtin; refine RowKind.Own.appendAny (R := RC) (ys := repL k blkA) HO2.out HE2.out (by simp) rfl _ _ rfl rfl rfl HI2.out HL1.out ?_; intro v6 w6 hO6 hB6 hz6)
        | (at_builtin; refine RowKind.Own.push (R := RC) (y := ⟨14, 0⟩) hO6 hB6 hB6.size rfl _ _ rfl rfl _ rfl HL2.out (Nat.le_refl _) ?_; intro v7 w7 hO7 hB7 hz7))
      rw [List.nil_append] at hO7
      have HO7 := Lib.hid hO7.is
      have HO8 := Lib.hid (HO5.out.below hB7)
      have HB7 := Lib.hid (HB5.out.trans (hB7.mono HB5.out.size))
      have HRb4 := Lib.hid (HRb3.out.below hB7 HRb3.out.lt)
      clear hO6 hB6 hz6 hO7 hB7 hz7 HO2 HE2 HI2 HI5 HO5 HB5 HRb3
      obtain ⟨r0, r1⟩ := HRb4.out.two
      go_wp2_with fail
      clear r0 r1
      refine (HR1.out _ _ HO8.out).mono ?_
      rintro e w8 ⟨q1, d1, rfl, hb8⟩
      have HB8 := Lib.hid (HB7.out.trans (hb8.mono HB7.out.size))
      obtain ⟨r0, r1⟩ := (HRb4.out.below hb8 HRb4.out.lt).two
      have HO9 := Lib.hid (HO7.out.below hb8)
      clear hb8 HO7 HO8 HB7 HR1 HRb4
      go_wp2_with fail
      refine (HR2.out _ _ HO9.out).mono ?_
      rintro e w9 ⟨q2, d2, rfl, hb9⟩
      have HB9 := Lib.hid (HB8.out.trans (hb9.mono HB8.out.size))
      clear hb9 HO9 HR2 r0 r1
      go_wp2
      go_returns
      exact ⟨rfl, HB9.out⟩
end Go.Proofs.Ytcflfakffeglgaa
