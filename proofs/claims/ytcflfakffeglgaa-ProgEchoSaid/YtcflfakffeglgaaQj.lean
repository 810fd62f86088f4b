/- the law ProgEcho: over what the program's own Run answers -/
import Derived.Test.YtcflfakffeglgaaQf
namespace Go.Proofs.Ytcflfakffeglgaa
open Go.RowKit
set_option linter.unusedVariables false
set_option linter.unusedSimpArgs false
attribute [local go_sem ↓] eqRec neRec

set_option maxRecDepth 100000 in
set_option maxHeartbeats 4000000 in
theorem progEcho_walk (C : ProgC) (rk rv : Int) (hk : inR rk) (hv : inR rv) (n : Int) (n0 : 0 ≤ n) (n9 : n ≤ 255) (w : World) :
    Calls Try.prog 7 #[.agg #[.int .i64 rk, .int .i64 rv], .int .u8 n] w (Ret (.bool true) w) := by
  obtain ⟨m, hm⟩ : ∃ m : Nat, n % 12 = (m : Int) := ⟨(n % 12).toNat, by omega⟩
  have hm11 : m ≤ 11 := by omega
  have HAW := Lib.hid (fun W => progAwake C W)
  have hin : ∀ y ∈ repL m blkE, inR y.n := fun y hy => by
    unfold repL at hy
    obtain ⟨l, h1, h2⟩ := List.mem_flatten.1 hy
    have := List.eq_of_mem_replicate h1
    subst this
    simp [blkE] at h2
    rcases h2 with rfl | rfl | rfl <;> (show inR 0; decide)
  have hl1 : (repL m blkE).length ≤ 1000 := by rw [repL_len]; show m * 3 ≤ 1000; omega
  have hR := fun W v (h : RC.Is W v (repL m blkE)) => C.run _ v rk rv W hl1 h hin hk hv
  unfold RunR at hR
  have HR := Lib.hid hR
  have hbx := (Below.refl w.heap.size w).alloc (Nat.le_refl _) (.cells #[.int .i64 rk, .int .i64 rv] 24)
  have HB0 := Lib.hid hbx
  have HRb := Lib.hid (Boxed.new w #[.int .i64 rk, .int .i64 rv] 24)
  clear hbx hin hl1 hk hv hR
  go_enter Try.func7, Try.ntmps7
  go_wp2_with fail
  refine (HAW.out _).mono ?_
  rintro e w1 ⟨rfl, hb1⟩
  have HRb1 := Lib.hid (HRb.out.below hb1 (by simp))
  have HB1 := Lib.hid (HB0.out.trans (hb1.mono HB0.out.size))
  clear hb1 HRb HB0
  go_wp2_with fail
  clear hm
  go_loopg [5, 7] m (fun gg v i wr => ∃ k : Nat, k ≤ m ∧ m - k ≤ gg ∧ i = .int .i64 (k : Int) ∧ Hid (Below w1.heap.size w1 wr) ∧ Hid (RC.Own w1.heap.size wr v (repL k blkE)))
  case atStart => exact ⟨0, Nat.zero_le _, by omega, rfl, Below.refl _ _, RowKind.Own.nil RC _ _⟩
  case round =>
    obtain ⟨k, hkm, hg, rfl, HB, HO⟩ := hrel
    by_cases hlt : k < m
    · have hlz : (k : Int) < (m : Int) := by omega
      have HLen : Hid ((repL k blkE).length + blkE.length ≤ 900000) := by show _ ≤ _; rw [repL_len]; show k * 3 + 3 ≤ _; omega
      have HN : Hid (R6.Own w1.heap.size wr (.slice none 0 0) []) := RowKind.Own.nil R6 _ _
      go_wp2_with (at_builtin; refine RowKind.Own.pushO (R := RC) (R2 := R6) (ys := blkE) HO.out HN.out (by decide) HB.out HB.out.size rfl _ _ rfl rfl _ rfl HLen.out ?_; intro v6 w6 hO6 hN6 hB6)
      go_roundg (m - (k + 1))
      case measure => omega
      case rel =>
        refine ⟨k + 1, by omega, by omega, by go_num, hB6, ?_⟩
        show RC.Own _ _ _ _
        rw [repL_add]
        exact hO6
    · have hlz : ¬ (k : Int) < (m : Int) := by omega
      obtain rfl : k = m := by omega
      have HBt := Lib.hid (HB1.out.trans (HB.out.mono HB1.out.size))
      have HRb2 := Lib.hid (HRb1.out.below HB.out HRb1.out.lt)
      obtain ⟨b0, b1⟩ := HRb2.out.two
      have HI := Lib.hid HO.out.is
      clear HO HRb1 HB HB1
      go_wp2_with fail
      refine (HR.out _ _ HI.out).mono ?_
      rintro e w3 ⟨v3, rfl, hO3, hb3⟩
      have HB3 := Lib.hid (HBt.out.trans (hb3.mono HBt.out.size))
      have HRb3 := Lib.hid (HRb2.out.below hb3 HRb2.out.lt)
      clear b0 b1
      obtain ⟨b0, b1⟩ := HRb3.out.two
      have HO3 := Lib.hid hO3.is
      clear hb3 hO3 HI HRb2 HR HBt
      by_cases h8 : k ≤ 8
      · have hgt : ¬ (k : Int) > 8 := by omega
        have ho := HO3.out
        rw [runC_echo k h8] at ho ⊢
        simp only at ho
        have hq : eqR ⟨rk, rv⟩ ⟨rk, rv⟩ = true := decide_eq_true rfl
        have hkk : ((k : Int) != (k : Int)) = false := by simp
        rcases ho with ⟨h, p, cap, rfl, _⟩ | ⟨hne, g, off, cap, rfl, hgl, hr⟩
        · have hk0 : k = 0 := by
            have := congrArg List.length h
            simpa using this
          subst hk0
          clear HO3
          go_wp2_with fail
          refine wp_loop_rounds 1 ?_
          rw [rounds_succ]
          go_wp2
          go_returns
          exact ⟨rfl, HB3.out⟩
        · have hrow : Hid (∀ (W : World), Below w3.heap.size w3 W → ∀ j, j < k → W.cell? ⟨g, off + j * 2, none⟩ = some (.int .i64 rk) ∧ W.cell? ⟨g, off + j * 2 + 1, none⟩ = some (.int .i64 rv)) := fun W hW j hj => by
            have := atR7 (hr.below hW hgl) j (by rw [List.length_replicate]; exact hj)
            rw [getElem!_pos (List.replicate k _) j (by rw [List.length_replicate]; exact hj), List.getElem_replicate] at this
            exact this
          have HRbx : Hid (∀ (W : World), Below w3.heap.size w3 W → W.cell? ⟨w.heap.size, 0, none⟩ = some (.int .i64 rk) ∧ W.cell? ⟨w.heap.size, 1, none⟩ = some (.int .i64 rv)) := fun W hW => (HRb3.out.below hW HRb3.out.lt).two
          rw [List.length_replicate]
          clear HO3 hr HRb3 b0 b1
          go_wp2_with fail
          go_loopg [10] k (fun gg i wr => ∃ j : Nat, j ≤ k ∧ k - j ≤ gg ∧ i = .int .i64 (j : Int) ∧ Hid (Below w3.heap.size w3 wr))
          case atStart => exact ⟨0, Nat.zero_le _, by omega, rfl, Below.refl _ _⟩
          case round =>
            obtain ⟨j, hjk, hg2, rfl, HBr⟩ := hrel
            by_cases hj : j < k
            · have hjz : (j : Int) < (k : Int) := by omega
              have c0 := fun q => (hrow.out (wr.drewN q) (below_drewN HBr.out q) j hj).1
              have c1 := fun q => (hrow.out (wr.drewN q) (below_drewN HBr.out q) j hj).2
              have d0 := fun q => (HRbx.out (wr.drewN q) (below_drewN HBr.out q)).1
              have d1 := fun q => (HRbx.out (wr.drewN q) (below_drewN HBr.out q)).2
              have HBd := fun q => below_drewN HBr.out q
              clear hrow HRbx
              go_wp2_with fail
              go_quiet (fail)
              go_wp2
              go_roundg (k - (j + 1))
              case measure => omega
              case rel => exact ⟨j + 1, by omega, by omega, by go_num, HBd _⟩
            · have hjz : ¬ (j : Int) < (k : Int) := by omega
              clear hrow HRbx
              go_wp2
              go_returns
              exact ⟨rfl, HB3.out.trans (HBr.out.mono HB3.out.size)⟩
      · have hgt : (k : Int) > 8 := by omega
        have ho := HO3.out
        rw [runC_echo9 k (by omega) hm11] at ho ⊢
        simp only [errL] at ho ⊢
        rcases ho with ⟨h, _⟩ | ⟨hne, g, off, cap, rfl, hgl, hr⟩
        · cases h
        obtain ⟨l0, l1⟩ := atR7 hr 0 (by simp)
        simp only [Nat.zero_mul, Nat.add_zero] at l0 l1
        have l0 : w3.cell? ⟨g, off, none⟩ = some (.int .i64 rk) := l0
        have c0 := fun q => show (w3.drewN q).cell? ⟨g, off, none⟩ = some (.int .i64 rk) from l0
        have d0 := fun q => show (w3.drewN q).cell? ⟨w.heap.size, 0, none⟩ = some (.int .i64 rk) from b0
        have hkk : (rk == rk) = true := by simp
        clear hr HO3 l1
        go_wp2_with fail
        go_quiet (fail)
        go_wp2
        go_returns
        exact ⟨ret_bool (by first | rfl | simp), below_drewN HB3.out _⟩
end Go.Proofs.Ytcflfakffeglgaa
