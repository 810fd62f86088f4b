/- the laws of layer 13: awake, and RouteOne's walk -/
import Derived.Test.YtbjecaajeokdoaaKd
namespace Go.Proofs.Ytbjecaajeokdoaa
open Go.RowKit
set_option linter.unusedVariables false
set_option linter.unusedSimpArgs false

def rawake : List IV := [⟨⟨-1, 0⟩, 1⟩]
set_option maxRecDepth 100000 in
set_option maxHeartbeats 8000000 in
theorem wawake_any (w : World) : Calls Try.prog 6 #[] w (Ret (.bool true) w) := by
  have HS := Lib.hid (fun v W (h : RI.Is W v rawake) => split_any 4 rawake v W (by decide) (by decide) h)
  have HW := Lib.hid (fun W => worker_any (-1) 4 W)
  have e3 : workerW (-1) 4 = 3 := by decide +kernel
  have e4 : partsI ((4 : Nat)) rawake = [[], [], [], rawake] := by decide +kernel
  rw [e3] at HW
  rw [e4] at HS
  clear e3 e4
  have HR : Hid (RI.Is (w.alloc (.cells #[.int .i64 (-1), .int .i64 0, .int .i64 1] 31)) (.slice (some ⟨w.heap.size, 0, none⟩) 1 1) rawake) :=
    .inr ⟨by decide, w.heap.size, 0, 1, rfl, by simp, RowKind.Row.new (R := RI) w ⟨⟨-1, 0⟩, 1⟩ 31⟩
  have HB : Hid (Below w.heap.size w (w.alloc (.cells #[.int .i64 (-1), .int .i64 0, .int .i64 1] 31))) := (Below.refl _ _).alloc (Nat.le_refl _) _
  go_enter Try.func6, Try.ntmps6
  go_wp2_with fail
  refine (HS.out _ _ HR.out).mono ?_
  rintro e w2 ⟨blk, svs, rfl, hO, hb⟩
  have hs : 3 < svs.length := by rw [hO.len]; decide
  have hc := hO.cell 3 hs
  have hn := hO.get 3 hs
  have HB2 := Lib.hid (HB.out.trans (hb.mono (Nat.le_trans (Nat.le_succ _) (by simp))))
  generalize svs[3]! = s at *
  obtain ⟨p, n, c⟩ := s
  simp only at hn
  have hn1 : n = 1 := hn
  subst hn1
  clear hO hb hs hn HB HR HS
  go_wp2_with fail
  refine (HW.out _).mono ?_
  rintro e w3 ⟨rfl, rfl⟩
  go_wp2
  go_returns
  exact ⟨rfl, HB2.out⟩
set_option maxRecDepth 100000 in
set_option maxHeartbeats 8000000 in
theorem routeOne_walk (k n : Int) (w : World) : Calls Try.prog 3 #[.int .i64 k, .int .i64 n] w (Ret (.bool true) w) := by
  have HA := Lib.hid (wawake_any w)
  have HW := Lib.hid (fun W => worker_any k n W)
  by_cases hn : 1 ≤ n ∧ n ≤ 64
  · obtain ⟨m1, m2, m3⟩ := emod_64 k n hn.1 hn.2
    have hw : workerW k n = k % n := if_pos hn
    have hr := worker_range (k := k) hn
    have hn0 : ¬ n = 0 := by omega
    have hnb : (n == 0) = false := by simpa using hn0
    obtain ⟨hn1, hn2⟩ := hn
    rw [← hw] at m3
    generalize workerW k n = res at *
    have HM := Lib.hid m3
    clear m3 hw
    go_enter Try.func3, Try.ntmps3
    go_wp2_with fail
    refine (HA.out).mono ?_
    rintro e w1 ⟨rfl, hb⟩
    have HB := Lib.hid hb
    clear hb HA
    go_wp2_with fail
    refine (HW.out _).mono ?_
    rintro e w2 ⟨rfl, rfl⟩
    by_cases hneg : k.tmod n < 0
    · have m3 := HM.out
      rw [if_pos hneg] at m3
      have hwr : wrap64 (k.tmod n + n) = res := by unfold wrap64; omega
      have h1 : (k.tmod n == res) = false := by simp; omega
      have h2 : k.tmod n ≠ res := by omega
      go_wp2
      go_returns
      exact ⟨rfl, HB.out⟩
    · have m3 := HM.out
      rw [if_neg hneg] at m3
      have h1 : (k.tmod n == res) = true := by simp; omega
      go_wp2
      go_returns
      exact ⟨rfl, HB.out⟩
  · have hw : workerW k n = 0 := if_neg hn
    rw [hw] at HW
    go_enter Try.func3, Try.ntmps3
    go_wp2_with fail
    refine (HA.out).mono ?_
    rintro e w1 ⟨rfl, hb⟩
    have HB := Lib.hid hb
    clear hb HA
    go_wp2_with fail
    refine (HW.out _).mono ?_
    rintro e w2 ⟨rfl, rfl⟩
    by_cases h1 : n < 1
    · go_wp2
      go_returns
      exact ⟨rfl, HB.out⟩
    · have h2 : 64 < n := by omega
      go_wp2
      go_returns
      exact ⟨rfl, HB.out⟩
end Go.Proofs.Ytbjecaajeokdoaa
