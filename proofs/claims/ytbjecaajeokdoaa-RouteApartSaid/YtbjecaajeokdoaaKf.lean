/- RouteApart's walk -/
import Derived.Test.YtbjecaajeokdoaaKe
namespace Go.Proofs.Ytbjecaajeokdoaa
open Go.RowKit
set_option linter.unusedVariables false
set_option linter.unusedSimpArgs false

/-- which workers the first m keys went to -/
def seenA (k n : Int) (m j : Nat) : Bool := decide (∃ i : Nat, i < m ∧ workerW (k + (i : Int)) n = (j : Int))
theorem seen_zero (k n : Int) (j : Nat) : seenA k n 0 j = false := decide_eq_false fun ⟨i, h, _⟩ => absurd h (Nat.not_lt_zero i)
theorem seen_succ (k n : Int) (m j : Nat) : seenA k n (m + 1) j = (seenA k n m j || decide (workerW (k + (m : Int)) n = (j : Int))) := by
  unfold seenA
  rw [Bool.eq_iff_iff, Bool.or_eq_true, decide_eq_true_eq, decide_eq_true_eq, decide_eq_true_eq]
  constructor
  · rintro ⟨i, hi, e⟩
    by_cases h : i = m
    · subst h; exact .inr e
    · exact .inl ⟨i, by omega, e⟩
  · rintro (⟨i, hi, e⟩ | e)
    · exact ⟨i, by omega, e⟩
    · exact ⟨m, by omega, e⟩
theorem apart_ne {k n : Int} (hn : 1 ≤ n ∧ n ≤ 64) {i m : Nat} (hi : i < m) (hm : (m : Int) < n) : workerW (k + (i : Int)) n ≠ workerW (k + (m : Int)) n := by
  unfold workerW
  rw [if_pos hn, if_pos hn]
  intro e
  have h := Int.emod_emod_of_dvd (k + m - (k + i)) (Int.dvd_refl n)
  have h2 : (k + (m : Int) - (k + (i : Int))) % n = 0 := by rw [Int.sub_emod, e]; simp
  have h3 : (k + (m : Int) - (k + (i : Int))) = (m : Int) - i := by omega
  rw [h3, Int.emod_eq_of_lt (by omega) (by omega)] at h2
  omega
theorem seen_fresh {k n : Int} (hn : 1 ≤ n ∧ n ≤ 64) {m j : Nat} (hm : (m : Int) < n) (hj : workerW (k + (m : Int)) n = (j : Int)) : seenA k n m j = false :=
  decide_eq_false fun ⟨i, hi, e⟩ => apart_ne hn hi hm (e.trans hj.symm)
theorem worker_more {k n : Int} (hn : 1 ≤ n ∧ n ≤ 64) : workerW (k + n) n = workerW k n := by
  unfold workerW
  rw [if_pos hn, if_pos hn]
  simp
/-- the array of what was seen -/
structure SeenB (w : World) (b : Nat) (k n : Int) (m : Nat) : Prop where
  ex : ∃ c : Array Value, w.heap[b]? = some (.cells c 36 (0, 0)) ∧ c.size = 64 ∧ ∀ j, j < 64 → c[j]? = some (.bool (seenA k n m j))
theorem SeenB.new (W : World) (k n : Int) (c : Array Value) (hc : c = Array.replicate 64 (.bool false)) : SeenB (W.alloc (.cells c 36)) W.heap.size k n 0 := by
  subst hc
  refine ⟨_, heap_alloc_new _ _, by simp, fun j hj => ?_⟩
  rw [seen_zero]
  simp [hj]
theorem SeenB.below {w w' : World} {b : Nat} {k n : Int} {m : Nat} (h : SeenB w b k n m) (hb : Below w.heap.size w w') : SeenB w' b k n m := by
  obtain ⟨c, h1, h2⟩ := h.ex
  exact ⟨c, (hb.block b (Array.getElem?_eq_some_iff.1 h1).1).trans h1, h2⟩
theorem SeenB.cell {w : World} {b : Nat} {k n : Int} {m : Nat} (h : SeenB w b k n m) {j : Nat} (hj : j < 64) : w.cell? ⟨b, j, none⟩ = some (.bool (seenA k n m j)) := by
  obtain ⟨c, h1, h2, h3⟩ := h.ex
  unfold World.cell?
  rw [h1]
  simp [h3 j hj]
theorem SeenB.frozen {w : World} {b : Nat} {k n : Int} {m : Nat} (h : SeenB w b k n m) (j : Nat) : w.frozen? ⟨b, j, none⟩ = false := by
  obtain ⟨c, h1, h2, h3⟩ := h.ex
  unfold World.frozen?
  rw [h1]
  simp
theorem SeenB.lt {w : World} {b : Nat} {k n : Int} {m : Nat} (h : SeenB w b k n m) : b < w.heap.size := by
  obtain ⟨c, h1, h2, h3⟩ := h.ex
  exact (Array.getElem?_eq_some_iff.1 h1).1
theorem SeenB.put {w : World} {b : Nat} {k n : Int} {m j : Nat} (h : SeenB w b k n m) (hj : j < 64) (he : workerW (k + (m : Int)) n = (j : Int)) : SeenB (w.setCell ⟨b, j, none⟩ (.bool true)) b k n (m + 1) := by
  obtain ⟨c, h1, h2, h3⟩ := h.ex
  refine ⟨c.setIfInBounds j (.bool true), ?_, by simp [h2], fun i hi => ?_⟩
  · simp only [World.setCell, Array.getElem?_modify, if_true]
    rw [h1]
    rfl
  · rw [seen_succ]
    by_cases e : j = i
    · subst e
      simp [h2, hj, he]
    · have : ¬ (j : Int) = (i : Int) := by omega
      rw [Array.getElem?_setIfInBounds_ne e, h3 i hi, he]
      simp [this]
set_option maxRecDepth 100000 in
set_option maxHeartbeats 8000000 in
theorem routeApart_walk (k u : Int) (w : World) (hk1 : -2147483648 ≤ k) (hk2 : k ≤ 2147483647) (hu1 : 0 ≤ u) (hu2 : u ≤ 255) : Calls Try.prog 5 #[.int .i32 k, .int .u8 u] w (Ret (.bool true) w) := by
  have HA := Lib.hid (wawake_any w)
  obtain ⟨N, hN⟩ : ∃ N : Nat, u % 64 + 1 = (N : Int) := ⟨(u % 64 + 1).toNat, by omega⟩
  have hN1 : 1 ≤ (N : Int) ∧ (N : Int) ≤ 64 := by omega
  have HW := Lib.hid (fun x W => worker_any x N W)
  go_enter Try.func5, Try.ntmps5
  go_wp2_with fail
  refine (HA.out).mono ?_
  rintro e w1 ⟨rfl, hb⟩
  have HB := Lib.hid hb
  clear hb HA
  go_upto_region 4 with (fail)
  go_upto_region 5 with (fail)
  refine gen_world (fun W => Hid (SeenB W w1.heap.size k N 0) ∧ Hid (Below w.heap.size w W)) ⟨SeenB.new _ _ _ _ rfl, HB.out.alloc HB.out.size _⟩ ?_
  rintro w2 ⟨HS2, HB2⟩
  have hb1 : w.heap.size ≤ w1.heap.size := HB.out.size
  generalize hbb : w1.heap.size = b at *
  clear hbb HB
  have hN64 : N ≤ 64 := by omega
  go_wp2_with fail
  go_loopg [7] N (fun gg i wr => ∃ m : Nat, m ≤ N ∧ N - m ≤ gg ∧ i = .int .i64 (m : Int) ∧ Hid (SeenB wr b k N m) ∧ Hid (Below w.heap.size w wr))
  case atStart => exact ⟨0, Nat.zero_le _, by omega, rfl, HS2.out, HB2.out⟩
  case round =>
    obtain ⟨m, hm, hg, rfl, HS, HB⟩ := hrel
    clear HS2 HB2
    by_cases hlt : m < N
    · have hmz : (m : Int) < (N : Int) := by omega
      have hwr := worker_range (k := k + (m : Int)) hN1
      have hmore := worker_more (k := k + (m : Int)) hN1
      obtain ⟨j, hj⟩ : ∃ j : Nat, workerW (k + (m : Int)) N = (j : Int) := ⟨(workerW (k + (m : Int)) N).toNat, by omega⟩
      have hjN : (j : Int) < (N : Int) := by omega
      have hj64 : j < 64 := by omega
      have HW1 := Lib.hid (fun W => HW.out (k + (m : Int)) W)
      have HW2 := Lib.hid (fun W => HW.out (k + (m : Int) + (N : Int)) W)
      rw [hmore, hj] at HW2
      rw [hj] at HW1
      have hf := seen_fresh hN1 hmz hj
      have hc := HS.out.cell hj64
      rw [hf] at hc
      have hfr := HS.out.frozen j
      have HSp : Hid (SeenB (wr.setCell ⟨b, j, none⟩ (.bool true)) b k N (m + 1)) := HS.out.put hj64 hj
      have HBp : Hid (Below w.heap.size w (wr.setCell ⟨b, j, none⟩ (.bool true))) := HB.out.setCell (by show w.heap.size ≤ b; exact hb1) _
      clear hwr hmore hj hf HS HB HW
      go_wp2_with fail
      refine (HW1.out _).mono ?_
      rintro e wq ⟨rfl, rfl⟩
      go_wp2_with fail
      refine (HW2.out _).mono ?_
      rintro e wp ⟨rfl, rfl⟩
      go_wp2
      go_roundg (N - (m + 1))
      case measure => omega
      case rel => exact ⟨m + 1, by omega, by omega, by go_num, HSp.out, HBp.out⟩
    · obtain rfl : m = N := by omega
      go_wp2
      go_returns
      exact ⟨rfl, HB.out⟩
end Go.Proofs.Ytbjecaajeokdoaa
