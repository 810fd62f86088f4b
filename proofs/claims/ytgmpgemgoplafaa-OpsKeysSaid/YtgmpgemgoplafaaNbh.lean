/- some: the records whose keys leave a number -/
import Derived.Test.YtgmpgemgoplafaaNbg
namespace Go.Proofs.Ytgmpgemgoplafaa
open Go.RowKit
set_option linter.unusedVariables false
set_option linter.unusedSimpArgs false

theorem emod_of (x n : Int) (hn : 1 ≤ n) (h5 : n ≤ 5) : -5 < x.tmod n ∧ x.tmod n < 5 ∧ (if x.tmod n < 0 then x.tmod n + n else x.tmod n) = x % n := by
  have he := Int.emod_nonneg x (show n ≠ 0 by omega)
  have hl := Int.emod_lt_of_pos x (show 0 < n by omega)
  have ha : (n.natAbs : Int) = n := by omega
  rw [Int.tmod_eq_emod]
  split
  · refine ⟨by omega, by omega, ?_⟩
    rw [if_neg (by omega)]; omega
  · refine ⟨by omega, by omega, ?_⟩
    rw [if_pos (by omega)]; omega
theorem filter_succ {xs : List RV} {m : Nat} (hm : m < xs.length) (P : RV → Bool) : (xs.take (m + 1)).filter P = (xs.take m).filter P ++ (if P xs[m]! = true then [xs[m]!] else []) := by
  rw [take_getA xs m hm, List.filter_append]
  congr 1
  generalize xs[m]! = x
  by_cases h : P x = true <;> simp [h]
set_option maxRecDepth 100000 in
set_option maxHeartbeats 4000000 in
theorem some_any (xs : List RV) (n j : Int) (v : Value) (w : World) (hl : xs.length ≤ 60) (hn : 1 ≤ n) (h5 : n ≤ 5) (hi : RR.Is w v xs) :
    Calls Try.prog 13 #[v, .int .i64 n, .int .i64 j] w (RR.Made (xs.filter fun r => decide (r.k % n = j)) w) := by
  obtain ⟨pv, cv, rfl⟩ := hi.slice
  have HI := Lib.hid hi
  have hn0 : ¬ n = 0 := by omega
  have hnb : (n == 0) = false := by simpa using hn0
  have HN : Hid (1 ≤ n ∧ n ≤ 5) := ⟨hn, h5⟩
  have HL := Lib.hid hl
  clear hi
  go_enter Try.func13, Try.ntmps13
  go_wp2
  go_loopg [7, 8] xs.length (fun gg o i wr => ∃ m : Nat, m ≤ xs.length ∧ xs.length - m ≤ gg ∧ i = .int .i64 m ∧ Hid (RR.Own w.heap.size wr o ((xs.take m).filter fun r => decide (r.k % n = j))) ∧ Hid (Below w.heap.size w wr))
  case atStart => exact ⟨0, Nat.zero_le _, by omega, rfl, RowKind.Own.nil RR _ _, Below.refl _ _⟩
  case round =>
    obtain ⟨m, hm, hg, rfl, HO, HB⟩ := hrel
    by_cases hlt : m < xs.length
    · obtain ⟨b, off, rfl, hbl, hrow⟩ : ∃ b off, pv = some ⟨b, off, none⟩ ∧ b < wr.heap.size ∧ RR.Row wr b off xs := by
        rcases HI.out.below HB.out with ⟨e, _⟩ | ⟨_, b2, o2, cap2, e, hb, hr⟩
        · rw [e] at hlt; exact absurd hlt (Nat.not_lt_zero _)
        · cases e; exact ⟨b2, o2, rfl, hb, hr⟩
      obtain ⟨e0, e1⟩ := atR hrow m hlt
      have HS := Lib.hid (filter_succ hlt fun r => decide (r.k % n = j))
      have hmod := emod_of (xs[m]!).k n hn h5
      have HLo : Hid (((xs.take m).filter fun r => decide (r.k % n = j)).length ≤ 60) := Nat.le_trans (List.length_filter_le _ _) (by rw [List.length_take]; omega)
      have hlz : (m : Int) < (xs.length : Int) := by omega
      obtain ⟨po, co, rfl⟩ := HO.out.is.slice
      generalize xs[m]! = r at *
      obtain ⟨rk, rv⟩ := r
      simp only at e0 e1 hmod
      obtain ⟨m1, m2, m3⟩ := hmod
      generalize (xs.take m).filter (fun r => decide (r.k % n = j)) = L at *
      have HM3 := Lib.hid m3
      have HAp : Hid (RR.App (wr.alloc (.cells #[.int .i64 rk, .int .i64 rv] 41)) (.slice (some ⟨wr.heap.size, 0, none⟩) 1 1) [⟨rk, rv⟩]) := RowKind.Row.app (R := RR) (c := 1) (ys := [⟨rk, rv⟩]) (RowKind.Row.new (R := RR) wr ⟨rk, rv⟩ 41)
      have HLL : Hid (L.length + [(⟨rk, rv⟩ : RV)].length ≤ 1000000) := by have := HLo.out; show _ + 1 ≤ _; omega
      have HBS : Hid (w.heap.size ≤ (wr.alloc (.cells #[.int .i64 rk, .int .i64 rv] 41)).heap.size) := Nat.le_trans HB.out.size (by simp)
      clear hrow m3
      have hmn : -5 < rk.tmod n + n ∧ rk.tmod n + n < 10 := by omega
      go_upto_region 6 with (fail)
      have m3 := HM3.out
      clear HM3
      generalize rk.tmod n = t at *
      by_cases hneg : t < 0
      · rw [if_pos hneg] at m3
        by_cases hj : t + n = j
        · have HR : Hid ((xs.take (m + 1)).filter (fun r => decide (r.k % n = j)) = L ++ [⟨rk, rv⟩]) := by
            rw [HS.out, if_pos (decide_eq_true (by show rk % n = j; omega))]; exact rfl
          have hjb : (t + n == j) = true := by simpa using hj
          clear m3 HS
          go_wp2_with (at_builtin; refine RowKind.Own.append (R := RR) rfl _ _ rfl (HO.out.alloc _) rfl [⟨rk, rv⟩] rfl HAp.out HLL.out HBS.out ?_; intro v2 w2 hO2 hg2; have HO2 := Lib.hid hO2; have HB2 : Hid (Below w.heap.size w w2) := (HB.out.alloc HB.out.size _).grown hg2 HBS.out (fun q e => (HO.out.lt q e).1))
          go_roundg (xs.length - (m + 1))
          case measure => omega
          case rel => exact ⟨m + 1, by omega, by omega, by go_num, by rw [HR.out]; exact HO2.out, HB2.out⟩
        · have HR : Hid ((xs.take (m + 1)).filter (fun r => decide (r.k % n = j)) = L) := by
            rw [HS.out, if_neg (by simp; omega)]; exact List.append_nil _
          have hjb : (t + n == j) = false := by simpa using hj
          clear m3 HS
          go_wp2
          go_roundg (xs.length - (m + 1))
          case measure => omega
          case rel => exact ⟨m + 1, by omega, by omega, by go_num, by rw [HR.out]; exact HO.out, HB.out⟩
      · rw [if_neg hneg] at m3
        by_cases hj : t = j
        · have HR : Hid ((xs.take (m + 1)).filter (fun r => decide (r.k % n = j)) = L ++ [⟨rk, rv⟩]) := by
            rw [HS.out, if_pos (decide_eq_true (by show rk % n = j; omega))]; exact rfl
          have hjb : (t == j) = true := by simpa using hj
          clear m3 HS
          go_wp2_with (at_builtin; refine RowKind.Own.append (R := RR) rfl _ _ rfl (HO.out.alloc _) rfl [⟨rk, rv⟩] rfl HAp.out HLL.out HBS.out ?_; intro v2 w2 hO2 hg2; have HO2 := Lib.hid hO2; have HB2 : Hid (Below w.heap.size w w2) := (HB.out.alloc HB.out.size _).grown hg2 HBS.out (fun q e => (HO.out.lt q e).1))
          go_roundg (xs.length - (m + 1))
          case measure => omega
          case rel => exact ⟨m + 1, by omega, by omega, by go_num, by rw [HR.out]; exact HO2.out, HB2.out⟩
        · have HR : Hid ((xs.take (m + 1)).filter (fun r => decide (r.k % n = j)) = L) := by
            rw [HS.out, if_neg (by simp; omega)]; exact List.append_nil _
          have hjb : (t == j) = false := by simpa using hj
          clear m3 HS
          go_wp2
          go_roundg (xs.length - (m + 1))
          case measure => omega
          case rel => exact ⟨m + 1, by omega, by omega, by go_num, by rw [HR.out]; exact HO.out, HB.out⟩
    · obtain rfl : m = xs.length := by omega
      rw [List.take_length] at HO
      go_wp2
      go_returns
      exact ⟨_, rfl, HO.out, HB.out⟩
end Go.Proofs.Ytgmpgemgoplafaa
