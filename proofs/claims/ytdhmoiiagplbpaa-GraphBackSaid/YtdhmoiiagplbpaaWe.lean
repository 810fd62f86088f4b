/- ReadUint, ReadInt -/
import Derived.Test.YtdhmoiiagplbpaaWb
import Derived.Test.YtdhmoiiagplbpaaWe0
namespace Go.Proofs.Ytdhmoiiagplbpaa
open Go.RowKit
set_option linter.unusedVariables false
set_option linter.unusedSimpArgs false

theorem orV {k m : Nat} {x : Int} (hk : k ≤ 9) (hm : m < 2 ^ (7 * k)) (h0 : 0 ≤ x) (h1 : x < 256) (h : k ≤ 8 ∨ x ≤ 1) : bits .or .u64 (m : Int) (IntKind.u64.wrap (x % 128 * 2 ^ (7 * k))) = ((m + x.toNat % 128 * 2 ^ (7 * k) : Nat) : Int) := by
  obtain ⟨y, rfl⟩ := Int.eq_ofNat_of_zero_le h0
  have hy : y < 256 := by omega
  have hp : (2 : Nat) ^ (7 * k) ≤ 2 ^ 63 := Nat.pow_le_pow_right (by decide) (by omega)
  have hlt : y % 128 * 2 ^ (7 * k) < 2 ^ 64 := by
    rcases h with h | h
    · have h8 : (2 : Nat) ^ (7 * k) ≤ 2 ^ 56 := Nat.pow_le_pow_right (by decide) (by omega)
      have : y % 128 * 2 ^ (7 * k) ≤ 127 * 2 ^ 56 := Nat.mul_le_mul (by omega) h8
      omega
    · have : y % 128 * 2 ^ (7 * k) ≤ 1 * 2 ^ 63 := Nat.mul_le_mul (by omega) hp
      omega
  have e : ((y : Nat) : Int) % 128 * 2 ^ (7 * k) = ((y % 128 * 2 ^ (7 * k) : Nat) : Int) := by
    rw [Int.natCast_mul, Int.natCast_pow, Int.natCast_emod]
    rfl
  rw [e, IntKind.wrap_u64, Int.emod_eq_of_lt (by omega) (by omega), bits_or_u64_nat m _ (by omega) (by omega), Int.toNat_natCast]
  congr 1
  have := Nat.two_pow_add_eq_or_of_lt hm (y % 128)
  rw [Nat.mul_comm, Nat.or_comm, ← this, Nat.mul_comm]
  omega
set_option maxRecDepth 100000 in
set_option maxHeartbeats 4000000 in
theorem readU_row (xs : List Int) (b off cap : Nat) (w : World) (hl : xs.length ≤ 900000) (hx : okB xs) (hb : b < w.heap.size) (hr : RB.Row w b off xs) :
    Calls Try.prog 59 #[.slice (some ⟨b, off, none⟩) xs.length cap] w (RetW (RdV (readU xs)) w) := by
  have hrow := Lib.hid (fun j hj => atB hr j hj)
  clear hr
  have hby := Lib.hid (fun j (hj : j < xs.length) => hx xs[j]! (by rw [getElem!_pos xs j hj]; exact List.getElem_mem hj))
  have hdr := Lib.hid (fun j (hj : j < xs.length) => drop_cons hj)
  have hS : scan (xs.drop 0) 0 0 = readU xs := rfl
  have hE : scan (xs.drop xs.length) 0 0 = (0, 0, 3) := by rw [List.drop_length]; rfl
  generalize readU xs = res at *
  have HS := Lib.hid hS
  clear hS hE
  generalize hn : xs.length = n at *
  have HN := Lib.hid hn
  clear hn
  go_enter Try.func59, Try.ntmps59
  go_wp2
  go_loopg [5, 10] n (fun gg acc i wr => ∃ k m : Nat, k ≤ n ∧ k ≤ 9 ∧ n - k ≤ gg ∧ i = .int .i64 k ∧ acc = .int .u64 (m : Int) ∧ Hid (m < 2 ^ (7 * k)) ∧ wr = w ∧ Hid (scan (xs.drop k) k m = res))
  case atStart => exact ⟨0, 0, Nat.zero_le _, by omega, by omega, rfl, rfl, by show 0 < 1; omega, rfl, HS.out⟩
  case round =>
    obtain ⟨k, m, hkn, hk9, hg, rfl, rfl, HM, rfl, HC⟩ := hrel
    by_cases hlt : k < n
    · have hlz : (k : Int) < (n : Int) := by omega
      have hc := hrow.out k hlt
      obtain ⟨hx0, hx1⟩ := hby.out k hlt
      have hq := HC.out
      rw [hdr.out k hlt, scan] at hq
      generalize xs[k]! = x at *
      clear hrow hby hdr
      have hm := HM.out
      clear HC HM
      by_cases w1 : (k = 9 ∧ 1 < x) ∨ (0 < k ∧ x = 0)
      · rw [if_pos w1] at hq
        subst hq
        go_wp2
        all_goals go_returns
        all_goals exact ⟨rfl, rfl⟩
      · rw [if_neg w1] at hq
        have hor := Lib.hid (orV hk9 hm hx0 hx1 (by omega))
        by_cases w2 : x < 128
        · rw [if_pos w2] at hq
          have HQ := Lib.hid hq
          clear hq
          go_wp2
          all_goals go_returns
          all_goals (refine ⟨rdV_ext ?_ ?_ ?_, rfl⟩ <;> (rw [← HQ.out]; try dsimp only))
          all_goals (first | omega | (rw [hor.out, show x.toNat % 128 = x.toNat from by omega]))
        · rw [if_neg w2] at hq
          have HQ := Lib.hid hq
          clear hq
          go_wp2
          all_goals (
            go_roundg (n - (k + 1))
            case measure => omega
            case rel =>
              refine ⟨k + 1, m + x.toNat % 128 * 2 ^ (7 * k), by omega, by omega, by omega, by go_num, by rw [hor.out], ?_, rfl, HQ.out⟩
              show m + x.toNat % 128 * 2 ^ (7 * k) < 2 ^ (7 * (k + 1))
              rw [pow7]
              have : x.toNat % 128 * 2 ^ (7 * k) ≤ 127 * 2 ^ (7 * k) := Nat.mul_le_mul (by omega) (Nat.le_refl _)
              omega)
    · have hlz : ¬ (k : Int) < (n : Int) := by omega
      have : k = n := by omega
      subst this
      have HX : Hid (res = (0, 0, 3)) := by
        have h := HC.out
        rw [List.drop_of_length_le (by rw [HN.out]; exact Nat.le_refl _), scan] at h
        exact h.symm
      clear HC hrow hby hdr
      go_wp2
      go_returns
      exact ⟨by rw [HX.out]; rfl, rfl⟩
set_option maxHeartbeats 2000000 in
theorem readU_nil (p : Option Addr) (cap : Nat) (w : World) : Calls Try.prog 59 #[.slice p 0 cap] w (RetW (RdV (readU [])) w) := by
  have h : readU [] = (0, 0, 3) := rfl
  rw [h]
  go_enter Try.func59, Try.ntmps59
  go_wp2
  refine wp_loop_rounds 1 ?_
  rw [rounds_succ]
  go_wp2
  go_returns
  exact ⟨rfl, rfl⟩
theorem readU_any (xs : List Int) (v : Value) (w : World) (hl : xs.length ≤ 900000) (hx : okB xs) (h : RB.Is w v xs) : Calls Try.prog 59 #[v] w (RetW (RdV (readU xs)) w) := by
  rcases h with ⟨rfl, p, cap, rfl, _⟩ | ⟨h0, b, off, cap, rfl, hb, hr⟩
  · exact readU_nil p cap w
  · exact readU_row xs b off cap w hl hx hb hr

set_option maxRecDepth 100000 in
set_option maxHeartbeats 4000000 in
theorem readI_any (xs : List Int) (v : Value) (w : World) (hl : xs.length ≤ 900000) (hx : okB xs) (h : RB.Is w v xs) : Calls Try.prog 57 #[v] w (Ret (RdI (readU xs)) w) := by
  have HU := Lib.hid (readU_any xs v w hl hx h)
  have HS := Lib.hid (fun W => signed_any (readU xs).1 (read_lt hx) W)
  obtain ⟨p, c, rfl⟩ := h.slice
  clear h
  generalize xs.length = n at *
  generalize readU xs = r at *
  obtain ⟨y, s, e⟩ := r
  go_enter Try.func57, Try.ntmps57
  go_wp2_with fail
  refine (HU.out).mono ?_
  rintro ee w1 ⟨rfl, rfl⟩
  go_wp2_with fail
  refine (HS.out _).mono ?_
  rintro ee w2 ⟨rfl, hb⟩
  have HB := Lib.hid hb
  clear hb
  go_wp2
  go_returns
  exact ⟨rfl, HB.out⟩
end Go.Proofs.Ytdhmoiiagplbpaa
