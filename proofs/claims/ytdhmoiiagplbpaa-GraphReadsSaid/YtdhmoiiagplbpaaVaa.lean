/- bytes.Equal, bytes.HasPrefix -/
import Derived.Test.YtdhmoiiagplbpaaVa
import Derived.Laws.BytesArg
import Derived.Lib.Bytes
namespace Go.Proofs.Ytdhmoiiagplbpaa
open Go.RowKit
set_option linter.unusedVariables false
set_option linter.unusedSimpArgs false

theorem conv_zero (w : World) (p : Option Addr) (c : Nat) : (convert 29 9 (.slice p 0 c)).run Try.prog w = .ok (.string (strOfNums [])) w := by
  rw [run_convert_bytes_string w 29 9 5 _ 0 c Try.underlying29 Try.underlying5 Try.underlying9]
  cases p <;> simp [Conv.bytesToString, loadCells]
  all_goals rfl
theorem conv_any {w : World} {v : Value} {xs : List Int} (h : RB.Is w v xs) : (convert 29 9 v).run Try.prog w = .ok (.string (strOfNums xs)) w := by
  rcases h with ⟨rfl, p, c, rfl, hp⟩ | ⟨_, b, off, c, rfl, _, hr⟩
  · exact conv_zero w p c
  · exact run_convert_bytes_arg (P := Try.prog) w 29 5 Try.underlying29 Try.underlying5 b off xs.length c xs rfl (fun i hi => by
      have := atB hr i hi
      rw [this, List.getD, List.getElem?_eq_getElem hi, Option.getD_some, getElem!_pos xs i hi]) 9 Try.underlying9
theorem str_inj : ∀ {xs ys : List Int}, okB xs → okB ys → Lib.bytesOf xs = Lib.bytesOf ys → xs = ys
  | [], [], _, _, _ => rfl
  | [], y :: ys, _, _, h => by simp [Lib.bytesOf] at h
  | x :: xs, [], _, _, h => by simp [Lib.bytesOf] at h
  | x :: xs, y :: ys, hx, hy, h => by
    unfold Lib.bytesOf at h
    rw [List.map_cons, List.map_cons] at h
    injection h with h1 h2
    have e1 := hx x (by simp)
    have e2 := hy y (by simp)
    have h3 := congrArg UInt8.toNat h1
    rw [UInt8.toNat_ofNat', UInt8.toNat_ofNat'] at h3
    have h4 : x = y := by omega
    rw [h4, str_inj (fun z hz => hx z (by simp [hz])) (fun z hz => hy z (by simp [hz])) h2]
theorem str_eq {xs ys : List Int} (hx : okB xs) (hy : okB ys) : ((strOfNums xs).toList == (strOfNums ys).toList) = decide (xs = ys) := by
  rw [Lib.strOfNums_toList, Lib.strOfNums_toList, Bool.eq_iff_iff, beq_iff_eq, decide_eq_true_eq]
  exact ⟨str_inj hx hy, fun e => by rw [e]⟩
set_option maxHeartbeats 1000000 in
theorem bequal_any (xs ys : List Int) (va vb : Value) (w : World) (hx : okB xs) (hy : okB ys) (h1 : RB.Is w va xs) (h2 : RB.Is w vb ys) : Calls Try.prog 55 #[va, vb] w (RetW (.bool (decide (xs = ys))) w) := by
  have g1 := conv_any h1
  have g2 := conv_any h2
  rw [← str_eq hx hy]
  go_enter Try.func55, Try.ntmps55
  go_wp2
  go_returns
  exact ⟨rfl, rfl⟩
theorem cutB {w : World} {p : Option Addr} {n c : Nat} {xs : List Int} (h : RB.Is w (.slice p n c) xs) (m : Nat) (hm : m ≤ n) : RB.Is w (.slice p m c) (xs.take m) := by
  by_cases h0 : m = 0 → n = 0
  · exact h.cut m hm h0
  · have hm0 : m = 0 := by omega
    subst hm0
    rw [List.take_zero]
    rcases h with ⟨rfl, q, d, e, hq⟩ | ⟨_, b, off, d, e, _⟩
    · simp only [Value.slice.injEq] at e; omega
    · simp only [Value.slice.injEq] at e
      exact .inl ⟨rfl, p, c, rfl, fun q => by rw [e.1] at q; cases q⟩
set_option maxHeartbeats 1000000 in
theorem bprefix_any (xs ys : List Int) (p q : Option Addr) (c d : Nat) (w : World) (hx : okB xs) (hy : okB ys) (hl : xs.length ≤ c) (h1 : RB.Is w (.slice p xs.length c) xs) (h2 : RB.Is w (.slice q ys.length d) ys) :
    Calls Try.prog 44 #[.slice p xs.length c, .slice q ys.length d] w (RetW (.bool (decide (ys.length ≤ xs.length ∧ xs.take ys.length = ys))) w) := by
  have HE := Lib.hid (fun (h : ys.length ≤ xs.length) => bequal_any (xs.take ys.length) ys _ _ w (fun z hz => hx z (List.mem_of_mem_take hz)) hy (cutB h1 ys.length h) h2)
  generalize hr : decide (ys.length ≤ xs.length ∧ xs.take ys.length = ys) = r
  have HY : Hid (ys.length ≤ xs.length → decide (xs.take ys.length = ys) = r) := fun h => by rw [← hr]; simp [h]
  have HN : Hid (¬ ys.length ≤ xs.length → r = false) := fun h => by rw [← hr]; exact decide_eq_false (fun q => h q.1)
  clear hr h1 h2 hx hy
  generalize decide (xs.take ys.length = ys) = r2 at *
  generalize xs.length = n at *
  generalize ys.length = m at *
  by_cases h : m ≤ n
  · have h3 : (n : Int) ≥ (m : Int) := by omega
    have h4 : m ≤ c := by omega
    have HC := Lib.hid (HE.out h)
    have HR := Lib.hid (HY.out h)
    clear HE HY HN
    go_enter Try.func44, Try.ntmps44
    go_wp2_with fail
    refine (HC.out).mono ?_
    rintro e w1 ⟨rfl, rfl⟩
    go_wp2
    go_returns
    exact ⟨ret_bool HR.out, rfl⟩
  · have h3 : ¬ (n : Int) ≥ (m : Int) := by omega
    have HR := Lib.hid (HN.out h)
    clear HE HY HN h
    go_enter Try.func44, Try.ntmps44
    go_wp2
    go_returns
    exact ⟨ret_bool HR.out.symm, rfl⟩
end Go.Proofs.Ytdhmoiiagplbpaa
