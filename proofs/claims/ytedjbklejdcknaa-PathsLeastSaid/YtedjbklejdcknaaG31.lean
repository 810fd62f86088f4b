/- the closures of put; the library's IndexFunc, ContainsFunc and DeleteFunc over rows of steps -/
import Derived.Test.YtedjbklejdcknaaG13
import Derived.Test.YtedjbklejdcknaaG29
import Derived.Test.YtedjbklejdcknaaG30
namespace Go.Proofs.Ytedjbklejdcknaa
open Go.RowKit
set_option linter.unusedVariables false
set_option linter.unusedSimpArgs false
section
attribute [local go_sem ↓] loadH loadT storeH storeT
attribute [local simp] size_setRow
attribute [local go_sem] rowAt_head rowOf_alloc_at rowOf_alloc_past rowOf_drew rowOf_drewN rowOf_setRow_same rowOf_setRow_other rowOf_setCell_same rowOf_setCell_other size_setRow setRow_drew setRow_alloc_at setRow_alloc_past one_int one_bool cell_setRow_same cell_setRow_other frozen_setRow_same frozen_setRow_other
attribute [local go_sem ↓] run_imin

set_option maxRecDepth 100000 in
set_option maxHeartbeats 4000000 in
theorem put1_any (x h : HV) (B : Nat) (w : World) (hB : rowOf w B = some (hvRow h)) : Calls Try.prog 52 #[HV.val x, .pointer (some ⟨B, 0, none⟩)] w (Ret (.bool (leH x h)) w) := by
  have HL := Lib.hid (fun W => jle_any x h W)
  have N_b := hB
  have L_b := rowOf_lt N_b
  have D_b : B ≠ w.heap.size := Nat.ne_of_lt L_b
  generalize leH x h = r at HL ⊢
  clear hB
  go_enter Try.func52, Try.ntmps52
  go_wp2_with fail
  refine (HL.out _).mono ?_
  rintro e w1 ⟨rfl, hb1⟩
  have hB := bcall (B := w.heap.size) (a := w) (by go_grown) hb1 (by go_size)
  clear hb1 N_b L_b D_b
  go_wp2
  go_returns
  exact ⟨rfl, hB⟩

set_option maxRecDepth 100000 in
set_option maxHeartbeats 4000000 in
theorem put2_any (x h : HV) (B : Nat) (w : World) (hB : rowOf w B = some (hvRow h)) : Calls Try.prog 54 #[HV.val x, .pointer (some ⟨B, 0, none⟩)] w (Ret (.bool (leH h x)) w) := by
  have HL := Lib.hid (fun W => jle_any h x W)
  have N_b := hB
  have L_b := rowOf_lt N_b
  have D_b : B ≠ w.heap.size := Nat.ne_of_lt L_b
  generalize leH h x = r at HL ⊢
  clear hB
  go_enter Try.func54, Try.ntmps54
  go_wp2_with fail
  refine (HL.out _).mono ?_
  rintro e w1 ⟨rfl, hb1⟩
  have hB := bcall (B := w.heap.size) (a := w) (by go_grown) hb1 (by go_size)
  clear hb1 N_b L_b D_b
  go_wp2
  go_returns
  exact ⟨rfl, hB⟩
end
/-- the first of them that is told, or -1 -/
def IdxP (xs : List HV) (f : HV → Bool) (w : World) (e : Ending) (w' : World) : Prop :=
  ∃ r : Int, e = .returned (.int .i64 r) ∧ ((r = -1 ∧ ∀ x ∈ xs, f x = false) ∨ (∃ k : Nat, k < xs.length ∧ r = k ∧ f xs[k]! = true ∧ ∀ j, j < k → f xs[j]! = false)) ∧ Below w.heap.size w w'
section
attribute [local go_sem ↓] loadHs
attribute [local go_sem] HV.enc

set_option maxRecDepth 100000 in
set_option maxHeartbeats 8000000 in
theorem index_row_p1 (xs : List HV) (f : HV → Bool) (c1 : Value) (b off cap : Nat) (w : World) (hl : xs.length ≤ 1500000000000) (hb : b < w.heap.size) (hr : RHp.Row w b off xs)
    (hcl : ∀ W x, Below w.heap.size w W → Calls Try.prog 52 #[HV.val x, c1] W (Ret (.bool (f x)) W)) :
    Calls Try.prog 55 #[.slice (some ⟨b, off, none⟩) xs.length cap, .func (.func 52) #[] #[c1]] w (IdxP xs f w) := by
  have HE : Hid (∀ W, Below w.heap.size w W → ∀ j, j < xs.length → elemL W ⟨b, off + j * 11, none⟩ 0 11 = some (HV.enc xs[j]!)) := fun W hW j hj => hop_elem hr hb hW j hj
  have HC := Lib.hid hcl
  clear hr hcl
  generalize hn : xs.length = n at *
  have HN := Lib.hid hn
  clear hn
  go_enter Try.func55, Try.ntmps55
  go_wp2
  go_loopg [8] n (fun gg i wr => ∃ k : Nat, k ≤ n ∧ n - k ≤ gg ∧ i = .int .i64 (k : Int) ∧ Hid (Below w.heap.size w wr) ∧ Hid (∀ j, j < k → f xs[j]! = false))
  case atStart => exact ⟨0, Nat.zero_le _, by omega, rfl, Below.refl _ _, fun j hj => by omega⟩
  case round =>
    obtain ⟨k, hkn, hg, rfl, HB, HM⟩ := hrel
    by_cases hlt : k < n
    · have hlz : (k : Int) < (n : Int) := by omega
      have E1 := HE.out wr HB.out k hlt
      have HK := Lib.hid (HC.out wr xs[k]! HB.out)
      generalize hy : xs[k]! = y at *
      have HY := Lib.hid hy
      clear hy HE HC
      cases hq : f y
      · rw [hq] at HK
        have HQ := Lib.hid hq
        clear hq
        go_wp2_with fail
        refine (HK.out).mono ?_
        rintro e w1 ⟨rfl, hb1⟩
        have HB1 := Lib.hid (HB.out.trans (hb1.mono HB.out.size))
        clear hb1 E1
        go_wp2
        go_roundg (n - (k + 1))
        case measure => omega
        case rel =>
          refine ⟨k + 1, by omega, by omega, by go_num, HB1.out, fun j hj => ?_⟩
          by_cases e : j < k
          · exact HM.out j e
          · obtain rfl : j = k := by omega
            rw [HY.out]; exact HQ.out
      · rw [hq] at HK
        have HQ := Lib.hid hq
        clear hq
        go_wp2_with fail
        refine (HK.out).mono ?_
        rintro e w1 ⟨rfl, hb1⟩
        have HB1 := Lib.hid (HB.out.trans (hb1.mono HB.out.size))
        clear hb1 E1
        go_wp2
        go_returns
        exact ⟨_, rfl, .inr ⟨k, by rw [HN.out]; exact hlt, rfl, by rw [HY.out]; exact HQ.out, HM.out⟩, HB1.out⟩
    · have hlz : ¬ (k : Int) < (n : Int) := by omega
      obtain rfl : k = n := by omega
      clear HE HC
      go_wp2
      go_returns
      exact ⟨_, rfl, .inl ⟨rfl, fun x hx => by
        obtain ⟨j, hj, e⟩ := List.getElem_of_mem hx
        have := HM.out j (by rw [← HN.out]; exact hj)
        rw [getElem!_pos xs j hj, e] at this
        exact this⟩, HB.out⟩
set_option maxHeartbeats 2000000 in
theorem index_nil_p1 (f : HV → Bool) (c1 : Value) (p : Option Addr) (cap : Nat) (w : World) :
    Calls Try.prog 55 #[.slice p 0 cap, .func (.func 52) #[] #[c1]] w (IdxP [] f w) := by
  go_enter Try.func55, Try.ntmps55
  go_wp2
  refine wp_loop_rounds 1 ?_
  rw [rounds_succ]
  go_wp2
  go_returns
  exact ⟨_, rfl, .inl ⟨rfl, fun x hx => by simp at hx⟩, Below.refl _ _⟩
theorem index_any_p1 (xs : List HV) (f : HV → Bool) (c1 : Value) (v : Value) (w : World) (hl : xs.length ≤ 1500000000000) (hv : RHp.Is w v xs)
    (hcl : ∀ W x, Below w.heap.size w W → Calls Try.prog 52 #[HV.val x, c1] W (Ret (.bool (f x)) W)) :
    Calls Try.prog 55 #[v, .func (.func 52) #[] #[c1]] w (IdxP xs f w) := by
  rcases hv with ⟨rfl, p, cap, rfl, _⟩ | ⟨_, b, off, cap, rfl, hb, hr⟩
  · exact index_nil_p1 f c1 p cap w
  · exact index_row_p1 xs f c1 b off cap w hl hb hr hcl
set_option maxHeartbeats 2000000 in
theorem contains_any_p1 (xs : List HV) (f : HV → Bool) (c1 : Value) (v : Value) (w : World) (hl : xs.length ≤ 1500000000000) (hv : RHp.Is w v xs)
    (hcl : ∀ W x, Below w.heap.size w W → Calls Try.prog 52 #[HV.val x, c1] W (Ret (.bool (f x)) W)) :
    Calls Try.prog 35 #[v, .func (.func 52) #[] #[c1]] w (Ret (.bool (xs.any f)) w) := by
  have HI := Lib.hid (index_any_p1 xs f c1 v w hl hv hcl)
  obtain ⟨p, c, rfl⟩ := hv.slice
  clear hv hcl
  have hres : ∀ r : Int, ((r = -1 ∧ ∀ x ∈ xs, f x = false) ∨ (∃ k : Nat, k < xs.length ∧ r = k ∧ f xs[k]! = true ∧ ∀ j, j < k → f xs[j]! = false)) → decide (0 ≤ r) = xs.any f := fun r h => by
    rcases h with ⟨rfl, h⟩ | ⟨k, hk, rfl, h, _⟩
    · have : xs.any f = false := by
        cases q : xs.any f
        · rfl
        · obtain ⟨x, hx, hq⟩ := List.any_eq_true.1 q
          rw [h x hx] at hq
          cases hq
      rw [this]
      rfl
    · rw [decide_eq_true (by omega)]
      exact (List.any_eq_true.2 ⟨xs[k]!, by rw [getElem!_pos xs k hk]; exact List.getElem_mem _, h⟩).symm
  have HRes := Lib.hid hres
  clear hres
  generalize hn : xs.length = n at HI ⊢
  clear hn
  go_enter Try.func35, Try.ntmps35
  go_wp2_with fail
  refine (HI.out).mono ?_
  rintro e w1 ⟨r, rfl, hr, hb1⟩
  have HR := Lib.hid (HRes.out r (by assumption))
  clear hr HI HRes
  go_wp2
  go_returns
  exact ⟨ret_bool HR.out, hb1⟩

set_option maxRecDepth 100000 in
set_option maxHeartbeats 8000000 in
theorem index_row_p2 (xs : List HV) (f : HV → Bool) (c1 : Value) (b off cap : Nat) (w : World) (hl : xs.length ≤ 1500000000000) (hb : b < w.heap.size) (hr : RHp.Row w b off xs)
    (hcl : ∀ W x, Below w.heap.size w W → Calls Try.prog 54 #[HV.val x, c1] W (Ret (.bool (f x)) W)) :
    Calls Try.prog 55 #[.slice (some ⟨b, off, none⟩) xs.length cap, .func (.func 54) #[] #[c1]] w (IdxP xs f w) := by
  have HE : Hid (∀ W, Below w.heap.size w W → ∀ j, j < xs.length → elemL W ⟨b, off + j * 11, none⟩ 0 11 = some (HV.enc xs[j]!)) := fun W hW j hj => hop_elem hr hb hW j hj
  have HC := Lib.hid hcl
  clear hr hcl
  generalize hn : xs.length = n at *
  have HN := Lib.hid hn
  clear hn
  go_enter Try.func55, Try.ntmps55
  go_wp2
  go_loopg [8] n (fun gg i wr => ∃ k : Nat, k ≤ n ∧ n - k ≤ gg ∧ i = .int .i64 (k : Int) ∧ Hid (Below w.heap.size w wr) ∧ Hid (∀ j, j < k → f xs[j]! = false))
  case atStart => exact ⟨0, Nat.zero_le _, by omega, rfl, Below.refl _ _, fun j hj => by omega⟩
  case round =>
    obtain ⟨k, hkn, hg, rfl, HB, HM⟩ := hrel
    by_cases hlt : k < n
    · have hlz : (k : Int) < (n : Int) := by omega
      have E1 := HE.out wr HB.out k hlt
      have HK := Lib.hid (HC.out wr xs[k]! HB.out)
      generalize hy : xs[k]! = y at *
      have HY := Lib.hid hy
      clear hy HE HC
      cases hq : f y
      · rw [hq] at HK
        have HQ := Lib.hid hq
        clear hq
        go_wp2_with fail
        refine (HK.out).mono ?_
        rintro e w1 ⟨rfl, hb1⟩
        have HB1 := Lib.hid (HB.out.trans (hb1.mono HB.out.size))
        clear hb1 E1
        go_wp2
        go_roundg (n - (k + 1))
        case measure => omega
        case rel =>
          refine ⟨k + 1, by omega, by omega, by go_num, HB1.out, fun j hj => ?_⟩
          by_cases e : j < k
          · exact HM.out j e
          · obtain rfl : j = k := by omega
            rw [HY.out]; exact HQ.out
      · rw [hq] at HK
        have HQ := Lib.hid hq
        clear hq
        go_wp2_with fail
        refine (HK.out).mono ?_
        rintro e w1 ⟨rfl, hb1⟩
        have HB1 := Lib.hid (HB.out.trans (hb1.mono HB.out.size))
        clear hb1 E1
        go_wp2
        go_returns
        exact ⟨_, rfl, .inr ⟨k, by rw [HN.out]; exact hlt, rfl, by rw [HY.out]; exact HQ.out, HM.out⟩, HB1.out⟩
    · have hlz : ¬ (k : Int) < (n : Int) := by omega
      obtain rfl : k = n := by omega
      clear HE HC
      go_wp2
      go_returns
      exact ⟨_, rfl, .inl ⟨rfl, fun x hx => by
        obtain ⟨j, hj, e⟩ := List.getElem_of_mem hx
        have := HM.out j (by rw [← HN.out]; exact hj)
        rw [getElem!_pos xs j hj, e] at this
        exact this⟩, HB.out⟩
set_option maxHeartbeats 2000000 in
theorem index_nil_p2 (f : HV → Bool) (c1 : Value) (p : Option Addr) (cap : Nat) (w : World) :
    Calls Try.prog 55 #[.slice p 0 cap, .func (.func 54) #[] #[c1]] w (IdxP [] f w) := by
  go_enter Try.func55, Try.ntmps55
  go_wp2
  refine wp_loop_rounds 1 ?_
  rw [rounds_succ]
  go_wp2
  go_returns
  exact ⟨_, rfl, .inl ⟨rfl, fun x hx => by simp at hx⟩, Below.refl _ _⟩
theorem index_any_p2 (xs : List HV) (f : HV → Bool) (c1 : Value) (v : Value) (w : World) (hl : xs.length ≤ 1500000000000) (hv : RHp.Is w v xs)
    (hcl : ∀ W x, Below w.heap.size w W → Calls Try.prog 54 #[HV.val x, c1] W (Ret (.bool (f x)) W)) :
    Calls Try.prog 55 #[v, .func (.func 54) #[] #[c1]] w (IdxP xs f w) := by
  rcases hv with ⟨rfl, p, cap, rfl, _⟩ | ⟨_, b, off, cap, rfl, hb, hr⟩
  · exact index_nil_p2 f c1 p cap w
  · exact index_row_p2 xs f c1 b off cap w hl hb hr hcl
set_option maxHeartbeats 2000000 in
theorem contains_any_p2 (xs : List HV) (f : HV → Bool) (c1 : Value) (v : Value) (w : World) (hl : xs.length ≤ 1500000000000) (hv : RHp.Is w v xs)
    (hcl : ∀ W x, Below w.heap.size w W → Calls Try.prog 54 #[HV.val x, c1] W (Ret (.bool (f x)) W)) :
    Calls Try.prog 35 #[v, .func (.func 54) #[] #[c1]] w (Ret (.bool (xs.any f)) w) := by
  have HI := Lib.hid (index_any_p2 xs f c1 v w hl hv hcl)
  obtain ⟨p, c, rfl⟩ := hv.slice
  clear hv hcl
  have hres : ∀ r : Int, ((r = -1 ∧ ∀ x ∈ xs, f x = false) ∨ (∃ k : Nat, k < xs.length ∧ r = k ∧ f xs[k]! = true ∧ ∀ j, j < k → f xs[j]! = false)) → decide (0 ≤ r) = xs.any f := fun r h => by
    rcases h with ⟨rfl, h⟩ | ⟨k, hk, rfl, h, _⟩
    · have : xs.any f = false := by
        cases q : xs.any f
        · rfl
        · obtain ⟨x, hx, hq⟩ := List.any_eq_true.1 q
          rw [h x hx] at hq
          cases hq
      rw [this]
      rfl
    · rw [decide_eq_true (by omega)]
      exact (List.any_eq_true.2 ⟨xs[k]!, by rw [getElem!_pos xs k hk]; exact List.getElem_mem _, h⟩).symm
  have HRes := Lib.hid hres
  clear hres
  generalize hn : xs.length = n at HI ⊢
  clear hn
  go_enter Try.func35, Try.ntmps35
  go_wp2_with fail
  refine (HI.out).mono ?_
  rintro e w1 ⟨r, rfl, hr, hb1⟩
  have HR := Lib.hid (HRes.out r (by assumption))
  clear hr HI HRes
  go_wp2
  go_returns
  exact ⟨ret_bool HR.out, hb1⟩
end
end Go.Proofs.Ytedjbklejdcknaa
