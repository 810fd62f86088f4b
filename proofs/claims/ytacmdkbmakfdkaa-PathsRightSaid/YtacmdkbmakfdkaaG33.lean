/- the closures of put; the library's IndexFunc, ContainsFunc and DeleteFunc over rows of steps -/
import Derived.Test.YtacmdkbmakfdkaaG10
import Derived.Test.YtacmdkbmakfdkaaG32
import Derived.Test.YtacmdkbmakfdkaaG31
namespace Go.Proofs.Ytacmdkbmakfdkaa
open Go.RowKit
set_option linter.unusedVariables false
set_option linter.unusedSimpArgs false
section
attribute [local go_sem ↓] loadH loadT storeH storeT
attribute [local simp] size_setRow
attribute [local go_sem] rowAt_head rowOf_alloc_at rowOf_alloc_past rowOf_drew rowOf_drewN rowOf_setRow_same rowOf_setRow_other rowOf_setCell_same rowOf_setCell_other size_setRow setRow_drew setRow_alloc_at setRow_alloc_past one_int one_bool cell_setRow_same cell_setRow_other frozen_setRow_same frozen_setRow_other
attribute [local go_sem ↓] run_imin

set_option maxRecDepth 100000 in
set_option maxHeartbeats 4000000 in
theorem put1_any (x h : HV) (B : Nat) (w : World) (hB : rowOf w B = some (hvRow h)) : Calls Try.prog 59 #[HV.val x, .pointer (some ⟨B, 0, none⟩)] w (Ret (.bool (leH x h)) w) := by
  have HL := Lib.hid (fun W => jle_any x h W)
  have N_b := hB
  have L_b := rowOf_lt N_b
  have D_b : B ≠ w.heap.size := Nat.ne_of_lt L_b
  generalize leH x h = r at HL ⊢
  clear hB
  go_enter Try.func59, Try.ntmps59
  go_wp2_with fail
  refine (HL.out _).mono ?_
  rintro e w1 ⟨rfl, hb1⟩
  have hB := bcall (B := w.heap.size) (a := w) (by go_grown) hb1 (by go_size)
  clear hb1 N_b L_b D_b
  go_wp2
  go_returns
  exact ⟨rfl, hB⟩

set_option maxRecDepth 100000 in
set_option maxHeartbeats 4000000 in
theorem put2_any (x h : HV) (B : Nat) (w : World) (hB : rowOf w B = some (hvRow h)) : Calls Try.prog 62 #[HV.val x, .pointer (some ⟨B, 0, none⟩)] w (Ret (.bool (leH h x)) w) := by
  have HL := Lib.hid (fun W => jle_any h x W)
  have N_b := hB
  have L_b := rowOf_lt N_b
  have D_b : B ≠ w.heap.size := Nat.ne_of_lt L_b
  generalize leH h x = r at HL ⊢
  clear hB
  go_enter Try.func62, Try.ntmps62
  go_wp2_with fail
  refine (HL.out _).mono ?_
  rintro e w1 ⟨rfl, hb1⟩
  have hB := bcall (B := w.heap.size) (a := w) (by go_grown) hb1 (by go_size)
  clear hb1 N_b L_b D_b
  go_wp2
  go_returns
  exact ⟨rfl, hB⟩
end
/-- the first of them that is told, or -1 -/
def IdxP (xs : List HV) (f : HV → Bool) (w : World) (e : Ending) (w' : World) : Prop :=
  ∃ r : Int, e = .returned (.int .i64 r) ∧ ((r = -1 ∧ ∀ x ∈ xs, f x = false) ∨ (∃ k : Nat, k < xs.length ∧ r = k ∧ f xs[k]! = true ∧ ∀ j, j < k → f xs[j]! = false)) ∧ Below w.heap.size w w'
section
attribute [local go_sem ↓] loadHs
attribute [local go_sem] HV.enc

set_option maxRecDepth 100000 in
set_option maxHeartbeats 8000000 in
theorem index_row_p1 (xs : List HV) (f : HV → Bool) (c1 : Value) (b off cap : Nat) (w : World) (hl : xs.length ≤ 1500000000000) (hb : b < w.heap.size) (hr : RHp.Row w b off xs)
    (hcl : ∀ W x, Below w.heap.size w W → Calls Try.prog 59 #[HV.val x, c1] W (Ret (.bool (f x)) W)) :
    Calls Try.prog 48 #[.slice (some ⟨b, off, none⟩) xs.length cap, .func (.func 59) #[] #[c1]] w (IdxP xs f w) := by
  have HE : Hid (∀ W, Below w.heap.size w W → ∀ j, j < xs.length → elemL W ⟨b, off + j * 11, none⟩ 0 11 = some (HV.enc xs[j]!)) := fun W hW j hj => hop_elem hr hb hW j hj
  have HC := Lib.hid hcl
  clear hr hcl
  generalize hn : xs.length = n at *
  have HN := Lib.hid hn
  clear hn
  go_enter Try.func48, Try.ntmps48
  go_wp2
  go_loopg [8] n (fun gg i wr => ∃ k : Nat, k ≤ n ∧ n - k ≤ gg ∧ i = .int .i64 (k : Int) ∧ Hid (Below w.heap.size w wr) ∧ Hid (∀ j, j < k → f xs[j]! = false))
  case atStart => exact ⟨0, Nat.zero_le _, by omega, rfl, Below.refl _ _, fun j hj => by omega⟩
  case round =>
    obtain ⟨k, hkn, hg, rfl, HB, HM⟩ := hrel
    by_cases hlt : k < n
    · have hlz : (k : Int) < (n : Int) := by omega
      have E1 := HE.out wr HB.out k hlt
      have HK := Lib.hid (HC.out wr xs[k]! HB.out)
      generalize hy : xs[k]! = y at *
      have HY := Lib.hid hy
      clear hy HE HC
      cases hq : f y
      · rw [hq] at HK
        have HQ := Lib.hid hq
        clear hq
        go_wp2_with fail
        refine (HK.out).mono ?_
        rintro e w1 ⟨rfl, hb1⟩
        have HB1 := Lib.hid (HB.out.trans (hb1.mono HB.out.size))
        clear hb1 E1
        go_wp2
        go_roundg (n - (k + 1))
        case measure => omega
        case rel =>
          refine ⟨k + 1, by omega, by omega, by go_num, HB1.out, fun j hj => ?_⟩
          by_cases e : j < k
          · exact HM.out j e
          · obtain rfl : j = k := by omega
            rw [HY.out]; exact HQ.out
      · rw [hq] at HK
        have HQ := Lib.hid hq
        clear hq
        go_wp2_with fail
        refine (HK.out).mono ?_
        rintro e w1 ⟨rfl, hb1⟩
        have HB1 := Lib.hid (HB.out.trans (hb1.mono HB.out.size))
        clear hb1 E1
        go_wp2
        go_returns
        exact ⟨_, rfl, .inr ⟨k, by rw [HN.out]; exact hlt, rfl, by rw [HY.out]; exact HQ.out, HM.out⟩, HB1.out⟩
    · have hlz : ¬ (k : Int) < (n : Int) := by omega
      obtain rfl : k = n := by omega
      clear HE HC
      go_wp2
      go_returns
      exact ⟨_, rfl, .inl ⟨rfl, fun x hx => by
        obtain ⟨j, hj, e⟩ := List.getElem_of_mem hx
        have := HM.out j (by rw [← HN.out]; exact hj)
        rw [getElem!_pos xs j hj, e] at this
        exact this⟩, HB.out⟩
set_option maxHeartbeats 2000000 in
theorem index_nil_p1 (f : HV → Bool) (c1 : Value) (p : Option Addr) (cap : Nat) (w : World) :
    Calls Try.prog 48 #[.slice p 0 cap, .func (.func 59) #[] #[c1]] w (IdxP [] f w) := by
  go_enter Try.func48, Try.ntmps48
  go_wp2
  refine wp_loop_rounds 1 ?_
  rw [rounds_succ]
  go_wp2
  go_returns
  exact ⟨_, rfl, .inl ⟨rfl, fun x hx => by simp at hx⟩, Below.refl _ _⟩
theorem index_any_p1 (xs : List HV) (f : HV → Bool) (c1 : Value) (v : Value) (w : World) (hl : xs.length ≤ 1500000000000) (hv : RHp.Is w v xs)
    (hcl : ∀ W x, Below w.heap.size w W → Calls Try.prog 59 #[HV.val x, c1] W (Ret (.bool (f x)) W)) :
    Calls Try.prog 48 #[v, .func (.func 59) #[] #[c1]] w (IdxP xs f w) := by
  rcases hv with ⟨rfl, p, cap, rfl, _⟩ | ⟨_, b, off, cap, rfl, hb, hr⟩
  · exact index_nil_p1 f c1 p cap w
  · exact index_row_p1 xs f c1 b off cap w hl hb hr hcl
set_option maxHeartbeats 2000000 in
theorem contains_any_p1 (xs : List HV) (f : HV → Bool) (c1 : Value) (v : Value) (w : World) (hl : xs.length ≤ 1500000000000) (hv : RHp.Is w v xs)
    (hcl : ∀ W x, Below w.heap.size w W → Calls Try.prog 59 #[HV.val x, c1] W (Ret (.bool (f x)) W)) :
    Calls Try.prog 25 #[v, .func (.func 59) #[] #[c1]] w (Ret (.bool (xs.any f)) w) := by
  have HI := Lib.hid (index_any_p1 xs f c1 v w hl hv hcl)
  obtain ⟨p, c, rfl⟩ := hv.slice
  clear hv hcl
  have hres : ∀ r : Int, ((r = -1 ∧ ∀ x ∈ xs, f x = false) ∨ (∃ k : Nat, k < xs.length ∧ r = k ∧ f xs[k]! = true ∧ ∀ j, j < k → f xs[j]! = false)) → decide (0 ≤ r) = xs.any f := fun r h => by
    rcases h with ⟨rfl, h⟩ | ⟨k, hk, rfl, h, _⟩
    · have : xs.any f = false := by
        cases q : xs.any f
        · rfl
        · obtain ⟨x, hx, hq⟩ := List.any_eq_true.1 q
          rw [h x hx] at hq
          cases hq
      rw [this]
      rfl
    · rw [decide_eq_true (by omega)]
      exact (List.any_eq_true.2 ⟨xs[k]!, by rw [getElem!_pos xs k hk]; exact List.getElem_mem _, h⟩).symm
  have HRes := Lib.hid hres
  clear hres
  generalize hn : xs.length = n at HI ⊢
  clear hn
  go_enter Try.func25, Try.ntmps25
  go_wp2_with fail
  refine (HI.out).mono ?_
  rintro e w1 ⟨r, rfl, hr, hb1⟩
  have HR := Lib.hid (HRes.out r (by assumption))
  clear hr HI HRes
  go_wp2
  go_returns
  exact ⟨ret_bool HR.out, hb1⟩

set_option maxRecDepth 100000 in
set_option maxHeartbeats 8000000 in
theorem index_row_p2 (xs : List HV) (f : HV → Bool) (c1 : Value) (b off cap : Nat) (w : World) (hl : xs.length ≤ 1500000000000) (hb : b < w.heap.size) (hr : RHp.Row w b off xs)
    (hcl : ∀ W x, Below w.heap.size w W → Calls Try.prog 62 #[HV.val x, c1] W (Ret (.bool (f x)) W)) :
    Calls Try.prog 48 #[.slice (some ⟨b, off, none⟩) xs.length cap, .func (.func 62) #[] #[c1]] w (IdxP xs f w) := by
  have HE : Hid (∀ W, Below w.heap.size w W → ∀ j, j < xs.length → elemL W ⟨b, off + j * 11, none⟩ 0 11 = some (HV.enc xs[j]!)) := fun W hW j hj => hop_elem hr hb hW j hj
  have HC := Lib.hid hcl
  clear hr hcl
  generalize hn : xs.length = n at *
  have HN := Lib.hid hn
  clear hn
  go_enter Try.func48, Try.ntmps48
  go_wp2
  go_loopg [8] n (fun gg i wr => ∃ k : Nat, k ≤ n ∧ n - k ≤ gg ∧ i = .int .i64 (k : Int) ∧ Hid (Below w.heap.size w wr) ∧ Hid (∀ j, j < k → f xs[j]! = false))
  case atStart => exact ⟨0, Nat.zero_le _, by omega, rfl, Below.refl _ _, fun j hj => by omega⟩
  case round =>
    obtain ⟨k, hkn, hg, rfl, HB, HM⟩ := hrel
    by_cases hlt : k < n
    · have hlz : (k : Int) < (n : Int) := by omega
      have E1 := HE.out wr HB.out k hlt
      have HK := Lib.hid (HC.out wr xs[k]! HB.out)
      generalize hy : xs[k]! = y at *
      have HY := Lib.hid hy
      clear hy HE HC
      cases hq : f y
      · rw [hq] at HK
        have HQ := Lib.hid hq
        clear hq
        go_wp2_with fail
        refine (HK.out).mono ?_
        rintro e w1 ⟨rfl, hb1⟩
        have HB1 := Lib.hid (HB.out.trans (hb1.mono HB.out.size))
        clear hb1 E1
        go_wp2
        go_roundg (n - (k + 1))
        case measure => omega
        case rel =>
          refine ⟨k + 1, by omega, by omega, by go_num, HB1.out, fun j hj => ?_⟩
          by_cases e : j < k
          · exact HM.out j e
          · obtain rfl : j = k := by omega
            rw [HY.out]; exact HQ.out
      · rw [hq] at HK
        have HQ := Lib.hid hq
        clear hq
        go_wp2_with fail
        refine (HK.out).mono ?_
        rintro e w1 ⟨rfl, hb1⟩
        have HB1 := Lib.hid (HB.out.trans (hb1.mono HB.out.size))
        clear hb1 E1
        go_wp2
        go_returns
        exact ⟨_, rfl, .inr ⟨k, by rw [HN.out]; exact hlt, rfl, by rw [HY.out]; exact HQ.out, HM.out⟩, HB1.out⟩
    · have hlz : ¬ (k : Int) < (n : Int) := by omega
      obtain rfl : k = n := by omega
      clear HE HC
      go_wp2
      go_returns
      exact ⟨_, rfl, .inl ⟨rfl, fun x hx => by
        obtain ⟨j, hj, e⟩ := List.getElem_of_mem hx
        have := HM.out j (by rw [← HN.out]; exact hj)
        rw [getElem!_pos xs j hj, e] at this
        exact this⟩, HB.out⟩
set_option maxHeartbeats 2000000 in
theorem index_nil_p2 (f : HV → Bool) (c1 : Value) (p : Option Addr) (cap : Nat) (w : World) :
    Calls Try.prog 48 #[.slice p 0 cap, .func (.func 62) #[] #[c1]] w (IdxP [] f w) := by
  go_enter Try.func48, Try.ntmps48
  go_wp2
  refine wp_loop_rounds 1 ?_
  rw [rounds_succ]
  go_wp2
  go_returns
  exact ⟨_, rfl, .inl ⟨rfl, fun x hx => by simp at hx⟩, Below.refl _ _⟩
theorem index_any_p2 (xs : List HV) (f : HV → Bool) (c1 : Value) (v : Value) (w : World) (hl : xs.length ≤ 1500000000000) (hv : RHp.Is w v xs)
    (hcl : ∀ W x, Below w.heap.size w W → Calls Try.prog 62 #[HV.val x, c1] W (Ret (.bool (f x)) W)) :
    Calls Try.prog 48 #[v, .func (.func 62) #[] #[c1]] w (IdxP xs f w) := by
  rcases hv with ⟨rfl, p, cap, rfl, _⟩ | ⟨_, b, off, cap, rfl, hb, hr⟩
  · exact index_nil_p2 f c1 p cap w
  · exact index_row_p2 xs f c1 b off cap w hl hb hr hcl
set_option maxHeartbeats 2000000 in
theorem contains_any_p2 (xs : List HV) (f : HV → Bool) (c1 : Value) (v : Value) (w : World) (hl : xs.length ≤ 1500000000000) (hv : RHp.Is w v xs)
    (hcl : ∀ W x, Below w.heap.size w W → Calls Try.prog 62 #[HV.val x, c1] W (Ret (.bool (f x)) W)) :
    Calls Try.prog 25 #[v, .func (.func 62) #[] #[c1]] w (Ret (.bool (xs.any f)) w) := by
  have HI := Lib.hid (index_any_p2 xs f c1 v w hl hv hcl)
  obtain ⟨p, c, rfl⟩ := hv.slice
  clear hv hcl
  have hres : ∀ r : Int, ((r = -1 ∧ ∀ x ∈ xs, f x = false) ∨ (∃ k : Nat, k < xs.length ∧ r = k ∧ f xs[k]! = true ∧ ∀ j, j < k → f xs[j]! = false)) → decide (0 ≤ r) = xs.any f := fun r h => by
    rcases h with ⟨rfl, h⟩ | ⟨k, hk, rfl, h, _⟩
    · have : xs.any f = false := by
        cases q : xs.any f
        · rfl
        · obtain ⟨x, hx, hq⟩ := List.any_eq_true.1 q
          rw [h x hx] at hq
          cases hq
      rw [this]
      rfl
    · rw [decide_eq_true (by omega)]
      exact (List.any_eq_true.2 ⟨xs[k]!, by rw [getElem!_pos xs k hk]; exact List.getElem_mem _, h⟩).symm
  have HRes := Lib.hid hres
  clear hres
  generalize hn : xs.length = n at HI ⊢
  clear hn
  go_enter Try.func25, Try.ntmps25
  go_wp2_with fail
  refine (HI.out).mono ?_
  rintro e w1 ⟨r, rfl, hr, hb1⟩
  have HR := Lib.hid (HRes.out r (by assumption))
  clear hr HI HRes
  go_wp2
  go_returns
  exact ⟨ret_bool HR.out, hb1⟩
end
end Go.Proofs.Ytacmdkbmakfdkaa
/- the library's DeleteFunc over a row of steps of the call's own, with put's closure -/
namespace Go.Proofs.Ytacmdkbmakfdkaa
open Go.RowKit
set_option linter.unusedVariables false
set_option linter.unusedSimpArgs false
attribute [local go_sem ↓] loadHs storeH
attribute [local simp] size_setRow
attribute [local go_sem] rowAt_head rowOf_alloc_at rowOf_alloc_past rowOf_drew rowOf_drewN rowOf_setRow_same rowOf_setRow_other rowOf_setCell_same rowOf_setCell_other size_setRow setRow_drew setRow_alloc_at setRow_alloc_past one_int one_bool cell_setRow_same cell_setRow_other frozen_setRow_same frozen_setRow_other
attribute [local go_sem ↓] run_imin
attribute [local go_sem] HV.enc

theorem grown_trans {w w' w'' : World} {r : Option Nat} (h : w.grownBy w' r) (k : w'.grownBy w'' r) : w.grownBy w'' r :=
  ⟨k.os.trans h.os, k.tape.trans h.tape, k.output.trans h.output, Nat.le_trans h.size k.size, fun i hi hne => (k.block i (Nat.lt_of_lt_of_le hi h.size) hne).trans (h.block i hi hne)⟩
theorem grown_below {w w' : World} (h : Below w.heap.size w w') (r : Option Nat) : w.grownBy w' r := ⟨h.os, h.tape, h.output, h.size, fun i hi _ => h.block i hi⟩
theorem grown_row {w w' : World} {r : Option Nat} {b : Nat} {c : Array Value} (h : w.grownBy w' r) (hb : rowOf w b = some c) (hne : some b ≠ r) : rowOf w' b = some c :=
  (rowOf_block (h.block b (rowOf_lt hb) hne)).trans hb
theorem own_elem {B : Nat} {w W : World} {g n cap : Nat} {ys : List HV} (h : RHp.Own B w (.slice (some ⟨g, 0, none⟩) n cap) ys) (hW : Below w.heap.size w W) (j : Nat) (hj : j < ys.length) : elemL W ⟨g, j * 11, none⟩ 0 11 = some (HV.enc ys[j]!) := by
  rcases h.is with ⟨rfl, _⟩ | ⟨_, b, off, cap', e, hb, hr⟩
  · simp at hj
  · simp only [Value.slice.injEq, Option.some.injEq, Addr.mk.injEq, and_true] at e
    obtain ⟨⟨rfl, rfl⟩, _⟩ := e
    have := hop_elem hr hb hW j hj
    rwa [Nat.zero_add] at this
theorem zhop_one : ∀ u ∈ RHp.zero.cells.toList, u.oneCell' = true := by
  intro u hu
  have : RHp.zero.cells.toList = List.replicate 11 (.int .i64 0) := rfl
  rw [this] at hu
  rw [List.eq_of_mem_replicate hu]
  rfl
theorem row_elem {w : World} {b : Nat} {y : HV} (h : rowOf w b = some (hvRow y)) : elemL w ⟨b, 0, none⟩ 0 11 = some (HV.enc y) :=
  elemL_of (l := HV.enc y) (i := 0) (fun j v hj => by
    rw [Addr.add_lit, Nat.zero_add, Nat.zero_add, rowOf_cell h]
    simpa [HV.enc] using hj)
/-- the state of the loop: so many are kept, so many looked at -/
structure DelI (f : HV → Bool) (xs : List HV) (B : Nat) (w W : World) (g cap Bh : Nat) (h : HV) (i j : Nat) (ys : List HV) : Prop where
  ij : i < j
  jn : j ≤ xs.length
  len : ys.length = xs.length
  own : RHp.Own B W (.slice (some ⟨g, 0, none⟩) xs.length cap) ys
  kept : ys.take i = (xs.take j).filter fun x => !f x
  rest : ys.drop j = xs.drop j
  gr : w.grownBy W (some g)
  box : rowOf W Bh = some (hvRow h)
theorem filter_take {f : HV → Bool} {xs : List HV} {j : Nat} (hj : j < xs.length) : ((xs.take (j + 1)).filter fun x => !f x) = ((xs.take j).filter fun x => !f x) ++ (if f xs[j]! = true then [] else [xs[j]!]) := by
  rw [List.take_succ_eq_append_getElem hj, List.filter_append, getElem!_pos xs j hj]
  congr 1
  cases q : f xs[j] <;> simp [q]
theorem drop_get {xs ys : List HV} {j : Nat} (h : ys.drop j = xs.drop j) (hl : ys.length = xs.length) (hj : j < xs.length) : ys[j]! = xs[j]! ∧ ys.drop (j + 1) = xs.drop (j + 1) := by
  have h1 : (ys.drop j)[0]? = (xs.drop j)[0]? := by rw [h]
  simp only [List.getElem?_drop, Nat.add_zero] at h1
  rw [List.getElem?_eq_getElem (by omega), List.getElem?_eq_getElem hj] at h1
  refine ⟨?_, ?_⟩
  · rw [getElem!_pos ys j (by omega), getElem!_pos xs j hj]
    exact Option.some.inj h1
  · have : (ys.drop j).drop 1 = (xs.drop j).drop 1 := by rw [h]
    simpa [List.drop_drop] using this
theorem DelI.start {f : HV → Bool} {xs : List HV} {B : Nat} {w W : World} {g cap Bh : Nat} {h : HV} {k : Nat} (hk : k < xs.length) (hf : f xs[k]! = true) (hm : ∀ j, j < k → f xs[j]! = false) (own : RHp.Own B W (.slice (some ⟨g, 0, none⟩) xs.length cap) xs) (gr : w.grownBy W (some g)) (box : rowOf W Bh = some (hvRow h)) :
    DelI f xs B w W g cap Bh h k (k + 1) xs := by
  refine ⟨by omega, by omega, rfl, own, ?_, rfl, gr, box⟩
  rw [filter_take hk, if_pos hf, List.append_nil]
  refine (List.filter_eq_self.2 fun x hx => ?_).symm
  obtain ⟨j, hj, e⟩ := List.getElem_of_mem hx
  rw [List.length_take] at hj
  have := hm j (by omega)
  rw [getElem!_pos xs j (by omega)] at this
  rw [List.getElem_take] at e
  rw [← e, this]
  rfl
theorem DelI.skip {f : HV → Bool} {xs : List HV} {B : Nat} {w W W' : World} {g cap Bh : Nat} {h : HV} {i j : Nat} {ys : List HV} (D : DelI f xs B w W g cap Bh h i j ys) (hj : j < xs.length) (hf : f xs[j]! = true) (hb : Below W.heap.size W W') : DelI f xs B w W' g cap Bh h i (j + 1) ys :=
  ⟨by have := D.ij; omega, by omega, D.len, D.own.below hb, by rw [filter_take hj, if_pos hf, List.append_nil]; exact D.kept, (drop_get D.rest D.len hj).2, grown_trans D.gr (grown_below hb _), rowOf_below D.box hb (rowOf_lt D.box)⟩
theorem DelI.keep {f : HV → Bool} {xs : List HV} {B : Nat} {w W W' : World} {g cap Bh : Nat} {h : HV} {i j : Nat} {ys : List HV} (D : DelI f xs B w W g cap Bh h i j ys) (hj : j < xs.length) (hf : f xs[j]! = false) (own : RHp.Own B W' (.slice (some ⟨g, 0, none⟩) xs.length cap) (ys.set i xs[j]!)) (gr : W.grownBy W' (some g)) (hne : Bh ≠ g) : DelI f xs B w W' g cap Bh h (i + 1) (j + 1) (ys.set i xs[j]!) := by
  have hij := D.ij
  have hlen := D.len
  refine ⟨by omega, by omega, by rw [List.length_set]; exact D.len, own, ?_, ?_, grown_trans D.gr gr, grown_row gr D.box fun e => hne (Option.some.inj e)⟩
  · rw [filter_take hj, if_neg (by rw [hf]; simp), ← D.kept, List.take_succ_eq_append_getElem (by rw [List.length_set]; omega), List.getElem_set_self, List.take_set_of_le (Nat.le_refl _)]
  · rw [List.drop_set_of_lt (by omega)]
    exact (drop_get D.rest D.len hj).2
theorem DelI.done {f : HV → Bool} {xs : List HV} {B : Nat} {w W : World} {g cap Bh : Nat} {h : HV} {i : Nat} {ys : List HV} (D : DelI f xs B w W g cap Bh h i xs.length ys) : ys.take i = xs.filter fun x => !f x := by
  have := D.kept
  rwa [List.take_length] at this
/-- what DeleteFunc answers -/
def DelP (f : HV → Bool) (xs : List HV) (v : Value) (B : Nat) (w : World) (e : Ending) (w' : World) : Prop :=
  ∃ v', e = .returned v' ∧ RHp.Own B w' v' (xs.filter fun x => !f x) ∧ v'.ownBlock = v.ownBlock ∧ w.grownBy w' v.ownBlock
set_option maxRecDepth 100000 in
set_option maxHeartbeats 16000000 in
theorem delete_own (xs : List HV) (h : HV) (B Bh : Nat) (v : Value) (w : World) (hl : xs.length ≤ 1500000000000) (hown : RHp.Own B w v xs) (hbox : rowOf w Bh = some (hvRow h)) (hne : some Bh ≠ v.ownBlock) :
    Calls Try.prog 61 #[v, .func (.func 62) #[] #[.pointer (some ⟨Bh, 0, none⟩)]] w (DelP (fun x => leH h x) xs v B w) := by
  have HI := Lib.hid (index_any_p2 xs (fun x => leH h x) (.pointer (some ⟨Bh, 0, none⟩)) v w hl hown.is fun W x hW => put2_any x h Bh W (rowOf_below hbox hW (rowOf_lt hbox)))
  have HC : Hid (∀ W x, rowOf W Bh = some (hvRow h) → Calls Try.prog 62 #[HV.val x, .pointer (some ⟨Bh, 0, none⟩)] W (Ret (.bool (leH h x)) W)) := fun W x hW => put2_any x h Bh W hW
  generalize hf : (fun x => leH h x) = f at HI ⊢
  have HC : Hid (∀ W x, rowOf W Bh = some (hvRow h) → Calls Try.prog 62 #[HV.val x, .pointer (some ⟨Bh, 0, none⟩)] W (Ret (.bool (f x)) W)) := fun W x hW => by
    have := HC.out W x hW
    rw [← hf]
    exact this
  clear hf
  have HO := Lib.hid hown
  obtain ⟨_, ⟨rfl, hn0⟩ | ⟨g, cap, cur, rfl, hg0, hg, hle, hmx, hcs, htk⟩⟩ := hown
  · obtain rfl : xs = [] := List.length_eq_zero_iff.1 hn0
    clear hl hn0 HC hne hbox
    go_enter Try.func61, Try.ntmps61
    go_wp2_with fail
    refine (HI.out).mono ?_
    rintro e w1 ⟨r, rfl, hr, hb1⟩
    obtain rfl : r = -1 := by
      rcases hr with ⟨e, _⟩ | ⟨k, hk, _⟩
      · exact e
      · simp at hk
    have HB := Lib.hid hb1
    clear hr hb1 HI
    go_wp2
    go_returns
    exact ⟨_, rfl, HO.out.below HB.out, rfl, grown_below HB.out _⟩
  · have hne' : Bh ≠ g := fun e => hne (by rw [e]; rfl)
    have hcapn : xs.length ≤ cap := hle
    clear hg hmx hcs htk hg0 hne
    have HBx := Lib.hid hbox
    clear hbox
    go_enter Try.func61, Try.ntmps61
    go_wp2_with fail
    refine (HI.out).mono ?_
    rintro e w1 ⟨r, rfl, hr, hb1⟩
    have HB := Lib.hid hb1
    clear hb1 HI
    rcases hr with ⟨rfl, hno⟩ | ⟨k, hk, rfl, hfk, hm⟩
    · have HF : Hid ((xs.filter fun x => !f x) = xs) := List.filter_eq_self.2 fun x hx => by simp [hno x hx]
      clear hno HC
      go_wp2
      go_returns
      exact ⟨_, rfl, by rw [HF.out]; exact HO.out.below HB.out, rfl, grown_below HB.out _⟩
    · have hkb : ((k : Int) == -1) = false := by simp
      have HD := Lib.hid (DelI.start (f := f) (w := w) (h := h) (Bh := Bh) hk hfk hm (HO.out.below HB.out) (grown_below HB.out _) (rowOf_below HBx.out HB.out (rowOf_lt HBx.out)))
      clear hfk hm HO HBx
      generalize hn : xs.length = n at *
      have HN := Lib.hid hn
      clear hn
      go_wp2
      go_loopg [5, 6] n (fun gg iv jv wr => ∃ (i j : Nat) (ys : List HV), n - j ≤ gg ∧ iv = .int .i64 (i : Int) ∧ jv = .int .i64 (j : Int) ∧ Hid (DelI f xs B w wr g cap Bh h i j ys))
      case atStart => exact ⟨k, k + 1, xs, by omega, rfl, by go_num, HD.out⟩
      case round =>
        obtain ⟨i, j, ys, hgg, rfl, rfl, HD⟩ := hrel
        have hij := HD.out.ij
        have hjn : j ≤ n := by rw [← HN.out]; exact HD.out.jn
        by_cases hlt : j < n
        · have hlz : (j : Int) < (n : Int) := by omega
          have hjx : j < xs.length := by rw [HN.out]; exact hlt
          have hyl : ys.length = xs.length := HD.out.len
          have hget := (drop_get HD.out.rest hyl hjx).1
          have E1 : elemL wr ⟨g, j * 11, none⟩ 0 11 = some (HV.enc xs[j]!) := by
            have := own_elem HD.out.own (Below.refl _ _) j (by omega)
            rw [hget] at this
            exact this
          have HSk := Lib.hid (fun (hf : f xs[j]! = true) W' hb => HD.out.skip (W' := W') hjx hf hb)
          have HKp := Lib.hid (fun (hf : f xs[j]! = false) W0 (h0 : Below wr.heap.size wr W0) W' own gr => (DelI.keep (W := W0) (W' := W') ⟨hij, HD.out.jn, hyl, HD.out.own.below h0, HD.out.kept, HD.out.rest, grown_trans HD.out.gr (grown_below h0 _), rowOf_below HD.out.box h0 (rowOf_lt HD.out.box)⟩ hjx hf own gr hne'))
          generalize hy : xs[j]! = y at *
          have HY := Lib.hid hy
          clear hy hget
          go_upto_region 8 with (fail)
          refine gen_world (fun W2 => Below wr.heap.size wr W2 ∧ wr.heap.size < W2.heap.size ∧ rowOf W2 wr.heap.size = some (hvRow y)) ⟨by first | exact (Below.refl _ _).alloc (Nat.le_refl _) _ | skip, by simp, by first | exact rowOf_alloc_at _ _ _ rfl | skip⟩ ?_
          rintro w2 ⟨hB2, hz2, hrow2⟩
          have E2 := row_elem hrow2
          have HC2 := Lib.hid (HC.out w2 y (rowOf_below HD.out.box hB2 (rowOf_lt HD.out.box)))
          clear E1 HC HB
          have HB2 := Lib.hid hB2
          have HRow := Lib.hid hrow2
          clear hB2 hrow2
          cases hq : f y
          · rw [hq] at HC2
            go_wp2_with fail
            refine (HC2.out).mono ?_
            rintro e w3 ⟨rfl, hb3⟩
            have HB3 := Lib.hid (bstep HB2.out hb3 HB2.out.size)
            have E3 := row_elem (rowOf_below HRow.out hb3 (rowOf_lt HRow.out))
            have HO3 := Lib.hid (HD.out.own.below HB3.out)
            have hil : i < ys.length := by have := HN.out; omega
            clear hb3 E2 HC2
            go_wp2_with (refine RowKind.Own.storeAt (R := RHp) HO3.out Try.sizeOf46 hil y rfl _ _ rfl rfl rfl ?_; intro w4 hO4 hG4)
            have HD4 := Lib.hid (HKp.out hq w3 HB3.out w4 hO4 hG4)
            clear hO4 hG4 E3 HO3 HSk HKp HD hq
            go_roundg (n - (j + 1))
            case measure => omega
            case rel => exact ⟨i + 1, j + 1, _, Nat.le_refl _, by go_num, by go_num, HD4.out⟩
          · rw [hq] at HC2
            go_wp2_with fail
            refine (HC2.out).mono ?_
            rintro e w3 ⟨rfl, hb3⟩
            have HB3 := Lib.hid (bstep HB2.out hb3 HB2.out.size)
            have HD3 := Lib.hid (HSk.out hq _ HB3.out)
            clear hb3 E2 HC2 HSk HKp HD hq
            go_wp2
            go_roundg (n - (j + 1))
            case measure => omega
            case rel => exact ⟨i, j + 1, ys, Nat.le_refl _, rfl, by go_num, HD3.out⟩
        · obtain rfl : j = n := by omega
          have hlz : ¬ (j : Int) < (j : Int) := by omega
          have hil : i ≤ ys.length := by have := HD.out.len; have := HN.out; omega
          have hlen : ys.length = j := by rw [HD.out.len, HN.out]
          have HO3 := Lib.hid HD.out.own
          have HG3 := Lib.hid HD.out.gr
          have HK3 : Hid (ys.take i = xs.filter fun x => !f x) := by
            have D := HD.out
            rw [← HN.out] at D
            exact D.done
          clear HD HC
          go_wp2_with (refine RowKind.Own.clearL (R := RHp) (c := cap - i) HO3.out Try.zeroValue46 zhop_one hil rfl _ rfl (by rw [hlen]; rfl) ?_; intro w4 hO4 hG4)
          have HO5 := Lib.hid hO4
          have HG5 := Lib.hid (grown_trans HG3.out hG4)
          clear hO4 hG4 HO3 HG3
          go_wp2
          go_returns
          refine ⟨_, rfl, ?_, rfl, HG5.out⟩
          rw [← HK3.out]
          exact HO5.out
end Go.Proofs.Ytacmdkbmakfdkaa
