/- the fixed answer of the laws on programs; the law ProgRight: over what the program's own Run and Right answer (ProgC) -/
import Derived.Test.YtcflfakffeglgaaQe
import Derived.Test.YtcflfakffeglgaaQg
import Derived.Test.YtcflfakffeglgaaBf
import Derived.Deep.RegionHeldLaw
namespace Go.Proofs.Ytcflfakffeglgaa
open Go.RowKit
set_option linter.unusedVariables false
set_option linter.unusedSimpArgs false
attribute [local go_sem ↓] run_imin
attribute [local go_sem ↓] eqRec neRec

/-- the program's own two functions answer so -/
structure ProgC : Prop where
  run : ∀ (p : List NV) (v : Value) (rk rv : Int) (w : World), p.length ≤ 1000 → RC.Is w v p → (∀ x ∈ p, inR x.n) → inR rk → inR rv → Calls Try.prog 9 #[v, .agg #[.int .i64 rk, .int .i64 rv]] w (RunR p ⟨rk, rv⟩ w)
  right : ∀ (p : List NV) (v : Value) (w : World), p.length ≤ 1000 → RC.Is w v p → Calls Try.prog 11 #[v] w (Ret (.bool (rightC p)) w)
theorem atR7 {w : World} {b off : Nat} {xs : List RV} (h : RR.Row w b off xs) (j : Nat) (hj : j < xs.length) :
    w.cell? ⟨b, off + j * 2, none⟩ = some (.int .i64 xs[j]!.k) ∧ w.cell? ⟨b, off + j * 2 + 1, none⟩ = some (.int .i64 xs[j]!.v) :=
  ⟨h j hj 0 _ rfl, h j hj 1 _ rfl⟩
def progAw : List NV := [⟨2, 0⟩, ⟨3, 0⟩, ⟨1, 1⟩, ⟨4, 0⟩, ⟨16, 0⟩]
theorem progAw_is : runC progAw ⟨3, 4⟩ = ([⟨3, 5⟩], 0) := by decide +kernel
set_option maxRecDepth 100000 in
set_option maxHeartbeats 4000000 in
theorem progAwake (C : ProgC) (w : World) : Calls Try.prog 8 #[] w (Ret (.bool true) w) := by
  have hlit := RowKind.Row.litL (R := RC) w progAw 33
  have hI : RC.Is (w.alloc (.cells (RC.cells progAw).toArray 33)) (.slice (some ⟨w.heap.size, 0, none⟩) 5 5) progAw := .inr ⟨by decide, w.heap.size, 0, 5, rfl, by simp, hlit⟩
  have hB := (Below.refl w.heap.size w).alloc (Nat.le_refl _) (.cells (RC.cells progAw).toArray 33)
  have hR := C.run progAw _ 3 4 _ (by decide) hI (by decide) (by decide) (by decide)
  unfold RunR at hR
  rw [progAw_is] at hR
  have HR : Hid (Calls Try.prog 9 #[.slice (some ⟨w.heap.size, 0, none⟩) 5 5, .agg #[.int .i64 3, .int .i64 4]] (w.alloc (.cells #[.int .i64 2, .int .i64 0, .int .i64 3, .int .i64 0, .int .i64 1, .int .i64 1, .int .i64 4, .int .i64 0, .int .i64 16, .int .i64 0] 33)) (fun e w' => ∃ v, e = .returned (.tuple #[v, .int .i64 0]) ∧ RR.Own w.heap.size w' v [⟨3, 5⟩] ∧ Below w.heap.size w w')) := hR.mono fun e w' h => by
    obtain ⟨v, h1, h2, h3⟩ := h
    exact ⟨v, h1, h2.mono (by simp), hB.trans (h3.mono (by simp))⟩
  clear hlit hI hB hR
  go_enter Try.func8, Try.ntmps8
  go_wp2_with fail
  refine (HR.out).mono ?_
  rintro e w1 ⟨u, rfl, hO, hB1⟩
  have HB1 := Lib.hid hB1
  rcases hO.is with ⟨h, _⟩ | ⟨_, g, off, cap, rfl, hg, hr⟩
  · cases h
  obtain ⟨r0, r1⟩ := atR7 hr 0 (by decide)
  simp only [Nat.zero_mul, Nat.add_zero] at r0 r1
  have r0 : w1.cell? ⟨g, off, none⟩ = some (.int .i64 3) := r0
  have r1 : w1.cell? ⟨g, off + 1, none⟩ = some (.int .i64 5) := r1
  have hq : eqR ⟨3, 5⟩ ⟨3, 5⟩ = true := by decide
  clear hO hB1 hr HR
  go_wp2
  go_returns
  exact ⟨ret_bool (by first | rfl | exact hq), HB1.out⟩
set_option maxRecDepth 100000 in
set_option maxHeartbeats 4000000 in
theorem progRight_walk (C : ProgC) (xs : List NV) (rk rv : Int) (hk : inR rk) (hv : inR rv) (va : Value) (w : World) (ha : RC.Is w va xs) (ca : capOk va) (hn : ∀ x ∈ xs, inR x.n) :
    Calls Try.prog 3 #[va, .agg #[.int .i64 rk, .int .i64 rv]] w (Ret (.bool true) w) := by
  obtain ⟨p1, c1, rfl⟩ := ha.slice
  have k1 := ca _ _ _ rfl
  clear ca
  have hnt := fun m => show ∀ x ∈ xs.take m, inR x.n from fun x hx => hn x (List.mem_of_mem_take hx)
  clear hn
  generalize xs.length = n1 at *
  have HA := Lib.hid ha
  clear ha
  obtain ⟨m1, e1, l1, h1, z1⟩ := cutTo 100 n1 (by decide)
  have e1 : imin (n1 : Int) 100 = (m1 : Int) := e1
  have d1 : m1 ≤ c1 := by omega
  have hmn : (xs.take m1).length ≤ 100 := by rw [List.length_take]; omega
  have HA2 := Lib.hid (HA.out.cut m1 l1 z1)
  have HF := Lib.hid (hnt m1)
  clear l1 z1 HA k1 hnt
  generalize xs.take m1 = P at *
  have HR := Lib.hid (fun W (hW : Below w.heap.size w W) => C.run P (.slice p1 m1 c1) rk rv W (by omega) (HA2.out.below hW) HF.out hk hv)
  have HS := Lib.hid (fun W (hW : Below w.heap.size w W) => rrun_any P (.slice p1 m1 c1) rk rv W (by omega) (HA2.out.below hW) HF.out hk hv)
  have HT := Lib.hid (fun W (hW : Below w.heap.size w W) => C.right P (.slice p1 m1 c1) W (by omega) (HA2.out.below hW))
  have HU := Lib.hid (fun W (hW : Below w.heap.size w W) => rright_any P (.slice p1 m1 c1) W (by omega) (HA2.out.below hW))
  have hlen := runC_len P ⟨rk, rv⟩
  have HAW := Lib.hid (fun W => progAwake C W)
  unfold RunR at HR HS
  clear HA2 HF hmn hk hv
  generalize runC P ⟨rk, rv⟩ = res at *
  obtain ⟨L, bad⟩ := res
  simp only at hlen HR HS
  generalize rightC P = rb at *
  have HSm : Hid (∀ W u v, RR.Is W u L → RR.Is W v L → Calls Try.prog 13 #[u, v] W (Ret (.bool true) W)) := fun W u v h k => by
    have q := rsameR_any L L u v W (by omega) (by omega) h k
    rw [decide_eq_true rfl] at q
    exact q
  have b1 : (rb == rb) = true := by simp
  have b2 : (bad == bad) = true := by simp
  have hbx := (Below.refl w.heap.size w).alloc (Nat.le_refl _) (.cells #[.int .i64 rk, .int .i64 rv] 24)
  have HB0 := Lib.hid hbx
  have HRb := Lib.hid (Boxed.new w #[.int .i64 rk, .int .i64 rv] 24)
  clear hlen hbx
  go_enter Try.func3, Try.ntmps3
  go_wp2_with fail
  refine (HAW.out _).mono ?_
  rintro e w1 ⟨rfl, hb1⟩
  have hRb := HRb.out.below hb1 (by simp)
  have HB1 := Lib.hid (HB0.out.trans (hb1.mono HB0.out.size))
  obtain ⟨r0, r1⟩ := hRb.two
  have HRb1 := Lib.hid hRb
  clear hb1 hRb HRb HB0
  go_wp2_with fail
  refine (HR.out _ HB1.out).mono ?_
  rintro e w2 ⟨v2, rfl, hO2, hb2⟩
  have hRb := HRb1.out.below hb2 HRb1.out.lt
  have HB2 := Lib.hid (HB1.out.trans (hb2.mono HB1.out.size))
  have HO2 := Lib.hid hO2.is
  clear r0 r1
  obtain ⟨r0, r1⟩ := hRb.two
  clear hb2 hO2 hRb HRb1 HR
  go_wp2_with fail
  refine (HS.out _ HB2.out).mono ?_
  rintro e w3 ⟨v3, rfl, hO3, hb3⟩
  have HB3 := Lib.hid (HB2.out.trans (hb3.mono HB2.out.size))
  have HO3 := Lib.hid hO3.is
  have HO2b := Lib.hid (HO2.out.below hb3)
  clear hb3 hO3 HO2 r0 r1 HS
  go_wp2_with fail
  refine (HT.out _ HB3.out).mono ?_
  rintro e w4 ⟨rfl, hb4⟩
  have HB4 := Lib.hid (HB3.out.trans (hb4.mono HB3.out.size))
  have HO3c := Lib.hid (HO3.out.below hb4); have HO2c := Lib.hid (HO2b.out.below hb4)
  clear hb4 HO3 HO2b
  go_wp2_with fail
  refine (HU.out _ HB4.out).mono ?_
  rintro e w5 ⟨rfl, hb5⟩
  have HB5 := Lib.hid (HB4.out.trans (hb5.mono HB4.out.size))
  have HO3d := Lib.hid (HO3c.out.below hb5); have HO2d := Lib.hid (HO2c.out.below hb5)
  clear hb5 HO3c HO2c
  go_wp2_with fail
  refine (HSm.out _ _ _ HO2d.out HO3d.out).mono ?_
  rintro e w6 ⟨rfl, hb6⟩
  have HB6 := Lib.hid (HB5.out.trans (hb6.mono HB5.out.size))
  clear hb6
  go_wp2
  go_returns
  exact ⟨ret_bool rfl, HB6.out⟩
end Go.Proofs.Ytcflfakffeglgaa
