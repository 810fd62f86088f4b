/- the laws ProgEnds, ProgNumbers: over what the program's own Run and Right answer -/
import Derived.Test.YtcflfakffeglgaaQf
namespace Go.Proofs.Ytcflfakffeglgaa
open Go.RowKit
set_option linter.unusedVariables false
set_option linter.unusedSimpArgs false
attribute [local go_sem ↓] run_imin
attribute [local go_sem ↓] eqRec neRec

set_option maxRecDepth 100000 in
set_option maxHeartbeats 4000000 in
theorem progEnds_walk (C : ProgC) (xs : List NV) (rk rv : Int) (hk : inR rk) (hv : inR rv) (va : Value) (w : World) (ha : RC.Is w va xs) (ca : capOk va) (hn : ∀ x ∈ xs, inR x.n) :
    Calls Try.prog 4 #[va, .agg #[.int .i64 rk, .int .i64 rv]] w (Ret (.bool true) w) := by
  obtain ⟨p1, c1, rfl⟩ := ha.slice
  have k1 := ca _ _ _ rfl
  clear ca
  have hnt := fun m => show ∀ x ∈ xs.take m, inR x.n from fun x hx => hn x (List.mem_of_mem_take hx)
  clear hn
  generalize xs.length = n1 at *
  have HA := Lib.hid ha
  clear ha
  obtain ⟨m1, e1, l1, h1, z1⟩ := cutTo 100 n1 (by decide)
  have e1 : imin (n1 : Int) 100 = (m1 : Int) := e1
  have d1 : m1 ≤ c1 := by omega
  have hmn : (xs.take m1).length ≤ 100 := by rw [List.length_take]; omega
  have HA2 := Lib.hid (HA.out.cut m1 l1 z1)
  have HF := Lib.hid (hnt m1)
  clear l1 z1 HA k1 hnt
  generalize xs.take m1 = P at *
  have HR := Lib.hid (fun W (hW : Below w.heap.size w W) => C.run P (.slice p1 m1 c1) rk rv W (by omega) (HA2.out.below hW) HF.out hk hv)
  have HT := Lib.hid (fun W (hW : Below w.heap.size w W) => C.right P (.slice p1 m1 c1) W (by omega) (HA2.out.below hW))
  have hends := runC_ends P ⟨rk, rv⟩
  have HAW := Lib.hid (fun W => progAwake C W)
  unfold RunR at HR
  clear HA2 HF hmn hk hv
  generalize runC P ⟨rk, rv⟩ = res at *
  generalize rightC P = rb at *
  have hbx := (Below.refl w.heap.size w).alloc (Nat.le_refl _) (.cells #[.int .i64 rk, .int .i64 rv] 24)
  have HB0 := Lib.hid hbx
  have HRb := Lib.hid (Boxed.new w #[.int .i64 rk, .int .i64 rv] 24)
  clear hbx
  go_enter Try.func4, Try.ntmps4
  go_wp2_with fail
  refine (HAW.out _).mono ?_
  rintro e w1 ⟨rfl, hb1⟩
  have hRb := HRb.out.below hb1 (by simp)
  have HB1 := Lib.hid (HB0.out.trans (hb1.mono HB0.out.size))
  obtain ⟨r0, r1⟩ := hRb.two
  have HRb1 := Lib.hid hRb
  clear hb1 hRb HRb HB0
  go_wp2_with fail
  refine (HR.out _ HB1.out).mono ?_
  rintro e w2 ⟨v2, rfl, hO2, hb2⟩
  have hRb := HRb1.out.below hb2 HRb1.out.lt
  have HB2 := Lib.hid (HB1.out.trans (hb2.mono HB1.out.size))
  have HO2 := Lib.hid hO2.is
  clear r0 r1
  obtain ⟨r0, r1⟩ := hRb.two
  clear hb2 hO2 hRb HRb1 HR
  rcases hends with ⟨h0, h8, hor⟩ | ⟨rfl, e, he1, he5, rfl⟩
  · obtain ⟨L, bad⟩ := res
    simp only at h0 h8 hor
    subst h0
    obtain ⟨p2, c2, rfl⟩ := HO2.out.slice
    clear HO2 r0 r1
    generalize hl : L.length = l at *
    have hl8 : (l : Int) ≤ 8 := by omega
    cases rb
    · have hL : L = [] := by simpa using hor
      subst hL
      obtain rfl : l = 0 := by simpa using hl.symm
      clear hor hl h8
      go_wp2_with fail
      refine (HT.out _ HB2.out).mono ?_
      rintro e w3 ⟨rfl, hb3⟩
      have HB3 := Lib.hid (HB2.out.trans (hb3.mono HB2.out.size))
      clear hb3
      go_wp2
      go_returns
      exact ⟨rfl, HB3.out⟩
    · clear hor hl h8
      go_wp2_with fail
      refine (HT.out _ HB2.out).mono ?_
      rintro e w3 ⟨rfl, hb3⟩
      have HB3 := Lib.hid (HB2.out.trans (hb3.mono HB2.out.size))
      clear hb3
      go_wp2
      go_returns
      exact ⟨rfl, HB3.out⟩
  · simp only [errL] at HO2 ⊢
    rcases HO2.out with ⟨h, _⟩ | ⟨_, g, off, cap, rfl, hg, hr⟩
    · cases h
    obtain ⟨l0, l1⟩ := atR7 hr 0 (by simp)
    simp only [Nat.zero_mul, Nat.add_zero] at l0 l1
    have l0 : w2.cell? ⟨g, off, none⟩ = some (.int .i64 rk) := l0
    have l1 : w2.cell? ⟨g, off + 1, none⟩ = some (.int .i64 (-9223372036854775808 + e)) := l1
    have HT2 : Hid (∀ q : Beh w2, Calls Try.prog 11 #[.slice p1 m1 c1] q.w (Ret (.bool true) q.w)) := fun q => HT.out q.w (HB2.out.trans (q.h.mono HB2.out.size))
    have heb : (e != 0) = true := by simp; omega
    have hd1 : decide (e ≥ 1) = true := decide_eq_true he1
    have hd2 : decide (1 ≤ e) = true := decide_eq_true he1
    have hd5 : decide (e ≤ 5) = true := decide_eq_true he5
    have hq : eqR ⟨rk, -9223372036854775808 + e⟩ ⟨rk, -9223372036854775808 + e⟩ = true := decide_eq_true rfl
    have x0 : ∀ q : Beh w2, q.w.cell? ⟨g, off, none⟩ = some (.int .i64 rk) := fun q => beh_cell l0 q
    have x1 : ∀ q : Beh w2, q.w.cell? ⟨g, off + 1, none⟩ = some (.int .i64 (-9223372036854775808 + e)) := fun q => beh_cell l1 q
    have y0 : ∀ q : Beh w2, q.w.cell? ⟨w.heap.size, 0, none⟩ = some (.int .i64 rk) := fun q => beh_cell r0 q
    clear l0 l1 r0 r1 hr HO2 HT
    go_wp2_with fail
    refine wp_region_beh (by kernel_rfl) (by kernel_rfl) ?_
    repeat (first | go_big_quiet_step (first | (with_reducible exact Calls.beh (HT2.out _))) | quiet_step (first | (with_reducible exact Calls.beh (HT2.out _))))
    refine wpQuiet_nil ?_
    intro _ hw'
    obtain ⟨q, hw''⟩ := hw'
    subst hw''
    have HX := Lib.hid (HB2.out.trans (q.h.mono HB2.out.size))
    clear x0 x1 y0
    go_wp2
    go_returns
    exact ⟨ret_bool (by first | rfl | exact hq), HX.out⟩
set_option maxRecDepth 100000 in
set_option maxHeartbeats 4000000 in
theorem progNumbers_walk (C : ProgC) (a : Int) (ha : inR a) (b : Int) (hb : inR b) (w : World) : Calls Try.prog 5 #[.int .i64 a, .int .i64 b] w (Ret (.bool true) w) := by
  have HAW := Lib.hid (fun W => progAwake C W)
  have HR : Hid (∀ (o : Int) (W : World), 4 ≤ o → o ≤ 10 → Calls Try.prog 9 #[.slice (some ⟨W.heap.size, 0, none⟩) 5 5, .agg #[.int .i64 0, .int .i64 0]] (W.alloc (.cells #[.int .i64 1, .int .i64 0, .int .i64 1, .int .i64 a, .int .i64 1, .int .i64 b, .int .i64 o, .int .i64 0, .int .i64 16, .int .i64 0] 33))
      (fun e w' => ∃ v, e = .returned (.tuple #[v, .int .i64 (ofN o a b).2]) ∧ RR.Is w' v [if (ofN o a b).2 = 0 then ⟨0, (ofN o a b).1⟩ else ⟨0, -9223372036854775808 + (ofN o a b).2⟩] ∧ Below W.heap.size W w')) := fun o W h4 h10 => by
    have hlit := RowKind.Row.litL (R := RC) W (prog2 o a b) 33
    have hI : RC.Is (W.alloc (.cells (RC.cells (prog2 o a b)).toArray 33)) (.slice (some ⟨W.heap.size, 0, none⟩) 5 5) (prog2 o a b) := .inr ⟨by simp [prog2], W.heap.size, 0, 5, rfl, by simp, hlit⟩
    have hB := (Below.refl W.heap.size W).alloc (Nat.le_refl _) (.cells (RC.cells (prog2 o a b)).toArray 33)
    have h0 : inR 0 := by decide
    have hq := C.run (prog2 o a b) _ 0 0 _ (by simp [prog2]) hI (fun x hx => by
      simp [prog2] at hx
      rcases hx with rfl | rfl | rfl | rfl | rfl
      · exact h0
      · exact ha
      · exact hb
      · exact h0
      · exact h0) h0 h0
    unfold RunR at hq
    rw [runC_two o a b h4 h10] at hq
    refine hq.mono fun e w' h => ?_
    obtain ⟨v, h1, h2, h3⟩ := h
    by_cases hz : (ofN o a b).2 = 0
    · rw [if_pos hz] at h1 h2
      rw [if_pos hz, hz]
      exact ⟨v, h1, h2.is, hB.trans (h3.mono (by simp))⟩
    · rw [if_neg hz] at h1 h2
      rw [if_neg hz]
      exact ⟨v, h1, h2.is, hB.trans (h3.mono (by simp))⟩
  have HO : Hid (∀ (o : Int) (W : World), Calls Try.prog 14 #[.int .i64 o, .int .i64 a, .int .i64 b] W (RetW (ofV2 (ofN o a b)) W)) := fun o W => rof07_any o a b ha hb W
  clear ha hb
  go_enter Try.func5, Try.ntmps5
  go_wp2_with fail
  refine (HAW.out _).mono ?_
  rintro e w1 ⟨rfl, hb1⟩
  have HB1 := Lib.hid hb1
  clear hb1
  go_wp2_with fail
  go_loopg [5] 20 (fun gg i wr => ∃ o : Int, 4 ≤ o ∧ o ≤ 11 ∧ (11 - o).toNat ≤ gg ∧ i = .int .i64 o ∧ Hid (Below w.heap.size w wr))
  case atStart => exact ⟨4, by decide, by decide, by decide, rfl, HB1.out⟩
  case round =>
    obtain ⟨o, ho4, ho11, hg, rfl, HB⟩ := hrel
    by_cases hlt : o ≤ 10
    · have HRo := Lib.hid (HR.out o wr ho4 hlt)
      have HOo := Lib.hid (HO.out o)
      have herr := ofN_err o a b
      clear HR HO
      generalize ofN o a b = zz at *
      obtain ⟨z, ze⟩ := zz
      simp only at herr
      go_wp2_with fail
      refine (HRo.out).mono ?_
      rintro e w2 ⟨v2, rfl, hI, hb2⟩
      have HB2 := Lib.hid (HB.out.trans (hb2.mono HB.out.size))
      rcases hI with ⟨h, _⟩ | ⟨_, g, off, cap, rfl, hgl, hr⟩
      · cases h
      obtain ⟨l0, l1⟩ := atR7 hr 0 (by simp)
      simp only [Nat.zero_mul, Nat.add_zero] at l0 l1
      clear hb2 hr HRo
      have bz : (ze != ze) = false := by simp
      go_wp2_with fail
      refine (HOo.out _).mono ?_
      rintro e w3 ⟨rfl, rfl⟩
      by_cases hz : ze = 0
      · subst hz
        have l0 : w3.cell? ⟨g, off, none⟩ = some (.int .i64 0) := l0
        have l1 : w3.cell? ⟨g, off + 1, none⟩ = some (.int .i64 z) := l1
        have hq : eqR ⟨0, z⟩ ⟨0, z⟩ = true := decide_eq_true rfl
        clear HOo herr
        go_wp2
        go_roundg (11 - (o + 1)).toNat
        case measure => omega
        case rel => exact ⟨o + 1, by omega, by omega, by omega, by go_num, HB2.out⟩
      · have hzb : (ze == 0) = false := by simpa using hz
        clear HOo herr l0 l1
        go_wp2
        go_roundg (11 - (o + 1)).toNat
        case measure => omega
        case rel => exact ⟨o + 1, by omega, by omega, by omega, by go_num, HB2.out⟩
    · clear HR HO
      go_wp2
      go_returns
      exact ⟨rfl, HB.out⟩
end Go.Proofs.Ytcflfakffeglgaa
