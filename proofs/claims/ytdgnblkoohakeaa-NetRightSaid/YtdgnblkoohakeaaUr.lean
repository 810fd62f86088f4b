/- where a mailbox stands: slices.BinarySearchFunc by net.order; net.find -/
import Derived.Test.YtdgnblkoohakeaaUq
import Derived.Laws.Shifts
namespace Go.Proofs.Ytdgnblkoohakeaa
open Go.RowKit
set_option linter.unusedVariables false
set_option linter.unusedSimpArgs false

/-- its place among right ones, and whether it is there -/
structure Pos (n : List BV) (e f t : Int) (at_ : Nat) (th : Bool) : Prop where
  le : at_ ≤ n.length
  lo : ∀ j, j < at_ → aheadB n[j]! ⟨e, f, t, []⟩ = true
  hi : ∀ j, at_ ≤ j → j < n.length → aheadB n[j]! ⟨e, f, t, []⟩ = false
  th : th = (decide (at_ < n.length) && isB n[at_]! e f t)
theorem ord_lt2 (b : BV) (e f t : Int) : decide (ordU b.e b.f b.t e f t < 0) = aheadB b ⟨e, f, t, []⟩ := by
  rw [Bool.eq_iff_iff, decide_eq_true_eq, ← ordB_lt]
  exact Iff.rfl
theorem ord_eq2 (b : BV) (e f t : Int) : (ordU b.e b.f b.t e f t == 0) = isB b e f t := by
  rw [Bool.eq_iff_iff, beq_iff_eq]
  exact ordB_zero b ⟨e, f, t, []⟩
theorem ahead_down {n : List BV} (hg : GoodN n) {i j : Nat} (hij : i ≤ j) (hj : j < n.length) {c : BV} (h : aheadB n[j]! c = true) : aheadB n[i]! c = true := by
  by_cases e : i = j
  · subst e; exact h
  · have h1 := List.pairwise_iff_getElem.1 hg.2 i j (by omega) hj (by omega)
    rw [← getElem!_pos n i (by omega), ← getElem!_pos n j hj] at h1
    exact ahead_trans h1 h
set_option maxRecDepth 100000 in
set_option maxHeartbeats 16000000 in
theorem pbsearch_any (n : List BV) (v : Value) (e f t : Int) (w : World) (hl : n.length ≤ 900000) (hg : GoodN n) (h : IsBs w v n) : Calls Try.prog 30 #[v, .agg #[.int .i64 e, .int .i64 f, .int .i64 t, .slice none 0 0], .func (.func 25) #[] #[]] w (fun x W' => ∃ at_ th, x = .returned (.tuple #[.int .i64 ((at_ : Nat) : Int), .bool th]) ∧ Pos n e f t at_ th ∧ Below w.heap.size w W') := by
  obtain ⟨p, c, rfl, ho⟩ := h.opened
  have HO := Lib.hid ho
  have HA := Lib.hid (fun a1 a2 a3 a4 b1 b2 b3 b4 W => uorder_any a1 a2 a3 a4 b1 b2 b3 b4 W)
  have HG := Lib.hid hg
  clear h ho hg
  go_enter Try.func30, Try.ntmps30
  go_upto_region 1 with (fail)
  refine gen_world (fun W3 => Below w.heap.size w W3 ∧ Boxed W3 w.heap.size #[.int .i64 e, .int .i64 f, .int .i64 t, .slice none 0 0] 34) ⟨by first | exact (Below.refl _ _).alloc (Nat.le_refl _) _ | go_grown, by first | exact heap_alloc_new _ _ | skip⟩ ?_
  rintro w1 ⟨hb1, hx1⟩
  have HB := Lib.hid hb1
  have HX := Lib.hid hx1
  clear hb1 hx1
  go_wp2
  go_loopg [9, 10] n.length (fun gg v9 v10 wr => ∃ lo hi : Nat, v9 = .int .i64 (lo : Int) ∧ v10 = .int .i64 (hi : Int) ∧ lo ≤ hi ∧ hi ≤ n.length ∧ hi - lo ≤ gg ∧ Hid (Below w1.heap.size w1 wr) ∧ Hid (∀ j, j < lo → aheadB n[j]! ⟨e, f, t, []⟩ = true) ∧ Hid (∀ j, hi ≤ j → j < n.length → aheadB n[j]! ⟨e, f, t, []⟩ = false))
  case atStart => exact ⟨0, n.length, rfl, rfl, Nat.zero_le _, Nat.le_refl _, by omega, Below.refl _ _, fun j hj => absurd hj (Nat.not_lt_zero j), fun j h1 h2 => absurd h2 (by omega)⟩
  case round =>
    obtain ⟨lo, hi, rfl, rfl, hlh, hhn, hgg, HB5, HLo, HHi⟩ := hrel
    rename World => wr
    have HBw := Lib.hid (bcall HB.out HB5.out HB.out.size)
    have HX5 := Lib.hid (HX.out.below HB5.out HX.out.lt)
    by_cases hlt : lo < hi
    · have hlz : (lo : Int) < (hi : Int) := by omega
      have hmz : ((lo : Int) + (hi : Int)) / 2 = (((lo + hi) / 2 : Nat) : Int) := by omega
      have hm1 : lo ≤ (lo + hi) / 2 := by omega
      have hm2 : (lo + hi) / 2 < hi := by omega
      generalize (lo + hi) / 2 = mm at *
      have hmn : mm < n.length := by omega
      obtain ⟨b, off, q, d, rfl, hI, hc⟩ := HO.out mm hmn
      obtain ⟨e0, e1, e2, e3⟩ := hc wr HBw.out
      have hOr := ord_lt2 n[mm]! e f t
      have HAq0 := HA.out (n[mm]!).e (n[mm]!).f (n[mm]!).t (.slice q (n[mm]!).l.length d) e f t (.slice none 0 0)
      have HYes : Hid (aheadB n[mm]! ⟨e, f, t, []⟩ = true → ∀ j, j < mm + 1 → aheadB n[j]! ⟨e, f, t, []⟩ = true) := fun x j hj => ahead_down HG.out (by omega) hmn x
      have HNo : Hid (aheadB n[mm]! ⟨e, f, t, []⟩ = false → ∀ j, mm ≤ j → j < n.length → aheadB n[j]! ⟨e, f, t, []⟩ = false) := fun x j hj hjn => by
        cases y : aheadB n[j]! ⟨e, f, t, []⟩
        · rfl
        · rw [ahead_down HG.out hj hjn y] at x; cases x
      generalize ordU (n[mm]!).e (n[mm]!).f (n[mm]!).t e f t = o at hOr HAq0
      generalize aheadB n[mm]! ⟨e, f, t, []⟩ = ab at *
      generalize n[mm]! = y at *
      have P0 := fun p => beh_cell e0 p
      have P1 := fun p => beh_cell e1 p
      have P2 := fun p => beh_cell e2 p
      have P3 := fun p => beh_cell e3 p
      have B0 := fun p => beh_cell (show wr.cell? ⟨w.heap.size, 0, none⟩ = some (.int .i64 e) from HX5.out.cell 0) p
      have B1 := fun p => beh_cell (show wr.cell? ⟨w.heap.size, 1, none⟩ = some (.int .i64 f) from HX5.out.cell 1) p
      have B2 := fun p => beh_cell (show wr.cell? ⟨w.heap.size, 2, none⟩ = some (.int .i64 t) from HX5.out.cell 2) p
      have B3 := fun p => beh_cell (show wr.cell? ⟨w.heap.size, 3, none⟩ = some (.slice none 0 0) from HX5.out.cell 3) p
      have HAq := Lib.hid (fun p : Beh wr => HAq0 p.w)
      clear e0 e1 e2 e3 HA HAq0 HX5
      clear hI hc
      cases ab
      · have HHi2 := Lib.hid (HNo.out rfl)
        clear HNo HYes HHi
        go_wp2_with fail
        refine wp_region_beh (by kernel_rfl) (by kernel_rfl) ?_
        repeat (first | go_big_quiet_step (first | (with_reducible exact Calls.beh (HAq.out _))) | quiet_step (first | (with_reducible exact Calls.beh (HAq.out _))))
        refine wpQuiet_nil ?_
        intro _ hw'
        obtain ⟨g, hw''⟩ := hw'
        subst hw''
        have HBg := Lib.hid (bcall HB5.out g.h HB5.out.size)
        have HBh := Lib.hid (bcall HBw.out g.h HBw.out.size)
        generalize g.w = wq at *
        clear g
        go_wp2
        go_roundg (mm - lo)
        case measure => omega
        case rel => exact ⟨lo, mm, rfl, rfl, hm1, by omega, by omega, HBg.out, HLo.out, HHi2.out⟩
      · have HLo2 := Lib.hid (HYes.out rfl)
        clear HNo HYes HLo
        go_wp2_with fail
        refine wp_region_beh (by kernel_rfl) (by kernel_rfl) ?_
        repeat (first | go_big_quiet_step (first | (with_reducible exact Calls.beh (HAq.out _))) | quiet_step (first | (with_reducible exact Calls.beh (HAq.out _))))
        refine wpQuiet_nil ?_
        intro _ hw'
        obtain ⟨g, hw''⟩ := hw'
        subst hw''
        have HBg := Lib.hid (bcall HB5.out g.h HB5.out.size)
        have HBh := Lib.hid (bcall HBw.out g.h HBw.out.size)
        generalize g.w = wq at *
        clear g
        go_wp2
        go_roundg (hi - (mm + 1))
        case measure => omega
        case rel => exact ⟨mm + 1, hi, by go_num, rfl, by omega, hhn, by omega, HBg.out, HLo2.out, HHi.out⟩
    · obtain rfl : lo = hi := by omega
      by_cases hend : lo < n.length
      · have hez : (lo : Int) < (n.length : Int) := by omega
        obtain ⟨b, off, q, d, rfl, hI, hc⟩ := HO.out lo hend
        obtain ⟨e0, e1, e2, e3⟩ := hc wr HBw.out
        have hOr := ord_eq2 n[lo]! e f t
        have HAq0 := HA.out (n[lo]!).e (n[lo]!).f (n[lo]!).t (.slice q (n[lo]!).l.length d) e f t (.slice none 0 0)
        have HP : Hid (Pos n e f t lo (isB n[lo]! e f t)) := ⟨hhn, HLo.out, HHi.out, by rw [decide_eq_true hend, Bool.true_and]⟩
        generalize ordU (n[lo]!).e (n[lo]!).f (n[lo]!).t e f t = o at hOr HAq0
        generalize isB n[lo]! e f t = ab at *
        generalize n[lo]! = y at *
        have P0 := fun p => beh_cell e0 p
        have P1 := fun p => beh_cell e1 p
        have P2 := fun p => beh_cell e2 p
        have P3 := fun p => beh_cell e3 p
        have B0 := fun p => beh_cell (show wr.cell? ⟨w.heap.size, 0, none⟩ = some (.int .i64 e) from HX5.out.cell 0) p
        have B1 := fun p => beh_cell (show wr.cell? ⟨w.heap.size, 1, none⟩ = some (.int .i64 f) from HX5.out.cell 1) p
        have B2 := fun p => beh_cell (show wr.cell? ⟨w.heap.size, 2, none⟩ = some (.int .i64 t) from HX5.out.cell 2) p
        have B3 := fun p => beh_cell (show wr.cell? ⟨w.heap.size, 3, none⟩ = some (.slice none 0 0) from HX5.out.cell 3) p
        have HAq := Lib.hid (fun p : Beh wr => HAq0 p.w)
        clear e0 e1 e2 e3 HA HAq0 HX5
        clear hI hc HLo HHi
        go_wp2_with fail
        refine wp_region_beh (by kernel_rfl) (by kernel_rfl) ?_
        repeat (first | go_big_quiet_step (first | (with_reducible exact Calls.beh (HAq.out _))) | quiet_step (first | (with_reducible exact Calls.beh (HAq.out _))))
        refine wpQuiet_nil ?_
        intro _ hw'
        obtain ⟨g, hw''⟩ := hw'
        subst hw''
        have HBg := Lib.hid (bcall HB5.out g.h HB5.out.size)
        have HBh := Lib.hid (bcall HBw.out g.h HBw.out.size)
        generalize g.w = wq at *
        clear g
        go_wp2
        go_returns
        exact ⟨lo, ab, by first | rfl | simp [hOr], HP.out, HBh.out⟩
      · obtain rfl : lo = n.length := by omega
        have HP : Hid (Pos n e f t n.length false) := ⟨hhn, HLo.out, HHi.out, by rw [decide_eq_false (by omega), Bool.false_and]⟩
        have hez : ¬ (n.length : Int) < (n.length : Int) := by omega
        clear HLo HHi
        go_wp2_with fail
        refine wp_region_beh (by kernel_rfl) (by kernel_rfl) ?_
        repeat (first | go_big_quiet_step (fail) | quiet_step (fail))
        refine wpQuiet_nil ?_
        intro _ hw'
        obtain ⟨g, hw''⟩ := hw'
        subst hw''
        have HBg := Lib.hid (bcall HB5.out g.h HB5.out.size)
        have HBh := Lib.hid (bcall HBw.out g.h HBw.out.size)
        generalize g.w = wq at *
        clear g
        go_wp2
        go_returns
        exact ⟨n.length, false, rfl, HP.out, HBh.out⟩
end Go.Proofs.Ytdgnblkoohakeaa
