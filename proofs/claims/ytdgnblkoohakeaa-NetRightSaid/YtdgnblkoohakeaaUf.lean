/- the document's Same on mailboxes -/
import Derived.Test.YtdgnblkoohakeaaUe
namespace Go.Proofs.Ytdgnblkoohakeaa
open Go.RowKit
set_option linter.unusedVariables false
set_option linter.unusedSimpArgs false

set_option maxRecDepth 100000 in
set_option maxHeartbeats 16000000 in
theorem usame_any (n m : List BV) (va vb : Value) (w : World) (h1 : n.length ≤ 900000) (h2 : m.length ≤ 900000) (l1 : ∀ j, j < n.length → (n[j]!).l.length ≤ 900000) (l2 : ∀ j, j < m.length → (m[j]!).l.length ≤ 900000) (ha : IsBs w va n) (hb : IsBs w vb m) : Calls Try.prog 12 #[va, vb] w (Ret (.bool (decide (n = m))) w) := by
  obtain ⟨pa, ca, rfl, hoa⟩ := ha.opened
  obtain ⟨pb, cb, rfl, hob⟩ := hb.opened
  have HOa := Lib.hid hoa
  have HOb := Lib.hid hob
  have HIs := Lib.hid (fun a1 a2 a3 a4 b1 b2 b3 W => uis_any a1 a2 a3 a4 b1 b2 b3 W)
  have HSm := Lib.hid (fun xs ys va vb W h1 h2 ha hb => usamem_any xs ys va vb W h1 h2 ha hb)
  have HL1 := Lib.hid l1
  have HL2 := Lib.hid l2
  clear ha hb hoa hob l1 l2
  by_cases hl : n.length = m.length
  · have HL := Lib.hid hl
    have hlb : ((n.length : Int) == (m.length : Int)) = true := by simp; omega
    rw [← hl]
    clear hl hlb
    go_enter Try.func12, Try.ntmps12
    go_wp2_with fail
    go_loopg [5] n.length (fun gg i wr => ∃ k : Nat, k ≤ n.length ∧ n.length - k ≤ gg ∧ i = .int .i64 (k : Int) ∧ Hid (∀ j, j < k → n[j]! = m[j]!) ∧ Hid (Below w.heap.size w wr))
    case atStart => exact ⟨0, Nat.zero_le _, by omega, rfl, fun j hj => absurd hj (Nat.not_lt_zero j), Below.refl _ _⟩
    case round =>
      obtain ⟨k, hk, hg, rfl, HM, HB⟩ := hrel
      by_cases hlt : k < n.length
      · have hkz : (k : Int) < (n.length : Int) := by omega
        have hlm : k < m.length := by have := HL.out; omega
        obtain ⟨b1, o1, q1, d1, rfl, hI1, hc1⟩ := HOa.out k hlt
        obtain ⟨b2, o2, q2, d2, rfl, hI2, hc2⟩ := HOb.out k hlm
        obtain ⟨x0, x1, x2, x3⟩ := hc1 wr HB.out
        obtain ⟨y0, y1, y2, y3⟩ := hc2 wr HB.out
        have hn1 := HL1.out k hlt
        have hn2 := HL2.out k hlm
        have HM2 : Hid (n[k]! = m[k]! → ∀ j, j < k + 1 → n[j]! = m[j]!) := fun e j hj => by
          by_cases q : j = k
          · subst q; exact e
          · exact HM.out j (by omega)
        have HNo : Hid (n[k]! ≠ m[k]! → decide (n = m) = false) := fun e => decide_eq_false fun q => e (by rw [q])
        generalize n[k]! = x at *
        generalize m[k]! = y at *
        obtain ⟨xe, xf, xt, xl⟩ := x
        obtain ⟨ye, yf, yt, yl⟩ := y
        simp only at x0 x1 x2 x3 y0 y1 y2 y3 hI1 hI2 hn1 hn2
        have X0 := fun p => beh_cell x0 p
        have X1 := fun p => beh_cell x1 p
        have X2 := fun p => beh_cell x2 p
        have X3 := fun p => beh_cell x3 p
        have Y0 := fun p => beh_cell y0 p
        have Y1 := fun p => beh_cell y1 p
        have Y2 := fun p => beh_cell y2 p
        have Y3 := fun p => beh_cell y3 p
        have K1 : Hid (∀ p : Beh wr, Calls Try.prog 22 #[.agg #[.int .i64 xe, .int .i64 xf, .int .i64 xt, .slice q1 xl.length d1], .int .i64 ye, .int .i64 yf, .int .i64 yt] p.w (Ret (.bool (isZ xe xf xt ye yf yt)) p.w)) := fun p => HIs.out xe xf xt _ ye yf yt p.w
        have K2 : Hid (∀ p : Beh wr, Calls Try.prog 17 #[.slice q1 xl.length d1, .slice q2 yl.length d2] p.w (Ret (.bool (decide (xl = yl))) p.w)) := fun p => HSm.out xl yl _ _ p.w hn1 hn2 ((hI1.below HB.out).below p.h) ((hI2.below HB.out).below p.h)
        have HEq : Hid ((isZ xe xf xt ye yf yt = true ∧ decide (xl = yl) = true) ↔ (⟨xe, xf, xt, xl⟩ : BV) = ⟨ye, yf, yt, yl⟩) := by
          rw [Hid]
          unfold isZ
          rw [decide_eq_true_eq, decide_eq_true_eq]
          constructor
          · rintro ⟨⟨h0, h1, h2⟩, h3⟩; exact bv_eq h0 h1 h2 h3
          · intro h; injection h with h0 h1 h2 h3; exact ⟨⟨h0, h1, h2⟩, h3⟩
        clear hI1 hI2 hc1 hc2 x0 x1 x2 x3 y0 y1 y2 y3 hn1 hn2
        generalize isZ xe xf xt ye yf yt = c1 at *
        generalize decide (xl = yl) = c2 at *
        cases c1
        · have HN2 := Lib.hid (HNo.out fun e => by have := (HEq.out.2 e).1; cases this)
          clear HM2 HNo HEq
          go_wp2_with fail
          refine wp_region_beh (by kernel_rfl) (by kernel_rfl) ?_
          repeat (first | go_big_quiet_step (first | (with_reducible exact Calls.beh (K1.out _)) | (with_reducible exact Calls.beh (K2.out _))) | quiet_step (first | (with_reducible exact Calls.beh (K1.out _)) | (with_reducible exact Calls.beh (K2.out _))))
          refine wpQuiet_nil ?_
          intro _ hw'
          obtain ⟨g, hw''⟩ := hw'
          subst hw''
          have HB2 := Lib.hid (bcall HB.out g.h HB.out.size)
          clear X0 X1 X2 X3 Y0 Y1 Y2 Y3 K1 K2
          generalize g.w = wq at *
          clear g
          go_wp2
          go_returns
          exact ⟨ret_bool HN2.out.symm, HB2.out⟩
        · cases c2
          · have HN2 := Lib.hid (HNo.out fun e => by have := (HEq.out.2 e).2; cases this)
            clear HM2 HNo HEq
            go_wp2_with fail
            refine wp_region_beh (by kernel_rfl) (by kernel_rfl) ?_
            repeat (first | go_big_quiet_step (first | (with_reducible exact Calls.beh (K1.out _)) | (with_reducible exact Calls.beh (K2.out _))) | quiet_step (first | (with_reducible exact Calls.beh (K1.out _)) | (with_reducible exact Calls.beh (K2.out _))))
            refine wpQuiet_nil ?_
            intro _ hw'
            obtain ⟨g, hw''⟩ := hw'
            subst hw''
            have HB2 := Lib.hid (bcall HB.out g.h HB.out.size)
            clear X0 X1 X2 X3 Y0 Y1 Y2 Y3 K1 K2
            generalize g.w = wq at *
            clear g
            go_wp2
            go_returns
            exact ⟨ret_bool HN2.out.symm, HB2.out⟩
          · have HM3 := Lib.hid (HM2.out (HEq.out.1 ⟨rfl, rfl⟩))
            clear HM2 HNo HEq
            go_wp2_with fail
            refine wp_region_beh (by kernel_rfl) (by kernel_rfl) ?_
            repeat (first | go_big_quiet_step (first | (with_reducible exact Calls.beh (K1.out _)) | (with_reducible exact Calls.beh (K2.out _))) | quiet_step (first | (with_reducible exact Calls.beh (K1.out _)) | (with_reducible exact Calls.beh (K2.out _))))
            refine wpQuiet_nil ?_
            intro _ hw'
            obtain ⟨g, hw''⟩ := hw'
            subst hw''
            have HB2 := Lib.hid (bcall HB.out g.h HB.out.size)
            clear X0 X1 X2 X3 Y0 Y1 Y2 Y3 K1 K2
            generalize g.w = wq at *
            clear g
            go_wp2
            go_roundg (n.length - (k + 1))
            case measure => omega
            case rel => exact ⟨k + 1, by omega, by omega, by go_num, HM3.out, HB2.out⟩
      · obtain rfl : k = n.length := by omega
        have HE : Hid (decide (n = m) = true) := decide_eq_true (List.ext_getElem HL.out fun i h1 h2 => by
          have := HM.out i h1
          rwa [getElem!_pos n i h1, getElem!_pos m i h2] at this)
        go_wp2
        go_returns
        exact ⟨ret_bool HE.out.symm, HB.out⟩
  · have HN : Hid (decide (n = m) = false) := decide_eq_false fun q => hl (by rw [q])
    have hlb : ((n.length : Int) == (m.length : Int)) = false := by simp; omega
    clear HOa HOb HL1 HL2
    generalize n.length = n1 at *
    generalize m.length = n2 at *
    clear hl
    go_enter Try.func12, Try.ntmps12
    go_wp2
    go_returns
    exact ⟨ret_bool HN.out.symm, Below.refl _ _⟩
end Go.Proofs.Ytdgnblkoohakeaa
