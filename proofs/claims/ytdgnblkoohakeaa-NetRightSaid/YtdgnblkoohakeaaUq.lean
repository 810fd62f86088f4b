/- the program's Right -/
import Derived.Test.YtdgnblkoohakeaaUo
import Derived.Test.YtdgnblkoohakeaaUp
namespace Go.Proofs.Ytdgnblkoohakeaa
open Go.RowKit
set_option linter.unusedVariables false
set_option linter.unusedSimpArgs false

theorem ordB_not {a b : BV} : decide (0 ≤ ordB a b) = !aheadB a b := by
  rw [Bool.eq_iff_iff, decide_eq_true_eq, Bool.not_eq_true', ← Bool.not_eq_true, ← ordB_lt]
  omega
set_option maxRecDepth 100000 in
set_option maxHeartbeats 16000000 in
theorem pright_any (n : List BV) (v : Value) (w : World) (hl : n.length ≤ 900000) (h : IsBs w v n) : Calls Try.prog 10 #[v] w (Ret (.bool (rightN n)) w) := by
  obtain ⟨p, c, rfl, ho⟩ := h.opened
  have HO := Lib.hid ho
  have HA := Lib.hid (fun a1 a2 a3 a4 b1 b2 b3 b4 W => uorder_any a1 a2 a3 a4 b1 b2 b3 b4 W)
  clear h ho
  go_enter Try.func10, Try.ntmps10
  go_wp2
  go_loopg [7] n.length (fun gg i wr => ∃ k : Nat, k ≤ n.length ∧ n.length - k ≤ gg ∧ i = .int .i64 (k : Int) ∧ Hid (Below w.heap.size w wr) ∧ Hid (upB n k = true))
  case atStart => exact ⟨0, Nat.zero_le _, by omega, rfl, Below.refl _ _, upB_zero _⟩
  case round =>
    obtain ⟨k, hkn, hg, rfl, HB, HU⟩ := hrel
    by_cases hlt : k < n.length
    · have hlz : (k : Int) < (n.length : Int) := by omega
      obtain ⟨b, off, q, d, rfl, hI, hc⟩ := HO.out k hlt
      obtain ⟨e0, e1, e2, e3⟩ := hc wr HB.out
      have HPrev : Hid (∀ k', k = k' + 1 → ∀ W, Below w.heap.size w W → W.cell? ⟨b, off + k' * 4, none⟩ = some (.int .i64 (n[k']!).e) ∧ W.cell? ⟨b, off + k' * 4 + 1, none⟩ = some (.int .i64 (n[k']!).f) ∧ W.cell? ⟨b, off + k' * 4 + 2, none⟩ = some (.int .i64 (n[k']!).t) ∧ ∃ q' l' d', W.cell? ⟨b, off + k' * 4 + 3, none⟩ = some (.slice q' l' d')) := fun k' e W hW => by
        obtain ⟨b', off', q', d', e', _, hc'⟩ := HO.out k' (by omega)
        simp only [Option.some.injEq, Addr.mk.injEq, and_true] at e'
        obtain ⟨rfl, rfl⟩ := e'
        have x := hc' W hW
        exact ⟨x.1, x.2.1, x.2.2.1, q', _, d', x.2.2.2⟩
      have HK := Lib.hid (fun W hW => pokB_any (n[k]!).e (n[k]!).f (n[k]!).t q d (n[k]!).l W (hI.below hW))
      have HNo1 := Lib.hid (fun h => rightN_no_ok (n := n) (k := k) hlt h)
      have HNo2 := Lib.hid (fun h => rightN_no_lt (n := n) (k := k) hlt h)
      have HUp := Lib.hid (fun h => upB_succ (n := n) (k := k) HU.out h)
      have HOrd := Lib.hid (fun a : BV => ordB_not (a := a) (b := n[k]!))
      generalize hx : n[k]! = x at *
      obtain ⟨xe, xf, xt, xl⟩ := x
      simp only at e0 e1 e2 e3 hI
      have HK := Lib.hid HK.out
      simp only at HK
      clear hI hx HU hc
      go_upto_region 4 with (fail)
      refine gen_world (fun W3 => Below wr.heap.size wr W3 ∧ Boxed W3 wr.heap.size #[.int .i64 xe, .int .i64 xf, .int .i64 xt, .slice q xl.length d] 34) ⟨by first | exact (Below.refl _ _).alloc (Nat.le_refl _) _ | go_grown, by first | exact heap_alloc_new _ _ | skip⟩ ?_
      rintro w3 ⟨hb3, hx3⟩
      have HBw := Lib.hid (bcall HB.out hb3 HB.out.size)
      have HX := Lib.hid hx3
      have b0 : w3.cell? ⟨wr.heap.size, 0, none⟩ = some (.int .i64 xe) := hx3.cell 0
      have b1 : w3.cell? ⟨wr.heap.size, 1, none⟩ = some (.int .i64 xf) := hx3.cell 1
      have b2 : w3.cell? ⟨wr.heap.size, 2, none⟩ = some (.int .i64 xt) := hx3.cell 2
      have b3 : w3.cell? ⟨wr.heap.size, 3, none⟩ = some (.slice q xl.length d) := hx3.cell 3
      generalize wr.heap.size = bx at *
      clear e0 e1 e2 e3 hb3 hx3 HB
      go_wp2_with fail
      refine (HK.out _ HBw.out).mono ?_
      rintro e w4 ⟨rfl, hb4⟩
      have HB4 := Lib.hid (bcall HBw.out hb4 HBw.out.size)
      have HX4 := Lib.hid (HX.out.below hb4 HX.out.lt)
      clear b0 b1 b2 b3 hb4 HX HBw HK
      cases hok : okB ⟨xe, xf, xt, xl⟩
      · have HR := Lib.hid (HNo1.out hok)
        clear hok HNo1 HNo2 HUp HOrd
        go_wp2
        go_returns
        exact ⟨ret_bool HR.out.symm, HB4.out⟩
      · have HUp2 := Lib.hid (HUp.out hok)
        clear HNo1 HUp
        by_cases hk0 : k = 0
        · subst hk0
          have HU3 := Lib.hid (HUp2.out (fun q => absurd q (by omega)))
          have d5 : decide ((0 : Int) < ((0 : Nat) : Int)) = false := rfl
          clear hok HNo2 HUp2 HOrd
          go_wp2_with fail
          refine wp_region_beh (by kernel_rfl) (by kernel_rfl) ?_
          repeat (first | go_big_quiet_step (first | (with_reducible exact Calls.beh (HA.out _ _ _ _ _ _ _ _ _))) | quiet_step (first | (with_reducible exact Calls.beh (HA.out _ _ _ _ _ _ _ _ _))))
          refine wpQuiet_nil ?_
          intro _ hw'
          obtain ⟨g, hw''⟩ := hw'
          subst hw''
          have HBg := Lib.hid (bcall HB4.out g.h HB4.out.size)
          generalize g.w = wq at *
          clear g
          go_wp2
          go_roundg (n.length - (0 + 1))
          case measure => omega
          case rel => exact ⟨0 + 1, by omega, by omega, by go_num, HBg.out, HU3.out⟩
        · obtain ⟨k', rfl⟩ : ∃ k', k = k' + 1 := ⟨k - 1, by omega⟩
          obtain ⟨p0, p1, p2, q', l', d', p3⟩ := HPrev.out k' rfl w4 HB4.out
          have hOr := HOrd.out n[k']!
          have HN2 : Hid (aheadB n[k']! ⟨xe, xf, xt, xl⟩ = false → rightN n = false) := fun q => HNo2.out (by omega) q
          have HU3 : Hid (aheadB n[k']! ⟨xe, xf, xt, xl⟩ = true → upB n (k' + 1 + 1) = true) := fun q => HUp2.out fun _ => q
          have HAq0 := HA.out (n[k']!).e (n[k']!).f (n[k']!).t (.slice q' l' d') xe xf xt (.slice q xl.length d)
          unfold ordB at hOr
          simp only at hOr
          generalize ordU (n[k']!).e (n[k']!).f (n[k']!).t xe xf xt = o at hOr HAq0
          generalize aheadB n[k']! ⟨xe, xf, xt, xl⟩ = ab at *
          generalize n[k']! = y at *
          have P0 := fun p => beh_cell p0 p
          have P1 := fun p => beh_cell p1 p
          have P2 := fun p => beh_cell p2 p
          have P3 := fun p => beh_cell p3 p
          have B0 := fun p => beh_cell (show w4.cell? ⟨bx, 0, none⟩ = some (.int .i64 xe) from HX4.out.cell 0) p
          have B1 := fun p => beh_cell (show w4.cell? ⟨bx, 1, none⟩ = some (.int .i64 xf) from HX4.out.cell 1) p
          have B2 := fun p => beh_cell (show w4.cell? ⟨bx, 2, none⟩ = some (.int .i64 xt) from HX4.out.cell 2) p
          have B3 := fun p => beh_cell (show w4.cell? ⟨bx, 3, none⟩ = some (.slice q xl.length d) from HX4.out.cell 3) p
          have HAq := Lib.hid (fun p : Beh w4 => HAq0 p.w)
          have d5 : decide ((0 : Int) < ((k' + 1 : Nat) : Int)) = true := decide_eq_true (by omega)
          have hkn' : (k' : Int) < (n.length : Int) := by omega
          clear p0 p1 p2 p3 hok HNo2 HUp2 HOrd HPrev HA HAq0 HX4
          cases ab
          · have HR := Lib.hid (HN2.out rfl)
            clear HN2 HU3
            go_wp2_with fail
            refine wp_region_beh (by kernel_rfl) (by kernel_rfl) ?_
            repeat (first | go_big_quiet_step (first | (with_reducible exact Calls.beh (HAq.out _))) | quiet_step (first | (with_reducible exact Calls.beh (HAq.out _))))
            refine wpQuiet_nil ?_
            intro _ hw'
            obtain ⟨g, hw''⟩ := hw'
            subst hw''
            have HBg := Lib.hid (bcall HB4.out g.h HB4.out.size)
            generalize g.w = wq at *
            clear g
            go_wp2
            go_returns
            exact ⟨ret_bool HR.out.symm, HBg.out⟩
          · have HU4 := Lib.hid (HU3.out rfl)
            clear HN2 HU3
            go_wp2_with fail
            refine wp_region_beh (by kernel_rfl) (by kernel_rfl) ?_
            repeat (first | go_big_quiet_step (first | (with_reducible exact Calls.beh (HAq.out _))) | quiet_step (first | (with_reducible exact Calls.beh (HAq.out _))))
            refine wpQuiet_nil ?_
            intro _ hw'
            obtain ⟨g, hw''⟩ := hw'
            subst hw''
            have HBg := Lib.hid (bcall HB4.out g.h HB4.out.size)
            generalize g.w = wq at *
            clear g
            go_wp2
            go_roundg (n.length - (k' + 1 + 1))
            case measure => omega
            case rel => exact ⟨k' + 1 + 1, by omega, by omega, by go_num, HBg.out, HU4.out⟩
    · obtain rfl : k = n.length := by omega
      have HR : Hid (rightN n = true) := HU.out
      go_wp2
      go_returns
      exact ⟨ret_bool HR.out.symm, HB.out⟩
end Go.Proofs.Ytdgnblkoohakeaa
