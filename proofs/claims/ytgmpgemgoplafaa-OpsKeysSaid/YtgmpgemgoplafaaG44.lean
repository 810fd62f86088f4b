/- bag.Of -/
import Derived.Test.YtgmpgemgoplafaaG06
import Derived.Test.YtgmpgemgoplafaaG43
import Derived.Test.YtgmpgemgoplafaaG17
namespace Go.Proofs.Ytgmpgemgoplafaa
open Go.RowKit
set_option linter.unusedVariables false
set_option linter.unusedSimpArgs false
attribute [local go_sem ↓] eqRec neRec

theorem cells_set (acc : List IV) (c : IV) (n : Int) : (RI.cells (acc ++ [c])).set (acc.length * 3 + 2) (.int .i64 n) = RI.cells (acc ++ [⟨c.t, n⟩]) := by
  have hl : (RI.cells acc).length = acc.length * 3 := RI.cells_len acc
  rw [RI.cells_append, RI.cells_append, List.set_append_right _ _ (by omega), hl, show acc.length * 3 + 2 - acc.length * 3 = 2 by omega]
  rfl
theorem last_cells {B : Nat} {w : World} {v : Value} {acc : List IV} {c : IV} (h : RI.Own B w v (acc ++ [c])) : ∃ g cap, v = .slice (some ⟨g, 0, none⟩) (acc.length + 1) cap ∧ B ≤ g ∧ g < w.heap.size ∧
    (w.cell? ⟨g, acc.length * 3, none⟩ = some (.int .i64 c.t.k) ∧ w.cell? ⟨g, acc.length * 3 + 1, none⟩ = some (.int .i64 c.t.v) ∧ w.cell? ⟨g, acc.length * 3 + 2, none⟩ = some (.int .i64 c.n)) ∧ w.frozen? ⟨g, acc.length * 3 + 2, none⟩ = false ∧
    ∀ n, RI.Own B (w.setCell ⟨g, acc.length * 3 + 2, none⟩ (.int .i64 n)) v (acc ++ [⟨c.t, n⟩]) := by
  have hk := h
  have hlen : (acc ++ [c]).length = acc.length + 1 := by simp
  rcases hk.2 with ⟨_, hn⟩ | ⟨g, cap, cur, e, hB, hg, _⟩
  · simp at hn
  · rw [hlen] at e
    subst e
    have h' : w.ownsRow B RI.tE 3 (.slice (some ⟨g, 0, none⟩) (acc.length + 1) cap) (acc.length + 1) (RI.cells (acc ++ [c])) := by
      have hq := h
      unfold RowKind.Own at hq
      rw [hlen] at hq
      exact hq
    have hl : (RI.cells acc).length = acc.length * 3 := RI.cells_len acc
    have get : ∀ i, i < 3 → w.cell? ⟨g, acc.length * 3 + i, none⟩ = (IV.enc c)[i]? := fun i hi => by
      rw [World.ownsRow.cellAt h' (acc.length * 3 + i) (by omega), RI.cells_append, List.getElem?_append_right (by omega), hl, show acc.length * 3 + i - acc.length * 3 = i by omega]
      show (IV.enc c ++ [])[i]? = _
      rw [List.append_nil]
    refine ⟨g, cap, rfl, hB, (Array.getElem?_eq_some_iff.1 hg).1, ⟨get 0 (by omega), get 1 (by omega), get 2 (by omega)⟩, World.ownsRow.frozenAt h' _, fun n => ?_⟩
    have hs := (World.ownsRow.stored h' (acc.length * 3 + 2) (.int .i64 n)).1
    rw [cells_set] at hs
    unfold RowKind.Own
    rw [show (acc ++ [(⟨c.t, n⟩ : IV)]).length = acc.length + 1 by simp]
    exact hs
theorem perm_mem_take {ys : List RV} (hs : ys.Pairwise fun x y => y.lt x = false) (k : Nat) (hk : k < ys.length) : ∀ x ∈ ys.take k, (ys[k]!).lt x = false := by
  intro x hx
  obtain ⟨i, hi, rfl⟩ := List.mem_iff_getElem.1 hx
  have hi' : i < k := by rw [List.length_take] at hi; omega
  rw [List.getElem_take, getElem!_pos ys k hk]
  exact List.pairwise_iff_getElem.1 hs i k (by omega) hk hi'
set_option maxRecDepth 100000 in
set_option maxHeartbeats 8000000 in
theorem bof_any (xs : List RV) (v : Value) (w : World) (hl : xs.length ≤ 900000) (h : RR.Is w v xs) : Calls Try.prog 9 #[v] w (RI.Made (ofI xs) w) := by
  have HC := Lib.hid (bcloneR_any xs v w hl h)
  have HS := Lib.hid (fun (W : World) (u : Value) (hW : w.heap.size ≤ W.heap.size) (ho : RR.Own w.heap.size W u xs) => bsort_own w.heap.size u xs W ho hW hl)
  have HF := Lib.hid (fun (ys : List RV) (acc : List IV) (hp : ys.Perm xs) (ha : AccP ys acc) => acc_done (xs := xs) (by omega) hp ha)
  obtain ⟨p, c, rfl⟩ := h.slice
  clear h
  generalize ofI xs = res at *
  go_enter Try.func9, Try.ntmps9
  go_wp2_with fail
  refine (HC.out).mono ?_
  rintro e w1 ⟨u, rfl, hO, hB⟩
  have HS1 := Lib.hid (HS.out w1 u hB.size hO)
  have HB1 := Lib.hid hB
  clear hB hO HC HS
  go_wp2_with fail
  refine (HS1.out).mono ?_
  rintro e w2 ⟨rfl, ys, hp, hs, hO, hB⟩
  have HB2 := Lib.hid (HB1.out.trans hB)
  have HF2 := Lib.hid (fun acc ha => HF.out ys acc hp ha)
  have hyl : ys.length = xs.length := hp.length_eq
  have HP := Lib.hid (perm_mem_take hs)
  clear hB HS1 HF hp hs HB1
  rcases hO.is with ⟨rfl, q, cap, rfl, _⟩ | ⟨hne, b, off, cap, rfl, hb, hr⟩
  · have HR : Hid ([] = res) := HF2.out [] acc_nil
    clear hO
    go_wp2
    refine wp_loop_rounds 1 ?_
    rw [rounds_succ]
    go_wp2
    go_returns
    rw [← HR.out]
    exact ⟨_, rfl, RowKind.Own.nil RI _ _, HB2.out⟩
  · have hrow : Hid (∀ (W : World), Below w2.heap.size w2 W → ∀ j, j < ys.length → _) := fun W hW j hj => atR (hr.below hW hb) j hj
    clear hr hO hne
    generalize hn : ys.length = n at *
    have HN := Lib.hid hn
    clear hn
    have hln : n ≤ 900000 := by omega
    clear hyl
    go_wp2
    go_loopg [4, 14] n (fun gg v i wr => ∃ (k : Nat) (acc : List IV), k ≤ n ∧ n - k ≤ gg ∧ i = .int .i64 k ∧ Hid (Below w2.heap.size w2 wr) ∧ Hid (RI.Own w2.heap.size wr v acc) ∧ Hid (AccP (ys.take k) acc))
    case atStart => exact ⟨0, [], Nat.zero_le _, by omega, rfl, Below.refl _ _, RowKind.Own.nil RI _ _, acc_nil⟩
    case round =>
      obtain ⟨k, acc, hkn, hg, rfl, HB, HO, HA⟩ := hrel
      by_cases hlt : k < n
      · have hlz : (k : Int) < (n : Int) := by omega
        have hc := hrow.out wr HB.out k hlt
        have htl : (ys.take k).length = k := by rw [List.length_take, HN.out]; omega
        have hpos := HA.out.pos
        have hacl := HA.out.len
        have hst := acc_step (by rw [htl]; omega) HA.out (HP.out k hlt)
        rw [← take_getA ys k (by rw [HN.out]; exact hlt)] at hst
        rw [htl] at hpos hacl
        have HA2 := Lib.hid hst
        clear hst hrow htl
        generalize ys[k]! = y at hc HA2
        obtain ⟨e0, e1⟩ := hc
        have hz := HB.out.size
        have HBn := Lib.hid (HB.out.alloc hz (.cells #[.int .i64 y.k, .int .i64 y.v] 41))
        have HOn := Lib.hid (HO.out.alloc (.cells #[.int .i64 y.k, .int .i64 y.v] 41))
        have hbx0 : (wr.alloc (.cells #[.int .i64 y.k, .int .i64 y.v] 41)).cell? ⟨wr.heap.size, 0, none⟩ = some (.int .i64 y.k) := by simp
        have hbx1 : (wr.alloc (.cells #[.int .i64 y.k, .int .i64 y.v] 41)).cell? ⟨wr.heap.size, 1, none⟩ = some (.int .i64 y.v) := by simp
        rcases List.eq_nil_or_concat acc with rfl | ⟨acc', c, rfl⟩
        · obtain ⟨p3, c3, rfl⟩ := HO.out.is.slice
          have HA3 : Hid (AccP (ys.take (k + 1)) [⟨y, 1⟩]) := HA2.out
          clear HA HA2 HO HB
          replace hbx0 := fun p => beh_cell hbx0 p
          replace hbx1 := fun p => beh_cell hbx1 p
          simp only [List.length_nil] at *
          go_wp2_with fail
          refine wp_region_beh (by kernel_rfl) (by kernel_rfl) ?_
          repeat (first | go_big_quiet_step (fail) | quiet_step (fail))
          refine wpQuiet_nil ?_
          intro _ hw'
          obtain ⟨g, hw''⟩ := hw'
          subst hw''
          have HW := Lib.hid (HBn.out.trans (g.h.mono HBn.out.size))
          have HO2 := Lib.hid (HOn.out.below g.h)
          have b0 := hbx0 g
          have b1 := hbx1 g
          clear hbx0 hbx1 HBn HOn
          have hzz := HW.out.size
          generalize g.w = wq at *
          clear g
          go_wp2_with (at_builtin; refine RowKind.Own.push (R := RI) (y := ⟨y, 1⟩) HO2.out HW.out hzz rfl _ _ rfl rfl _ rfl (by simp) (Nat.le_refl _) ?_; intro v5 w5 hO5 hB5 hz5)
          go_roundg (n - (k + 1))
          case measure => omega
          case rel => exact ⟨k + 1, [(⟨y, 1⟩ : IV)], by omega, by omega, by go_num, hB5, hO5, HA3.out⟩
        · rw [List.concat_eq_append] at *
          have hcp := hpos c (by simp)
          obtain ⟨g, cap3, rfl, hgB, hgl, ⟨f0, f1, f2⟩, _, _⟩ := last_cells HOn.out
          have hml : acc'.length + 1 ≤ k := by simpa using hacl
          generalize hm : acc'.length = m at *
          have HM := Lib.hid hm
          clear hm
          clear HA hpos hacl HO HB
          replace hbx0 := fun p => beh_cell hbx0 p
          replace hbx1 := fun p => beh_cell hbx1 p
          replace f0 := fun p => beh_cell f0 p
          replace f1 := fun p => beh_cell f1 p
          clear f2
          have hm1 : ((m + 1 : Nat) : Int) - 1 = (m : Int) := by omega
          by_cases hq : c.t = y
          · subst hq
            have hqe : eqR ⟨c.t.k, c.t.v⟩ ⟨c.t.k, c.t.v⟩ = true := decide_eq_true rfl
            have HA3 : Hid (AccP (ys.take (k + 1)) (acc' ++ [⟨c.t, c.n + 1⟩])) := by
              have h := HA2.out
              rw [stepO_same] at h
              exact h
            clear HA2
            go_wp2_with fail
            refine wp_region_beh (by kernel_rfl) (by kernel_rfl) ?_
            repeat (first | go_big_quiet_step (fail) | quiet_step (fail))
            refine wpQuiet_nil ?_
            intro _ hw'
            obtain ⟨gg2, hw''⟩ := hw'
            subst hw''
            have HW := Lib.hid (HBn.out.trans (gg2.h.mono HBn.out.size))
            have HO2 := Lib.hid (HOn.out.below gg2.h)
            clear hbx0 hbx1 HBn HOn f0 f1 hqe
            generalize gg2.w = wq at *
            clear gg2
            obtain ⟨g', cap', eqv, hgB2, hgl2, ⟨d0, d1, d2⟩, dq, dset⟩ := last_cells HO2.out
            simp only [Value.slice.injEq, Option.some.injEq, Addr.mk.injEq, and_true, true_and] at eqv
            obtain ⟨rfl, _, rfl⟩ := eqv
            rw [HM.out] at d0 d1 d2 dq dset
            have HO3 := Lib.hid (dset (c.n + 1))
            have HW3 := Lib.hid (HW.out.setCell (p := ⟨g, m * 3 + 2, none⟩) hgB (.int .i64 (c.n + 1)))
            clear dset d0 d1 HO2 HW
            have hw1 : -9223372036854775808 ≤ c.n + 1 := by omega
            have hw2 : c.n + 1 ≤ 9223372036854775807 := by omega
            go_wp2
            go_roundg (n - (k + 1))
            case measure => omega
            case rel => exact ⟨k + 1, acc' ++ [(⟨c.t, c.n + 1⟩ : IV)], by omega, by omega, by go_num, HW3.out, HO3.out, HA3.out⟩
          · have hqe : eqR ⟨c.t.k, c.t.v⟩ ⟨y.k, y.v⟩ = false := decide_eq_false hq
            have HA3 : Hid (AccP (ys.take (k + 1)) ((acc' ++ [c]) ++ [⟨y, 1⟩])) := by
              have h := HA2.out
              rw [stepO_other _ _ hq] at h
              exact h
            have hpl : (acc' ++ [c]).length ≤ 900000 := by rw [List.length_append, HM.out]; simp; omega
            clear HA2 hq
            go_wp2_with fail
            refine wp_region_beh (by kernel_rfl) (by kernel_rfl) ?_
            repeat (first | go_big_quiet_step (fail) | quiet_step (fail))
            refine wpQuiet_nil ?_
            intro _ hw'
            obtain ⟨gg2, hw''⟩ := hw'
            subst hw''
            have HW := Lib.hid (HBn.out.trans (gg2.h.mono HBn.out.size))
            have HO2 := Lib.hid (HOn.out.below gg2.h)
            have b0 := hbx0 gg2
            have b1 := hbx1 gg2
            clear hbx0 hbx1 HBn HOn f0 f1 hqe
            have hzz := HW.out.size
            generalize gg2.w = wq at *
            clear gg2
            go_wp2_with (at_builtin; refine RowKind.Own.push (R := RI) (y := ⟨y, 1⟩) HO2.out HW.out hzz rfl _ _ rfl rfl _ rfl hpl (Nat.le_refl _) ?_; intro v5 w5 hO5 hB5 hz5)
            go_roundg (n - (k + 1))
            case measure => omega
            case rel => exact ⟨k + 1, (acc' ++ [c]) ++ [(⟨y, 1⟩ : IV)], by omega, by omega, by go_num, hB5, hO5, HA3.out⟩
      · have hlz : ¬ (k : Int) < (n : Int) := by omega
        have : k = n := by omega
        subst this
        have HX : Hid (RI.Own w2.heap.size wr u4 res) := by
          have h := HA.out
          rw [List.take_of_length_le (by rw [HN.out]; exact Nat.le_refl _)] at h
          show RI.Own _ _ _ _
          rw [← HF2.out acc h]
          exact HO.out
        clear HO hrow HA
        go_wp2
        go_returns
        exact ⟨_, rfl, HX.out.mono HB2.out.size, HB2.out.trans (HB.out.mono HB2.out.size)⟩
end Go.Proofs.Ytgmpgemgoplafaa
