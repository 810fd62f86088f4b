/- PathsLeast: the law's walk -/
import Derived.Test.YtedjbklejdcknaaG44
import Derived.Test.YtedjbklejdcknaaG16
namespace Go.Proofs.Ytedjbklejdcknaa
open Go.RowKit
set_option linter.unusedVariables false
set_option linter.unusedSimpArgs false
attribute [local go_sem ↓] loadHs run_imin
attribute [local go_sem] HV.enc

theorem least_like (l : List HV) : likeH (leastP l) (leastH l) = true := (leastP_of l).like (leastH_of l)
theorem least_any (l : List HV) {i : Nat} (hi : i < l.length) : (!(l[i]!).rightB || (leastP l).any fun x => leH x l[i]!) = true := by
  cases hr : (l[i]!).rightB
  · rfl
  · obtain ⟨h, hh, hl⟩ := (leastP_of l).cover l[i]! ⟨mem_get hi, hr⟩
    exact List.any_eq_true.2 ⟨h, hh, hl⟩
theorem any_to (f : HV → Bool) (l : List HV) (k : Nat) (hk : k < l.length) : (l.take (k + 1)).any f = ((l.take k).any f || f l[k]!) := by
  rw [List.take_succ_eq_append_getElem hk, List.any_append, getElem!_pos l k hk]
  simp
theorem is_elem {w : World} {v : Value} {xs : List HV} (h : RHp.Is w v xs) : ∃ p c, v = .slice p xs.length c ∧ ∀ W, Below w.heap.size w W → ∀ j, j < xs.length → ∃ b off, p = some ⟨b, off, none⟩ ∧ elemL W ⟨b, off + j * 11, none⟩ 0 11 = some (HV.enc xs[j]!) := by
  obtain ⟨p, c, e, ho⟩ := RowKind.Is.opened h
  refine ⟨p, c, e, fun W hW j hj => ?_⟩
  obtain ⟨b, off, e2, hb, hr⟩ := ho j hj
  exact ⟨b, off, e2, hop_elem hr hb hW j hj⟩
set_option maxRecDepth 100000 in
set_option maxHeartbeats 40000000 in
theorem pathsLeast_walk (ls : List HV) (va : Value) (w : World) (ha : RHp.Is w va ls) (ca : ∀ p n c, va = .slice p n c → n ≤ c) :
    Calls Try.prog 4 #[va] w (Ret (.bool true) w) := by
  have HA := Lib.hid (fun W => pawake W)
  obtain ⟨p, c, rfl⟩ := ha.slice
  have hcp := ca _ _ _ rfl
  obtain ⟨m, hm⟩ : ∃ m : Nat, imin (ls.length : Int) 60 = (m : Int) := ⟨if ls.length ≤ 60 then ls.length else 60, by unfold imin; split <;> split <;> omega⟩
  have hmn : m ≤ ls.length ∧ m ≤ 60 ∧ (m = 0 → ls.length = 0) := by
    unfold imin at hm
    split at hm <;> omega
  have hcut := ha.cut m hmn.1 hmn.2.2
  have hlen : (ls.take m).length = m := by rw [List.length_take]; omega
  have hl60 : m ≤ 60 := hmn.2.1
  have hmc : m ≤ c := by omega
  generalize hxs : ls.take m = xs at hcut hlen
  clear hxs ha ca
  have HI := Lib.hid hcut
  clear hcut
  have HP : Hid (∀ W, Below w.heap.size w W → Calls Try.prog 12 #[.slice p m c] W (RHp.Made (leastP xs) W)) := fun W hW => pleast_any xs _ W (by omega) (HI.out.below hW)
  have HD : Hid (∀ W, Below w.heap.size w W → Calls Try.prog 13 #[.slice p m c] W (RHp.Made (leastH xs) W)) := fun W hW => rleast_any xs _ W (by omega) (HI.out.below hW)
  have hln : ls.length = ls.length := rfl
  obtain ⟨hmn1, _, _⟩ := hmn
  generalize ls.length = n at *
  go_enter Try.func4, Try.ntmps4
  go_wp2_with fail
  refine (HA.out _).mono ?_
  rintro e w1 ⟨rfl, hb1⟩
  have HB1 := Lib.hid hb1
  clear hb1 HA
  go_wp2_with fail
  refine (HP.out _ HB1.out).mono ?_
  rintro e w2 ⟨v2, rfl, ho2, hb2⟩
  have HB2 := Lib.hid (bstep HB1.out hb2 HB1.out.size)
  have HI2 := Lib.hid ho2.is
  clear ho2 hb2 HP HB1
  go_wp2_with fail
  refine (HD.out _ HB2.out).mono ?_
  rintro e w3 ⟨v3, rfl, ho3, hb3⟩
  have HB3 := Lib.hid (bstep HB2.out hb3 HB2.out.size)
  have HI3 := Lib.hid (HI2.out.below hb3)
  have HJ3 := Lib.hid ho3.is
  clear ho3 hb3 HD HB2 HI2
  have hL1 : (leastP xs).length ≤ 60 := by have := leastP_len xs; omega
  have hL2 : (leastH xs).length ≤ 60 := by have := leastK_len xs xs.length; show (leastK xs xs.length).length ≤ 60; omega
  have HLk : Hid (Calls Try.prog 11 #[v2, v3] w3 (Ret (.bool true) w3)) := by
    have q := rlike_any (leastP xs) (leastH xs) v2 v3 w3 (by omega) (by omega) HI3.out HJ3.out
    rw [least_like] at q
    exact q
  obtain ⟨p2, c2, hv2⟩ := HI3.out.slice
  subst hv2
  obtain ⟨p3, c3, hv3⟩ := HJ3.out.slice
  subst hv3
  go_wp2_with fail
  refine (HLk.out).mono ?_
  rintro e w4 ⟨rfl, hb4⟩
  have HB4 := Lib.hid (bstep HB3.out hb4 HB3.out.size)
  have HI4 := Lib.hid (HI3.out.below hb4)
  clear hb4 HLk HJ3 HI3 HB3 hL2
  go_wp2
  obtain ⟨pq, cq, e1, HE⟩ := is_elem HI.out
  obtain ⟨pr, cr, e2, HF⟩ := is_elem HI4.out
  simp only [Value.slice.injEq] at e1 e2
  obtain ⟨rfl, hx1, rfl⟩ := e1
  obtain ⟨rfl, hx2, rfl⟩ := e2
  clear hx1 hx2
  have HEl := Lib.hid HE
  have HFl := Lib.hid HF
  have HAny : Hid (∀ i, i < xs.length → (!(xs[i]!).rightB || (leastP xs).any fun x => leH x xs[i]!) = true) := fun i hi => least_any xs hi
  clear HE HF HI HI4
  generalize leastP xs = us at *
  generalize hna : us.length = na at *
  have HNa := Lib.hid hna
  have HXl := Lib.hid hlen
  clear hna hlen
  go_loopg [5] m (fun gg iv wr => ∃ i : Nat, i ≤ m ∧ m - i ≤ gg ∧ iv = .int .i64 (i : Int) ∧ Hid (Below w4.heap.size w4 wr))
  case atStart => exact ⟨0, Nat.zero_le _, by omega, rfl, Below.refl _ _⟩
  case round =>
    obtain ⟨i, him, hgg, rfl, HB⟩ := hrel
    obtain ⟨wo, rfl⟩ : ∃ wo : World, wo = wr := ⟨_, rfl⟩
    by_cases hlt : i < m
    · have hlz : (i : Int) < (m : Int) := by omega
      have hix : i < xs.length := by rw [HXl.out]; exact hlt
      have HBw := Lib.hid (bstep HB4.out HB.out HB4.out.size)
      have HEi : Hid (∀ W, Below w.heap.size w W → ∃ b off, p = some ⟨b, off, none⟩ ∧ elemL W ⟨b, off + i * 11, none⟩ 0 11 = some (HV.enc xs[i]!)) := fun W hW => HEl.out W hW i hix
      have hany := HAny.out i hix
      generalize xs[i]! = y at *
      have HAn := Lib.hid hany
      have HRt : Hid (∀ W, Calls Try.prog 14 #[y.val] W (Ret (.bool y.rightB) W)) := fun W => jright_is (h := y) rfl W
      have HLe := Lib.hid (fun z W => jle_any z y W)
      clear hany hix
      generalize y.rightB = r at *
      obtain ⟨b, off, rfl, E1⟩ := HEi.out wo HBw.out
      go_wp2_with fail
      refine (HRt.out _).mono ?_
      rintro e w5 ⟨rfl, hb5⟩
      have HB5 := Lib.hid (bstep HB.out hb5 HB.out.size)
      clear hb5 E1 HRt HBw
      go_wp2
      go_loopg [6, 7] na (fun gg bv kv wr => ∃ k : Nat, k ≤ na ∧ na - k ≤ gg ∧ kv = .int .i64 (k : Int) ∧ bv = .bool (!r || (us.take k).any fun x => leH x y) ∧ Hid (Below w4.heap.size w4 wr))
      case atStart => exact ⟨0, Nat.zero_le _, by omega, rfl, by simp, HB5.out⟩
      case round =>
        obtain ⟨k, hkn, hg2, rfl, rfl, HBk⟩ := hrel
        by_cases hlk : k < na
        · have hlkz : (k : Int) < (na : Int) := by omega
          have hkx : k < us.length := by rw [HNa.out]; exact hlk
          have hst := any_to (fun x => leH x y) us k hkx
          obtain ⟨b2, off2, rfl, E2⟩ := HFl.out wr HBk.out k (by first | exact hlk | exact hkx)
          obtain ⟨b', off', e', E1⟩ := HEi.out wr (bstep HB4.out HBk.out HB4.out.size)
          simp only [Option.some.injEq, Addr.mk.injEq, and_true] at e'
          obtain ⟨rfl, rfl⟩ := e'
          have HLk := Lib.hid (HLe.out us[k]!)
          generalize us[k]! = z at *
          generalize hq1 : (us.take (k + 1)).any (fun x => leH x y) = q1 at *
          generalize (us.take k).any (fun x => leH x y) = q0 at *
          generalize leH z y = lz at *
          have HQ1 := Lib.hid hq1
          have HSt := Lib.hid hst
          clear hq1 hst hkx
          cases hs : (!r || q0)
          · have hq : (!r || q1) = lz := by
              rw [HSt.out]
              cases r <;> cases q0 <;> simp_all
            have HQ := Lib.hid hq
            clear hq hs
            have x0 := fun p : Bx wr => bx_cell (elem_cells E2).1 p
            have x1 := fun p : Bx wr => bx_cell (elem_cells E2).2.1 p
            have x2 := fun p : Bx wr => bx_cell (elem_cells E2).2.2.1 p
            have x3 := fun p : Bx wr => bx_cell (elem_cells E2).2.2.2.1 p
            have x4 := fun p : Bx wr => bx_cell (elem_cells E2).2.2.2.2.1 p
            have x5 := fun p : Bx wr => bx_cell (elem_cells E2).2.2.2.2.2.1 p
            have x6 := fun p : Bx wr => bx_cell (elem_cells E2).2.2.2.2.2.2.1 p
            have x7 := fun p : Bx wr => bx_cell (elem_cells E2).2.2.2.2.2.2.2.1 p
            have x8 := fun p : Bx wr => bx_cell (elem_cells E2).2.2.2.2.2.2.2.2.1 p
            have x9 := fun p : Bx wr => bx_cell (elem_cells E2).2.2.2.2.2.2.2.2.2.1 p
            have x10 := fun p : Bx wr => bx_cell (elem_cells E2).2.2.2.2.2.2.2.2.2.2 p
            have z0 := fun p : Bx wr => bx_cell (elem_cells E1).1 p
            have z1 := fun p : Bx wr => bx_cell (elem_cells E1).2.1 p
            have z2 := fun p : Bx wr => bx_cell (elem_cells E1).2.2.1 p
            have z3 := fun p : Bx wr => bx_cell (elem_cells E1).2.2.2.1 p
            have z4 := fun p : Bx wr => bx_cell (elem_cells E1).2.2.2.2.1 p
            have z5 := fun p : Bx wr => bx_cell (elem_cells E1).2.2.2.2.2.1 p
            have z6 := fun p : Bx wr => bx_cell (elem_cells E1).2.2.2.2.2.2.1 p
            have z7 := fun p : Bx wr => bx_cell (elem_cells E1).2.2.2.2.2.2.2.1 p
            have z8 := fun p : Bx wr => bx_cell (elem_cells E1).2.2.2.2.2.2.2.2.1 p
            have z9 := fun p : Bx wr => bx_cell (elem_cells E1).2.2.2.2.2.2.2.2.2.1 p
            have z10 := fun p : Bx wr => bx_cell (elem_cells E1).2.2.2.2.2.2.2.2.2.2 p
            go_wp2_with fail
            refine wp_region_bx (by kernel_rfl) (by kernel_rfl) ?_
            repeat (first | go_big_quiet_step (first | (with_reducible exact Calls.bx (HLk.out _)) | fail) | quiet_step (first | (with_reducible exact Calls.bx (HLk.out _)) | fail))
            refine wpQuiet_nil ?_
            intro _ hw'
            obtain ⟨g9, hw''⟩ := hw'
            subst hw''
            have HB9 := Lib.hid (bstep HBk.out g9.h HBk.out.size)
            generalize g9.w = w9 at HB9 ⊢
            clear E1 E2 x0 z0 x1 z1 x2 z2 x3 z3 x4 z4 x5 z5 x6 z6 x7 z7 x8 z8 x9 z9 x10 z10
            go_wp2
            go_roundg (na - (k + 1))
            case measure => omega
            case rel => exact ⟨k + 1, by omega, by omega, by go_num, by rw [HQ1.out, HQ.out], HB9.out⟩
          · have hq : (!r || q1) = true := by
              rw [HSt.out]
              cases r <;> cases q0 <;> simp_all
            have HQ := Lib.hid hq
            clear hq hs E1 E2
            go_wp2_with fail
            refine wp_region_bx (by kernel_rfl) (by kernel_rfl) ?_
            repeat (first | go_big_quiet_step (first | fail) | quiet_step (first | fail))
            refine wpQuiet_nil ?_
            intro _ hw'
            obtain ⟨g9, hw''⟩ := hw'
            subst hw''
            have HB9 := Lib.hid (bstep HBk.out g9.h HBk.out.size)
            generalize g9.w = w9 at HB9 ⊢
            go_wp2
            go_roundg (na - (k + 1))
            case measure => omega
            case rel => exact ⟨k + 1, by omega, by omega, by go_num, by rw [HQ1.out, HQ.out], HB9.out⟩
        · have hlkz : ¬ (k : Int) < (na : Int) := by omega
          obtain rfl : k = na := by omega
          have hall : (!r || (us.take k).any fun x => leH x y) = true := by rw [← HNa.out, List.take_length]; exact HAn.out
          rw [hall]
          clear hall
          go_wp2
          go_roundg (m - (i + 1))
          case measure => omega
          case rel => exact ⟨i + 1, by omega, by omega, by go_num, HBk.out⟩
    · have hlz : ¬ (i : Int) < (m : Int) := by omega
      go_wp2
      go_returns
      exact ⟨rfl, bstep HB4.out HB.out HB4.out.size⟩
end Go.Proofs.Ytedjbklejdcknaa
