import Derived.Test.YtfkjlcmmmmjbkaaCl
namespace Go.Proofs.Ytfkjlcmmmmjbkaa
open Go.RowKit
set_option linter.unusedVariables false
set_option linter.unusedSimpArgs false
attribute [local go_sem ↓] eqTime neTime run_imin

/- the law ChainLowest -/
theorem lt_lt {X : List TV} (h : strict X) {i k : Nat} (hk : k < i) (hi : i < X.length) : (X[k]!).lt X[i]! = true := by
  have := (List.pairwise_iff_getElem.1 h k i (by omega) hi hk).1
  rwa [getElem!_pos X k (by omega), getElem!_pos X i hi]
theorem le_apart {X : List TV} (h : strict X) {i k : Nat} (hk : k < X.length) (hi : i < X.length) (hne : k ≠ i) : (X[k]!).le X[i]! = false := by
  cases q : (X[k]!).le X[i]!
  · rfl
  · exfalso
    rcases Nat.lt_or_gt_of_ne hne with hl | hl
    · have := (List.pairwise_iff_getElem.1 h k i hk hi hl).2
      rw [getElem!_pos X k hk, getElem!_pos X i hi] at q
      rw [q] at this
      cases this
    · have h1 := ((TV.lt_iff _ _).1 (lt_lt h hl hk)).2.2
      have h2 := TV.le_key q
      omega
/-- in one of the first k of l -/
def seen (l : List TV) (k : Nat) (x : TV) : Bool := decide (x ∈ l.take k)
theorem seen_zero (l : List TV) (x : TV) : seen l 0 x = false := by simp [seen]
theorem seen_succ {l : List TV} {k : Nat} (hk : k < l.length) (x : TV) : seen l (k + 1) x = (seen l k x || eqT l[k]! x) := by
  rw [Bool.eq_iff_iff]
  simp only [seen, eqT, take_get l k hk, decide_eq_true_eq, Bool.or_eq_true, List.mem_append, List.mem_singleton]
  exact ⟨fun h => h.elim .inl (fun e => .inr e.symm), fun h => h.elim .inl (fun e => .inr e.symm)⟩
theorem seen_all {l : List TV} {x : TV} (h : x ∈ l) : seen l l.length x = true := by simp [seen, h]
set_option maxRecDepth 100000 in
set_option maxHeartbeats 16000000 in
theorem chainLowest_walk (ls : List TV) (t : TV) (va : Value) (w : World) (ha : IsT w va ls) (ca : capOk va) :
    Calls Try.prog 9 #[va, t.val] w (Ret (.bool true) w) := by
  obtain ⟨p1, c1, rfl⟩ := ha.slice
  have k1 := ca _ _ _ rfl
  clear ca
  generalize ls.length = n1 at *
  have HA := Lib.hid ha
  clear ha
  obtain ⟨m1, e1, l1, h1, z1⟩ := cutn_ok n1
  have d1 : m1 ≤ c1 := by omega
  have hmn : (ls.take m1).length ≤ 100 := by rw [List.length_take]; omega
  have HA2 := Lib.hid (HA.out.cut m1 l1 z1)
  clear l1 z1 HA k1
  have HAW := Lib.hid chainAwake
  go_enter Try.func9, Try.ntmps9
  go_wp2_with fail
  refine (HAW.out _).mono ?_
  rintro e w1 ⟨rfl, hb1⟩
  have hBx := (BoxT.new w t 26).below hb1
  have HA3 := Lib.hid ((HA2.out.below ((Below.refl _ w).alloc (Nat.le_refl _) (.cells #[.int .i64 t.d, .int .i64 t.c0, .int .i64 t.c1, .int .i64 t.c2, .int .i64 t.c3] 26))).below hb1)
  have HW1 := Lib.hid (((Below.refl _ w).alloc (Nat.le_refl _) (.cells #[.int .i64 t.d, .int .i64 t.c0, .int .i64 t.c1, .int .i64 t.c2, .int .i64 t.c3] 26)).trans (hb1.mono (by simp)))
  have HX1 := Lib.hid hBx
  clear hb1 hBx HAW HA2
  generalize ls.take m1 = L at *
  have HLn := Lib.hid hmn
  have HOF := Lib.hid (of_any L _ w1 (by have := HLn.out; omega) HA3.out)
  clear hmn
  go_wp2_with fail
  refine (HOF.out).mono ?_
  rintro e w2 ⟨u, rfl, hO, hB⟩
  have HC2 := Lib.hid hO.is
  obtain ⟨p2, c2, rfl⟩ := hO.is.slice
  have HL2 := Lib.hid (HA3.out.below hB)
  have hX2 := HX1.out.below hB
  have HW2 := Lib.hid (HW1.out.trans (hB.mono HW1.out.size))
  clear hO hB HOF HA3 HX1 HW1
  have HCn : Hid ((ofT L).length ≤ 100) := Nat.le_trans (ofT_length L) HLn.out
  have HQ1 : Hid (∀ p : Beh w2, Calls Try.prog 36 #[.slice p2 (ofT L).length c2, t.val] p.w (Ret (.bool (cov L t)) p.w)) := fun p => by
    have q := covers_any (ofT L) t _ p.w (Nat.le_trans HCn.out (by decide)) (HC2.out.below p.h)
    rw [ofT_cov] at q
    exact q
  have HQ2 : Hid (∀ p : Beh w2, Calls Try.prog 36 #[.slice p1 m1 c1, t.val] p.w (Ret (.bool (cov L t)) p.w)) := fun p => covers_any L t _ p.w (Nat.le_trans HLn.out (by decide)) (HL2.out.below p.h)
  have HQ3 : Hid (∀ p : Beh w2, Calls Try.prog 38 #[.slice p2 (ofT L).length c2] p.w (Ret (.bool true) p.w)) := fun p => by
    have q := chainRight_any (ofT L) _ p.w (Nat.le_trans HCn.out (by decide)) (HC2.out.below p.h)
    rw [chainRight_of] at q
    exact q
  have HS : Hid (strict (ofT L)) := ofT_strict L
  have HM : Hid (∀ x, x ∈ ofT L → x ∈ L) := fun x hx => (ofT_mem hx).1
  generalize ofT L = C at *
  generalize cov L t = q at *
  generalize hx : C.length = n at *
  have HN := Lib.hid hx
  clear hx
  obtain ⟨⟨x0, x1, x2, x3, x4, y0, y1, y2, y3, y4⟩, hxl⟩ := hX2
  clear y0 y1 y2 y3 y4
  replace x0 := fun p => beh_cell x0 p
  replace x1 := fun p => beh_cell x1 p
  replace x2 := fun p => beh_cell x2 p
  replace x3 := fun p => beh_cell x3 p
  replace x4 := fun p => beh_cell x4 p
  have hqq : (q != q) = false := by cases q <;> rfl
  go_wp2_with fail
  refine wp_region_beh (by kernel_rfl) (by kernel_rfl) ?_
  repeat (first | go_big_quiet_step (first | (with_reducible exact Calls.beh (HQ1.out _)) | (with_reducible exact Calls.beh (HQ2.out _)) | (with_reducible exact Calls.beh (HQ3.out _))) | quiet_step (first | (with_reducible exact Calls.beh (HQ1.out _)) | (with_reducible exact Calls.beh (HQ2.out _)) | (with_reducible exact Calls.beh (HQ3.out _))))
  refine wpQuiet_nil ?_
  intro _ hw'
  obtain ⟨g, hw''⟩ := hw'
  subst hw''
  have HL3 := Lib.hid (HL2.out.below g.h); have HC3 := Lib.hid (HC2.out.below g.h)
  have HW3 := Lib.hid (HW2.out.trans (g.h.mono HW2.out.size))
  clear HQ1 HQ2 HQ3 HL2 HC2 HW2 x0 x1 x2 x3 x4 hxl
  generalize g.w = v at *
  clear g
  have HLm : Hid (L.length = m1) := by
    have h := HL3.out.slice
    obtain ⟨a, b, e⟩ := h
    simp only [Value.slice.injEq] at e
    exact e.2.1.symm
  have hn100 : n ≤ 100 := HCn.out
  go_wp2
  go_loopg [6] n (fun gg i wr => ∃ j : Nat, j ≤ n ∧ n - j ≤ gg ∧ i = .int .i64 j ∧ Hid (Below v.heap.size v wr))
  case atStart => exact ⟨0, Nat.zero_le _, by omega, rfl, Below.refl _ _⟩
  case round =>
    obtain ⟨j, hjn, hgj, rfl, HBo⟩ := hrel
    by_cases hlt : j < n
    · have hlz : (j : Int) < (n : Int) := by omega
      obtain ⟨wo, rfl⟩ : ∃ wo : World, wo = wr := ⟨_, rfl⟩
      rcases HC3.out with ⟨hX0, _⟩ | ⟨_, b, off, cap, e, hbl, hrow⟩
      · have := HN.out; rw [hX0] at this; simp at this; omega
      simp only [Value.slice.injEq] at e
      obtain ⟨rfl, hnx, rfl⟩ := e; clear hnx
      have hmem : C[j]! ∈ L := HM.out _ (by rw [getElem!_pos C j (by rw [HN.out]; exact hlt)]; exact List.getElem_mem _)
      have HSeen : Hid (seen L m1 C[j]! = true) := by
        have h := seen_all hmem
        rw [HLm.out] at h
        exact h
      rcases HL3.out with ⟨hX0, _⟩ | ⟨_, b2, off2, cap2, e, hbl2, hrow2⟩
      · rw [hX0] at hmem; cases hmem
      simp only [Value.slice.injEq] at e
      obtain ⟨rfl, hnx, rfl⟩ := e; clear hnx
      have HRow : Hid (∀ (W : World), Below v.heap.size v W → ∀ i, i < n → _) := fun W hW i hi => (hrow.below hW hbl).at i (by rw [HN.out]; exact hi)
      have HRow2 : Hid (∀ (W : World), Below v.heap.size v W → ∀ i, i < m1 → _) := fun W hW i hi => (hrow2.below hW hbl2).at i (by rw [HLm.out]; exact hi)
      clear hrow hrow2 hmem
      go_wp2
      go_loopg [7, 8] m1 (fun gg f i wr => ∃ k : Nat, k ≤ m1 ∧ m1 - k ≤ gg ∧ i = .int .i64 k ∧ f = .bool (seen L k C[j]!) ∧ Hid (Below v.heap.size v wr))
      case atStart => exact ⟨0, Nat.zero_le _, by omega, rfl, by rw [seen_zero], HBo.out⟩
      case round =>
        obtain ⟨k, hkm, hgk, rfl, rfl, HBi⟩ := hrel
        by_cases hlk : k < m1
        · have hlkz : (k : Int) < (m1 : Int) := by omega
          have hc := fun q => HRow.out (wr.drewN q) (below_drewN HBi.out q) j hlt
          have hc2 := fun q => HRow2.out (wr.drewN q) (below_drewN HBi.out q) k hlk
          have hsucc := seen_succ (l := L) (k := k) (by rw [HLm.out]; exact hlk) C[j]!
          generalize C[j]! = x at *
          generalize L[k]! = y at *
          have e0 := fun q => (hc q).1; have e1 := fun q => (hc q).2.1; have e2 := fun q => (hc q).2.2.1; have e3 := fun q => (hc q).2.2.2.1; have e4 := fun q => (hc q).2.2.2.2
          have f0 := fun q => (hc2 q).1; have f1 := fun q => (hc2 q).2.1; have f2 := fun q => (hc2 q).2.2.1; have f3 := fun q => (hc2 q).2.2.2.1; have f4 := fun q => (hc2 q).2.2.2.2
          clear hc hc2
          generalize seen L k x = s0 at *
          have HSu := Lib.hid hsucc
          clear hsucc
          cases s0
          · go_wp2_with fail
            go_quiet (fail)
            go_wp2
            go_roundg (m1 - (k + 1))
            case measure => omega
            case rel => exact ⟨k + 1, by omega, by omega, by go_num, by rw [HSu.out]; rfl, below_drewN HBi.out _⟩
          · go_wp2_with fail
            go_quiet (fail)
            go_wp2
            go_roundg (m1 - (k + 1))
            case measure => omega
            case rel => exact ⟨k + 1, by omega, by omega, by go_num, by rw [HSu.out]; rfl, below_drewN HBi.out _⟩
        · have hlkz : ¬ (k : Int) < (m1 : Int) := by omega
          obtain rfl : k = m1 := by omega
          have hs : seen L k C[j]! = true := HSeen.out
          rw [hs]
          clear hs HRow2 HSeen
          have HBi2 := HBi
          obtain ⟨wp, rfl⟩ : ∃ wp : World, wp = wr := ⟨_, rfl⟩
          go_wp2
          go_loopg [9] n (fun gg i wr => ∃ k : Nat, k ≤ n ∧ n - k ≤ gg ∧ i = .int .i64 k ∧ Hid (Below v.heap.size v wr))
          case atStart => exact ⟨0, Nat.zero_le _, by omega, rfl, HBi2.out⟩
          case round =>
            obtain ⟨i, hin, hgi, rfl, HBj⟩ := hrel
            by_cases hli : i < n
            · have hliz : (i : Int) < (n : Int) := by omega
              have hc := HRow.out wr HBj.out j hlt
              have hc2 := HRow.out wr HBj.out i hli
              have hle := fun (h : i ≠ j) => le_apart (X := C) HS.out (k := i) (i := j) (by rw [HN.out]; exact hli) (by rw [HN.out]; exact hlt) h
              have hls := fun (h : i < j) => lt_lt (X := C) HS.out (k := i) (i := j) h (by rw [HN.out]; exact hlt)
              have HLE := Lib.hid (fun (h : i ≠ j) (W : World) => show Calls Try.prog 28 #[(C[i]!).val, (C[j]!).val] W (Ret (.bool false) W) from by have q := tle_any C[i]! C[j]! W; rw [hle h] at q; exact q)
              have HLS := Lib.hid (fun (h : i < j) (W : World) => show Calls Try.prog 39 #[(C[i]!).val, (C[j]!).val] W (Ret (.bool true) W) from by have q := (lt_any C[i]! C[j]! W).mono (fun _ _ h => RetD.ret h); rw [hls h] at q; exact q)
              clear hle hls
              generalize C[j]! = x at *
              generalize C[i]! = y at *
              have e0 := fun p => beh_cell hc.1 p; have e1 := fun p => beh_cell hc.2.1 p; have e2 := fun p => beh_cell hc.2.2.1 p; have e3 := fun p => beh_cell hc.2.2.2.1 p; have e4 := fun p => beh_cell hc.2.2.2.2 p
              have f0 := fun p => beh_cell hc2.1 p; have f1 := fun p => beh_cell hc2.2.1 p; have f2 := fun p => beh_cell hc2.2.2.1 p; have f3 := fun p => beh_cell hc2.2.2.2.1 p; have f4 := fun p => beh_cell hc2.2.2.2.2 p
              clear hc hc2 HRow
              rcases Nat.lt_trichotomy i j with hij | hij | hij
              · have HLe := Lib.hid (HLE.out (by omega)); have HLs := Lib.hid (HLS.out hij)
                have hne : ((i : Int) != (j : Int)) = true := by simp; omega
                have hlj : (i : Int) < (j : Int) := by omega
                clear HLE HLS
                go_wp2_with fail
                refine wp_region_beh (by kernel_rfl) (by kernel_rfl) ?_
                repeat (first | go_big_quiet_step (first | (with_reducible exact Calls.beh (HLe.out _)) | (with_reducible exact Calls.beh (HLs.out _))) | quiet_step (first | (with_reducible exact Calls.beh (HLe.out _)) | (with_reducible exact Calls.beh (HLs.out _))))
                refine wpQuiet_nil ?_
                intro _ hw'
                obtain ⟨g, hw''⟩ := hw'
                subst hw''
                have HBk := Lib.hid (HBj.out.trans (g.h.mono HBj.out.size))
                clear e0 e1 e2 e3 e4 f0 f1 f2 f3 f4
                generalize g.w = wq at *
                clear g
                go_wp2
                go_roundg (n - (i + 1))
                case measure => omega
                case rel => exact ⟨i + 1, by omega, by omega, by go_num, HBk.out⟩
              · subst hij
                clear HLE HLS
                go_wp2_with fail
                refine wp_region_beh (by kernel_rfl) (by kernel_rfl) ?_
                repeat (first | go_big_quiet_step (fail) | quiet_step (fail))
                refine wpQuiet_nil ?_
                intro _ hw'
                obtain ⟨g, hw''⟩ := hw'
                subst hw''
                have HBk := Lib.hid (HBj.out.trans (g.h.mono HBj.out.size))
                clear e0 e1 e2 e3 e4 f0 f1 f2 f3 f4
                generalize g.w = wq at *
                clear g
                go_wp2
                go_roundg (n - (i + 1))
                case measure => omega
                case rel => exact ⟨i + 1, by omega, by omega, by go_num, HBk.out⟩
              · have HLe := Lib.hid (HLE.out (by omega)); have HLs : Hid (∀ (W : World), True) := fun _ => trivial
                have hne : ((i : Int) != (j : Int)) = true := by simp; omega
                have hlj : decide ((i : Int) < (j : Int)) = false := decide_eq_false (by omega)
                have hlj2 : ¬ (i : Int) < (j : Int) := by omega
                have hlj3 : ¬ i < j := by omega
                have hlj4 : decide (i < j) = false := decide_eq_false (by omega)
                have hlj5 : j ≤ i := by omega
                clear HLE HLS
                go_wp2_with fail
                refine wp_region_beh (by kernel_rfl) (by kernel_rfl) ?_
                repeat (first | go_big_quiet_step (first | (with_reducible exact Calls.beh (HLe.out _)) | (with_reducible exact Calls.beh (HLs.out _))) | quiet_step (first | (with_reducible exact Calls.beh (HLe.out _)) | (with_reducible exact Calls.beh (HLs.out _))))
                refine wpQuiet_nil ?_
                intro _ hw'
                obtain ⟨g, hw''⟩ := hw'
                subst hw''
                have HBk := Lib.hid (HBj.out.trans (g.h.mono HBj.out.size))
                clear e0 e1 e2 e3 e4 f0 f1 f2 f3 f4
                generalize g.w = wq at *
                clear g
                go_wp2
                go_roundg (n - (i + 1))
                case measure => omega
                case rel => exact ⟨i + 1, by omega, by omega, by go_num, HBk.out⟩
            · have hliz : ¬ (i : Int) < (n : Int) := by omega
              clear HRow
              go_wp2
              go_roundg (n - (j + 1))
              case measure => omega
              case rel => exact ⟨j + 1, by omega, by omega, by go_num, HBj.out⟩
    · have hlz : ¬ (j : Int) < (n : Int) := by omega
      have HX := Lib.hid (HW3.out.trans (HBo.out.mono HW3.out.size))
      go_wp2
      go_returns
      exact ⟨rfl, HX.out⟩
end Go.Proofs.Ytfkjlcmmmmjbkaa
