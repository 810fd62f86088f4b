import Derived.Test.YtboefmmpclmngaaFk
import Derived.Test.YtboefmmpclmngaaCh
import Derived.Deep.RegionHeldLaw
namespace Go.Proofs.Ytboefmmpclmngaa
open Go.RowKit
set_option linter.unusedVariables false
set_option linter.unusedSimpArgs false
attribute [local go_sem ↓] eqTime neTime run_imin

/- the law FrontLowest -/
theorem cutTo (b n : Nat) (hb : 0 < b) : ∃ m : Nat, imin (n : Int) (b : Int) = (m : Int) ∧ m ≤ n ∧ m ≤ b ∧ (m = 0 → n = 0) := by
  unfold imin
  split
  · exact ⟨b, rfl, by omega, by omega, by omega⟩
  · exact ⟨n, rfl, by omega, by omega, by omega⟩
def covN (f : List CV) (t : TV) (k : Nat) : Bool := cov (thereC (f.take k)) t
theorem covN_succ {f : List CV} {t : TV} {k : Nat} (hk : k < f.length) : covN f t (k + 1) = (covN f t k || (decide (0 < (f[k]!).n) && (f[k]!).t.le t)) := by
  unfold covN
  rw [there_take_succ hk, cov_append]
  generalize f[k]! = c
  by_cases h : 0 < c.n
  · rw [if_pos h, decide_eq_true h]
    simp [cov]
  · rw [if_neg h, decide_eq_false h]
    simp [cov]
theorem covN_all {f : List CV} {t : TV} (h : rightC f = true) : cov (frontC f) t = covN f t f.length := by
  unfold frontC covN
  rw [if_pos h, ofT_cov, List.take_of_length_le (Nat.le_refl _)]
theorem front_idem {f : List CV} : decide (frontC f = ofT (frontC f)) = true := by
  refine decide_eq_true ?_
  unfold frontC
  split
  · exact (ofT_idem _).symm
  · exact (List.eq_nil_of_length_eq_zero (Nat.le_zero.1 (ofT_length []))).symm
theorem front_length (f : List CV) : (frontC f).length ≤ f.length := by
  unfold frontC
  split
  · exact Nat.le_trans (ofT_length _) (there_length f)
  · simp
set_option maxRecDepth 100000 in
set_option maxHeartbeats 3000000 in
theorem frontLowest_walk (fs : List CV) (t : TV) (va : Value) (w : World) (ha : RC.Is w va fs) (ca : capOk va) :
    Calls Try.prog 6 #[va, t.val] w (Ret (.bool true) w) := by
  obtain ⟨p1, c1, rfl⟩ := ha.slice
  have k1 := ca _ _ _ rfl
  clear ca
  generalize fs.length = n1 at *
  have HA := Lib.hid ha
  clear ha
  obtain ⟨m1, e1, l1, h1, z1⟩ := cutTo 60 n1 (by decide)
  have e1 : imin (n1 : Int) 60 = (m1 : Int) := e1
  have d1 : m1 ≤ c1 := by omega
  have hmn : (fs.take m1).length ≤ 60 := by rw [List.length_take]; omega
  have HA2 := Lib.hid (HA.out.cut m1 l1 z1)
  have hlen : (fs.take m1).length = m1 := by
    obtain ⟨a, b, e⟩ := HA2.out.slice
    simp only [Value.slice.injEq] at e
    exact e.2.1.symm
  clear l1 z1 HA k1
  have HAW := Lib.hid frontAwake
  go_enter Try.func6, Try.ntmps6
  go_wp2_with fail
  refine (HAW.out _).mono ?_
  rintro e w1 ⟨rfl, hb1⟩
  have hBx := (BoxT.new w t 26).below hb1
  have HA3 := Lib.hid ((HA2.out.below ((Below.refl _ w).alloc (Nat.le_refl _) (.cells #[.int .i64 t.d, .int .i64 t.c0, .int .i64 t.c1, .int .i64 t.c2, .int .i64 t.c3] 26))).below hb1)
  have HW1 := Lib.hid (((Below.refl _ w).alloc (Nat.le_refl _) (.cells #[.int .i64 t.d, .int .i64 t.c0, .int .i64 t.c1, .int .i64 t.c2, .int .i64 t.c3] 26)).trans (hb1.mono (by simp)))
  have HX1 := Lib.hid hBx
  clear hb1 hBx HAW HA2
  generalize fs.take m1 = F at *
  have HLn := Lib.hid hlen
  have HR := Lib.hid (fun W (hW : Below w1.heap.size w1 W) => fright_any F (.slice p1 m1 c1) W (by omega) (HA3.out.below hW))
  have HFR := Lib.hid (fun W (hW : Below w1.heap.size w1 W) => frontier_any F (.slice p1 m1 c1) W (by omega) (HA3.out.below hW))
  have HNo : Hid (rightC F = false → frontC F = []) := fun h => by unfold frontC; rw [h]; rfl
  have HCv : Hid (rightC F = true → cov (frontC F) t = covN F t m1) := fun h => by rw [covN_all h, hlen]
  have HCs : Hid (∀ k, k < m1 → covN F t (k + 1) = (covN F t k || (decide (0 < (F[k]!).n) && (F[k]!).t.le t))) := fun k hk => covN_succ (by omega)
  have HC0 : Hid (covN F t 0 = false) := rfl
  have HFl : Hid ((frontC F).length ≤ 60) := Nat.le_trans (front_length F) hmn
  clear hlen hmn
  generalize hq : rightC F = q at *
  clear hq
  go_wp2_with fail
  refine (HR.out _ (Below.refl _ _)).mono ?_
  rintro e w2 ⟨rfl, hb2⟩
  have HB2 := Lib.hid hb2
  clear hb2 HR
  cases q
  · go_wp2_with fail
    refine (HFR.out _ HB2.out).mono ?_
    rintro e w3 ⟨v3, rfl, hO3, hb3⟩
    have hs := hO3.is.slice
    rw [HNo.out (by trivial)] at hs
    obtain ⟨p3, c3, rfl⟩ := hs
    have HW3 := Lib.hid (HW1.out.trans ((HB2.out.trans (hb3.mono HB2.out.size)).mono HW1.out.size))
    clear hO3 hb3
    go_wp2
    go_returns
    exact ⟨rfl, HW3.out⟩
  · rcases HA3.out with ⟨hF, q3, d3, eq3, _⟩ | ⟨hne, b, off, cap, eq3, hbl, hrow⟩
    · have hm0 : m1 = 0 := by have := HLn.out; rw [hF] at this; simpa using this.symm
      subst hm0
      obtain ⟨p3, c3, e3⟩ := HA3.out.slice
      have HBx : Hid (∀ W, Below w1.heap.size w1 W → W.cell? ⟨w.heap.size, 0, none⟩ = some (.int .i64 t.d) ∧ W.cell? ⟨w.heap.size, 1, none⟩ = some (.int .i64 t.c0) ∧ W.cell? ⟨w.heap.size, 2, none⟩ = some (.int .i64 t.c1) ∧ W.cell? ⟨w.heap.size, 3, none⟩ = some (.int .i64 t.c2) ∧ W.cell? ⟨w.heap.size, 4, none⟩ = some (.int .i64 t.c3)) := fun W hW => by
        obtain ⟨⟨p0, p1, p2, p3, p4, _, _, _, _, _⟩, _⟩ := HX1.out.below hW
        exact ⟨p0, p1, p2, p3, p4⟩
      clear e3
      go_wp2
      refine wp_loop_rounds 1 ?_
      rw [rounds_succ]
      have hcv := HCv.out (by trivial)
      rw [HC0.out] at hcv
      have HCvr : Hid (∀ W v, IsT W v (frontC F) → Calls Try.prog 24 #[v, .agg #[.int .i64 t.d, .int .i64 t.c0, .int .i64 t.c1, .int .i64 t.c2, .int .i64 t.c3]] W (Ret (.bool (cov (frontC F) t)) W)) := fun W v h => covers_any (frontC F) t v W (Nat.le_trans HFl.out (by decide)) h
      have HRgt : Hid (∀ W v, IsT W v (frontC F) → Calls Try.prog 26 #[v] W (Ret (.bool true) W)) := fun W v h => by
        have q := chainRight_any (frontC F) v W (Nat.le_trans HFl.out (by decide)) h
        rw [front_idem] at q
        exact q
      rw [hcv] at HCvr
      clear hcv HCv HCs HC0 HNo HFl
      generalize frontC F = FC at *
      have HKeep : Hid (∀ W, Below w2.heap.size w2 W → W.cell? ⟨w.heap.size, 0, none⟩ = some (.int .i64 t.d) ∧ W.cell? ⟨w.heap.size, 1, none⟩ = some (.int .i64 t.c0) ∧ W.cell? ⟨w.heap.size, 2, none⟩ = some (.int .i64 t.c1) ∧ W.cell? ⟨w.heap.size, 3, none⟩ = some (.int .i64 t.c2) ∧ W.cell? ⟨w.heap.size, 4, none⟩ = some (.int .i64 t.c3)) := fun W hW => HBx.out W (HB2.out.trans (hW.mono HB2.out.size))
      obtain ⟨s0, s1, s2, s3, s4⟩ := HKeep.out w2 (Below.refl _ _)
      have HFR2 : Hid (∀ W, Below w2.heap.size w2 W → Calls Try.prog 38 #[.slice p1 0 c1] W (MadeT FC W)) := fun W hW => HFR.out W (HB2.out.trans (hW.mono HB2.out.size))
      clear HBx HFR HA3 HX1
      go_wp2_with fail
      go_region_held_law (fun w' => w'.cell? ⟨w.heap.size, 0, none⟩ = some (.int .i64 t.d) ∧ w'.cell? ⟨w.heap.size, 1, none⟩ = some (.int .i64 t.c0) ∧ w'.cell? ⟨w.heap.size, 2, none⟩ = some (.int .i64 t.c1) ∧ w'.cell? ⟨w.heap.size, 3, none⟩ = some (.int .i64 t.c2) ∧ w'.cell? ⟨w.heap.size, 4, none⟩ = some (.int .i64 t.c3)) (first | (with_reducible exact HKeep.out _ (by assumption)) | go_keep) (first
        | (go_at_call 24; refine (HCvr.out wa va hIa).mono ?_; rintro e wb ⟨rfl, hbb⟩; have hc2 : Below w2.heap.size w2 wb := bcall hc1 hbb hc1.size)
        | (go_at_call 26; refine (HRgt.out wc vc hIc).mono ?_; rintro e wd ⟨rfl, hbd⟩; have hc4 : Below w2.heap.size w2 wd := bcall hc3 hbd hc3.size)
        | (go_at_call 38; refine (HFR2.out wb hc2).mono ?_; rintro e wc ⟨vc, rfl, hOc, hbc⟩; have hIc := hOc.is; have hc3 : Below w2.heap.size w2 wc := bcall hc2 hbc hc2.size)
        | (go_at_call 38; refine (HFR2.out _ (Below.refl _ _).drew).mono ?_; rintro e wa ⟨va, rfl, hOa, hba⟩; have hIa := hOa.is; have hc1 : Below w2.heap.size w2 wa := bcall (Below.refl _ _).drew hba (Nat.le_refl _)))
      all_goals
        have HX9 := Lib.hid (HW1.out.trans ((HB2.out.trans (hc4.mono HB2.out.size)).mono HW1.out.size))
        clear hIa hOa hba hbb hbc hOc hIc hbd hc1 hc2 hc3 hc4
        try simp only [List.getElem_toArray, List.getElem_cons_succ, List.getElem_cons_zero, Act.put, List.setIfInBounds_toArray, List.set_cons_zero, List.set_cons_succ]
        go_wp2
        go_returns
        exact ⟨rfl, HX9.out⟩
    · simp only [Value.slice.injEq] at eq3
      obtain ⟨rfl, hnx, rfl⟩ := eq3; clear hnx
      have HRow : Hid (∀ W, Below w1.heap.size w1 W → ∀ j, j < m1 → _) := fun W hW j hj => atC (hrow.below hW hbl) j (by rw [HLn.out]; exact hj)
      have HBx : Hid (∀ W, Below w1.heap.size w1 W → W.cell? ⟨w.heap.size, 0, none⟩ = some (.int .i64 t.d) ∧ W.cell? ⟨w.heap.size, 1, none⟩ = some (.int .i64 t.c0) ∧ W.cell? ⟨w.heap.size, 2, none⟩ = some (.int .i64 t.c1) ∧ W.cell? ⟨w.heap.size, 3, none⟩ = some (.int .i64 t.c2) ∧ W.cell? ⟨w.heap.size, 4, none⟩ = some (.int .i64 t.c3)) := fun W hW => by
        obtain ⟨⟨p0, p1, p2, p3, p4, _, _, _, _, _⟩, _⟩ := HX1.out.below hW
        exact ⟨p0, p1, p2, p3, p4⟩
      clear hrow hbl
      go_wp2
      go_loopg [5, 6] m1 (fun gg v i wr => ∃ k : Nat, k ≤ m1 ∧ m1 - k ≤ gg ∧ i = .int .i64 k ∧ v = .bool (covN F t k) ∧ Hid (Below w1.heap.size w1 wr))
      case atStart => exact ⟨0, Nat.zero_le _, by omega, rfl, by rw [HC0.out], HB2.out⟩
      case round =>
        obtain ⟨k, hkn, hgk, rfl, rfl, HB⟩ := hrel
        by_cases hlt : k < m1
        · have hlz : (k : Int) < (m1 : Int) := by omega
          have hc := HRow.out wr HB.out k hlt
          have hs := HCs.out k hlt
          have hp := HBx.out wr HB.out
          generalize F[k]! = c at hc hs
          obtain ⟨u, n⟩ := c
          simp only at hc hs
          obtain ⟨e0, e1, e2, e3, e4, e5⟩ := hc
          obtain ⟨p0, p1, p2, p3, p4⟩ := hp
          replace e0 := fun p => beh_cell e0 p
          replace e1 := fun p => beh_cell e1 p
          replace e2 := fun p => beh_cell e2 p
          replace e3 := fun p => beh_cell e3 p
          replace e4 := fun p => beh_cell e4 p
          replace e5 := fun p => beh_cell e5 p
          replace p0 := fun p => beh_cell p0 p
          replace p1 := fun p => beh_cell p1 p
          replace p2 := fun p => beh_cell p2 p
          replace p3 := fun p => beh_cell p3 p
          replace p4 := fun p => beh_cell p4 p
          have HLe := Lib.hid (fun W => tle_any u t W)
          generalize u.le t = ql at hs HLe
          generalize hck : covN F t k = ck at hs ⊢
          clear hck
          cases ck
          · by_cases hn : 0 < n
            · rw [decide_eq_true hn] at hs
              have HCK : Hid (covN F t (k + 1) = ql) := by show _ = _; rw [hs]; cases ql <;> rfl
              clear hs
              go_wp2_with fail
              refine wp_region_beh (by kernel_rfl) (by kernel_rfl) ?_
              repeat (first | go_big_quiet_step (first | (with_reducible exact Calls.beh (HLe.out _))) | quiet_step (first | (with_reducible exact Calls.beh (HLe.out _))))
              refine wpQuiet_nil ?_
              intro _ hw'
              obtain ⟨g, hw''⟩ := hw'
              subst hw''
              have HB3 := Lib.hid (HB.out.trans (g.h.mono HB.out.size))
              clear e0 e1 e2 e3 e4 e5 p0 p1 p2 p3 p4
              generalize g.w = wq at *
              clear g
              go_wp2
              go_roundg (m1 - (k + 1))
              case measure => omega
              case rel => exact ⟨k + 1, by omega, by omega, by go_num, by rw [HCK.out], HB3.out⟩
            · rw [decide_eq_false hn] at hs
              have hn2 : decide (0 < n) = false := decide_eq_false hn
              have HCK : Hid (covN F t (k + 1) = false) := by show _ = _; rw [hs]; rfl
              clear hs
              go_wp2_with fail
              refine wp_region_beh (by kernel_rfl) (by kernel_rfl) ?_
              repeat (first | go_big_quiet_step (first | (with_reducible exact Calls.beh (HLe.out _))) | quiet_step (first | (with_reducible exact Calls.beh (HLe.out _))))
              refine wpQuiet_nil ?_
              intro _ hw'
              obtain ⟨g, hw''⟩ := hw'
              subst hw''
              have HB3 := Lib.hid (HB.out.trans (g.h.mono HB.out.size))
              clear e0 e1 e2 e3 e4 e5 p0 p1 p2 p3 p4
              generalize g.w = wq at *
              clear g
              go_wp2
              go_roundg (m1 - (k + 1))
              case measure => omega
              case rel => exact ⟨k + 1, by omega, by omega, by go_num, by rw [HCK.out], HB3.out⟩
          · have HCK : Hid (covN F t (k + 1) = true) := by show _ = _; rw [hs]; rfl
            clear hs
            go_wp2_with fail
            refine wp_region_beh (by kernel_rfl) (by kernel_rfl) ?_
            repeat (first | go_big_quiet_step (first | (with_reducible exact Calls.beh (HLe.out _))) | quiet_step (first | (with_reducible exact Calls.beh (HLe.out _))))
            refine wpQuiet_nil ?_
            intro _ hw'
            obtain ⟨g, hw''⟩ := hw'
            subst hw''
            have HB3 := Lib.hid (HB.out.trans (g.h.mono HB.out.size))
            clear e0 e1 e2 e3 e4 e5 p0 p1 p2 p3 p4
            generalize g.w = wq at *
            clear g
            go_wp2
            go_roundg (m1 - (k + 1))
            case measure => omega
            case rel => exact ⟨k + 1, by omega, by omega, by go_num, by rw [HCK.out], HB3.out⟩
        · have hlz : ¬ (k : Int) < (m1 : Int) := by omega
          have : m1 = k := by omega
          subst this
          have hcv := HCv.out (by trivial)
          have HCvr : Hid (∀ W v, IsT W v (frontC F) → Calls Try.prog 24 #[v, .agg #[.int .i64 t.d, .int .i64 t.c0, .int .i64 t.c1, .int .i64 t.c2, .int .i64 t.c3]] W (Ret (.bool (cov (frontC F) t)) W)) := fun W v h => covers_any (frontC F) t v W (Nat.le_trans HFl.out (by decide)) h
          have HRgt : Hid (∀ W v, IsT W v (frontC F) → Calls Try.prog 26 #[v] W (Ret (.bool true) W)) := fun W v h => by
            have q := chainRight_any (frontC F) v W (Nat.le_trans HFl.out (by decide)) h
            rw [front_idem] at q
            exact q
          rw [hcv] at HCvr
          clear hcv HCv HCs HC0 HNo HFl
          generalize covN F t m1 = cN at *
          generalize frontC F = FC at *
          have hqq : (cN == cN) = true := by cases cN <;> rfl
          have HKeep : Hid (∀ W, Below wr.heap.size wr W → W.cell? ⟨w.heap.size, 0, none⟩ = some (.int .i64 t.d) ∧ W.cell? ⟨w.heap.size, 1, none⟩ = some (.int .i64 t.c0) ∧ W.cell? ⟨w.heap.size, 2, none⟩ = some (.int .i64 t.c1) ∧ W.cell? ⟨w.heap.size, 3, none⟩ = some (.int .i64 t.c2) ∧ W.cell? ⟨w.heap.size, 4, none⟩ = some (.int .i64 t.c3)) := fun W hW => HBx.out W (HB.out.trans (hW.mono HB.out.size))
          obtain ⟨s0, s1, s2, s3, s4⟩ := HKeep.out wr (Below.refl _ _)
          have HFR2 : Hid (∀ W, Below wr.heap.size wr W → Calls Try.prog 38 #[.slice (some ⟨b, off, none⟩) m1 c1] W (MadeT FC W)) := fun W hW => HFR.out W (HB.out.trans (hW.mono HB.out.size))
          clear HBx HFR HA3 HX1
          go_wp2_with fail
          go_region_held_law (fun w' => w'.cell? ⟨w.heap.size, 0, none⟩ = some (.int .i64 t.d) ∧ w'.cell? ⟨w.heap.size, 1, none⟩ = some (.int .i64 t.c0) ∧ w'.cell? ⟨w.heap.size, 2, none⟩ = some (.int .i64 t.c1) ∧ w'.cell? ⟨w.heap.size, 3, none⟩ = some (.int .i64 t.c2) ∧ w'.cell? ⟨w.heap.size, 4, none⟩ = some (.int .i64 t.c3)) (first | (with_reducible exact HKeep.out _ (by assumption)) | go_keep) (first
            | (go_at_call 24; refine (HCvr.out wa va hIa).mono ?_; rintro e wb ⟨rfl, hbb⟩; have hc2 : Below wr.heap.size wr wb := bcall hc1 hbb hc1.size)
            | (go_at_call 26; refine (HRgt.out wc vc hIc).mono ?_; rintro e wd ⟨rfl, hbd⟩; have hc4 : Below wr.heap.size wr wd := bcall hc3 hbd hc3.size)
            | (go_at_call 38; refine (HFR2.out wb hc2).mono ?_; rintro e wc ⟨vc, rfl, hOc, hbc⟩; have hIc := hOc.is; have hc3 : Below wr.heap.size wr wc := bcall hc2 hbc hc2.size)
            | (go_at_call 38; refine (HFR2.out _ (Below.refl _ _).drew).mono ?_; rintro e wa ⟨va, rfl, hOa, hba⟩; have hIa := hOa.is; have hc1 : Below wr.heap.size wr wa := bcall (Below.refl _ _).drew hba (Nat.le_refl _)))
          all_goals
            have HX9 := Lib.hid (HW1.out.trans ((HB.out.trans (hc4.mono HB.out.size)).mono HW1.out.size))
            clear hIa hOa hba hbb hbc hOc hIc hbd hc1 hc2 hc3 hc4
            try simp only [List.getElem_toArray, List.getElem_cons_succ, List.getElem_cons_zero, Act.put, List.setIfInBounds_toArray, List.set_cons_zero, List.set_cons_succ]
            go_wp2
            go_returns
            exact ⟨rfl, HX9.out⟩
end Go.Proofs.Ytboefmmpclmngaa
