/- the document's ahead, is, Right, Len on mailboxes -/
import Derived.Test.YtdgnblkoohakeaaUb
import Derived.Test.YtdgnblkoohakeaaRowKeep
import Derived.Deep.CutRange
namespace Go.Proofs.Ytdgnblkoohakeaa
open Go.RowKit
set_option linter.unusedVariables false
set_option linter.unusedSimpArgs false

def headB (b : BV) : Bool := decide ((0 ≤ b.e ∧ 0 ≤ b.f ∧ 0 ≤ b.t) ∧ 0 < b.l.length ∧ b.l.length ≤ 4096)
theorem okB_no_head {b : BV} (h : headB b = false) : okB b = false := by
  cases q : okB b
  · rfl
  · have := (okB_iff b).1 q
    unfold headB at h
    rw [decide_eq_true ⟨this.1, this.2.1⟩] at h
    cases h
theorem okB_no_edge {b : BV} {j : Nat} (hj : j < b.l.length) (h : (b.l[j]!).e ≠ b.e) : okB b = false := by
  cases q : okB b
  · rfl
  · have := (okB_iff b).1 q
    exact absurd (this.2.2 _ (by rw [getElem!_pos b.l j hj]; exact List.getElem_mem _)) h
theorem okB_yes {b : BV} (h : headB b = true) (he : ∀ j, j < b.l.length → (b.l[j]!).e = b.e) : okB b = true := by
  unfold headB at h
  have h := of_decide_eq_true h
  refine (okB_iff b).2 ⟨h.1, h.2, fun m hm => ?_⟩
  obtain ⟨j, hj, rfl⟩ := List.mem_iff_getElem.1 hm
  have := he j hj
  rwa [getElem!_pos b.l j hj] at this
def aheadZ (e f t e' f' t' : Int) : Bool := decide (e < e' ∨ (e = e' ∧ (f < f' ∨ (f = f' ∧ t < t'))))
theorem aheadZ_eq (a b : BV) : aheadZ a.e a.f a.t b.e b.f b.t = aheadB a b := rfl
def isZ (e f t e' f' t' : Int) : Bool := decide (e = e' ∧ f = f' ∧ t = t')
theorem isZ_eq (b : BV) (e f t : Int) : isZ b.e b.f b.t e f t = isB b e f t := rfl
set_option maxRecDepth 100000 in
set_option maxHeartbeats 4000000 in
theorem uahead_any (e f t : Int) (l : Value) (e' f' t' : Int) (l' : Value) (w : World) : Calls Try.prog 23 #[.agg #[.int .i64 e, .int .i64 f, .int .i64 t, l], .agg #[.int .i64 e', .int .i64 f', .int .i64 t', l']] w (Ret (.bool (aheadZ e f t e' f' t')) w) := by
  have HB : Hid (Below w.heap.size w ((w.alloc (.cells #[.int .i64 e, .int .i64 f, .int .i64 t, l] 34)).alloc (.cells #[.int .i64 e', .int .i64 f', .int .i64 t', l'] 34))) := ((Below.refl _ _).alloc (Nat.le_refl _) _).alloc (by simp) _
  unfold aheadZ
  by_cases h1 : e = e'
  · have b1 : (e == e') = true := by simpa using h1
    by_cases h2 : f = f'
    · have b2 : (f == f') = true := by simpa using h2
      have hr : Hid (decide (e < e' ∨ (e = e' ∧ (f < f' ∨ (f = f' ∧ t < t')))) = decide (t < t')) := by
        rw [Hid, Bool.eq_iff_iff, decide_eq_true_eq, decide_eq_true_eq]; omega
      clear h1 h2
      go_enter Try.func23, Try.ntmps23
      go_wp2
      go_returns
      exact ⟨ret_bool hr.out.symm, HB.out⟩
    · have b2 : (f == f') = false := by simpa using h2
      have hr : Hid (decide (e < e' ∨ (e = e' ∧ (f < f' ∨ (f = f' ∧ t < t')))) = decide (f < f')) := by
        rw [Hid, Bool.eq_iff_iff, decide_eq_true_eq, decide_eq_true_eq]; omega
      clear h1 h2
      go_enter Try.func23, Try.ntmps23
      go_wp2
      go_returns
      exact ⟨ret_bool hr.out.symm, HB.out⟩
  · have b1 : (e == e') = false := by simpa using h1
    have hr : Hid (decide (e < e' ∨ (e = e' ∧ (f < f' ∨ (f = f' ∧ t < t')))) = decide (e < e')) := by
      rw [Hid, Bool.eq_iff_iff, decide_eq_true_eq, decide_eq_true_eq]; omega
    clear h1
    go_enter Try.func23, Try.ntmps23
    go_wp2
    go_returns
    exact ⟨ret_bool hr.out.symm, HB.out⟩
set_option maxRecDepth 100000 in
set_option maxHeartbeats 4000000 in
theorem uis_any (e f t : Int) (l : Value) (e' f' t' : Int) (w : World) : Calls Try.prog 22 #[.agg #[.int .i64 e, .int .i64 f, .int .i64 t, l], .int .i64 e', .int .i64 f', .int .i64 t'] w (Ret (.bool (isZ e f t e' f' t')) w) := by
  have HB : Hid (Below w.heap.size w (w.alloc (.cells #[.int .i64 e, .int .i64 f, .int .i64 t, l] 34))) := (Below.refl _ _).alloc (Nat.le_refl _) _
  unfold isZ
  by_cases h1 : e = e'
  · have b1 : (e == e') = true := by simpa using h1
    by_cases h2 : f = f'
    · have b2 : (f == f') = true := by simpa using h2
      by_cases h3 : t = t'
      · have b3 : (t == t') = true := by simpa using h3
        have hr : Hid (decide (e = e' ∧ f = f' ∧ t = t') = true) := decide_eq_true ⟨h1, h2, h3⟩
        clear h1 h2 h3
        go_enter Try.func22, Try.ntmps22
        go_wp2
        go_returns
        exact ⟨ret_bool hr.out.symm, HB.out⟩
      · have b3 : (t == t') = false := by simpa using h3
        have hr : Hid (decide (e = e' ∧ f = f' ∧ t = t') = false) := decide_eq_false fun h => h3 h.2.2
        clear h1 h2 h3
        go_enter Try.func22, Try.ntmps22
        go_wp2
        go_returns
        exact ⟨ret_bool hr.out.symm, HB.out⟩
    · have b2 : (f == f') = false := by simpa using h2
      have hr : Hid (decide (e = e' ∧ f = f' ∧ t = t') = false) := decide_eq_false fun h => h2 h.2.1
      clear h1 h2
      go_enter Try.func22, Try.ntmps22
      go_wp2
      go_returns
      exact ⟨ret_bool hr.out.symm, HB.out⟩
  · have b1 : (e == e') = false := by simpa using h1
    have hr : Hid (decide (e = e' ∧ f = f' ∧ t = t') = false) := decide_eq_false fun h => h1 h.1
    clear h1
    go_enter Try.func22, Try.ntmps22
    go_wp2
    go_returns
    exact ⟨ret_bool hr.out.symm, HB.out⟩
set_option maxRecDepth 100000 in
set_option maxHeartbeats 16000000 in
theorem uright_any (n : List BV) (v : Value) (w : World) (hl : n.length ≤ 900000) (h : IsBs w v n) : Calls Try.prog 11 #[v] w (Ret (.bool (rightN n)) w) := by
  obtain ⟨p, c, rfl, ho⟩ := h.opened
  have HO := Lib.hid ho
  have HA := Lib.hid (fun a1 a2 a3 a4 b1 b2 b3 b4 W => uahead_any a1 a2 a3 a4 b1 b2 b3 b4 W)
  clear h ho
  go_enter Try.func11, Try.ntmps11
  go_wp2
  go_loopg [3] n.length (fun gg i wr => ∃ k : Nat, k ≤ n.length ∧ n.length - k ≤ gg ∧ i = .int .i64 (k : Int) ∧ Hid (Below w.heap.size w wr) ∧ Hid (upB n k = true))
  case atStart => exact ⟨0, Nat.zero_le _, by omega, rfl, Below.refl _ _, upB_zero _⟩
  case round =>
    obtain ⟨k, hkn, hg, rfl, HB, HU⟩ := hrel
    by_cases hlt : k < n.length
    · have hlz : (k : Int) < (n.length : Int) := by omega
      obtain ⟨b, off, q, d, rfl, hI, hc⟩ := HO.out k hlt
      obtain ⟨e0, e1, e2, e3⟩ := hc wr HB.out
      have HPrev : Hid (∀ k', k = k' + 1 → ∀ W, Below w.heap.size w W → W.cell? ⟨b, off + k' * 4, none⟩ = some (.int .i64 (n[k']!).e) ∧ W.cell? ⟨b, off + k' * 4 + 1, none⟩ = some (.int .i64 (n[k']!).f) ∧ W.cell? ⟨b, off + k' * 4 + 2, none⟩ = some (.int .i64 (n[k']!).t) ∧ ∃ q' l' d', W.cell? ⟨b, off + k' * 4 + 3, none⟩ = some (.slice q' l' d')) := fun k' e W hW => by
        obtain ⟨b', off', q', d', e', _, hc'⟩ := HO.out k' (by omega)
        simp only [Option.some.injEq, Addr.mk.injEq, and_true] at e'
        obtain ⟨rfl, rfl⟩ := e'
        have x := hc' W hW
        exact ⟨x.1, x.2.1, x.2.2.1, q', _, d', x.2.2.2⟩
      have hno1 := fun h => rightN_no_ok (n := n) (k := k) hlt h
      have hno2 := fun h => rightN_no_lt (n := n) (k := k) hlt h
      have hup := fun h => upB_succ (n := n) (k := k) HU.out h
      generalize hx : n[k]! = x at *
      obtain ⟨xe, xf, xt, xl⟩ := x
      simp only at e0 e1 e2 e3 hI
      have HI := Lib.hid hI
      obtain ⟨R, HR0, HR1, HR2, HRF⟩ : ∃ R : Bool, Hid (headB ⟨xe, xf, xt, xl⟩ = false → R = false) ∧ Hid (headB ⟨xe, xf, xt, xl⟩ = true → k = 0 → R = true) ∧ Hid (headB ⟨xe, xf, xt, xl⟩ = true → 0 < k → R = aheadZ (n[k - 1]!).e (n[k - 1]!).f (n[k - 1]!).t xe xf xt) ∧ Hid (R = true → headB ⟨xe, xf, xt, xl⟩ = true ∧ (0 < k → aheadB n[k - 1]! ⟨xe, xf, xt, xl⟩ = true)) := by
        refine ⟨headB ⟨xe, xf, xt, xl⟩ && (decide (k = 0) || aheadB n[k - 1]! ⟨xe, xf, xt, xl⟩), fun h => ?_, fun h h2 => ?_, fun h h2 => ?_, fun h => ?_⟩
        · rw [h]; rfl
        · rw [h, decide_eq_true h2]; rfl
        · rw [h, decide_eq_false (by omega)]; rfl
        · rw [Bool.and_eq_true, Bool.or_eq_true, decide_eq_true_eq] at h
          exact ⟨h.1, fun q => by rcases h.2 with h | h; omega; exact h⟩
      have HNo : Hid (R = false → rightN n = false) := fun hr => by
        cases hh : headB ⟨xe, xf, xt, xl⟩
        · exact hno1 (okB_no_head hh)
        · by_cases k0 : k = 0
          · rw [HR1.out hh k0] at hr; cases hr
          · have := HR2.out hh (by omega)
            rw [hr] at this
            exact hno2 (by omega) this.symm
      have HNo2 : Hid (∀ j, j < xl.length → (xl[j]!).e ≠ xe → rightN n = false) := fun j hj h => hno1 (okB_no_edge (b := ⟨xe, xf, xt, xl⟩) hj h)
      have HUp : Hid (R = true → (∀ j, j < xl.length → (xl[j]!).e = xe) → upB n (k + 1) = true) := fun hr he => hup (okB_yes (HRF.out hr).1 he) (HRF.out hr).2
      have HLn : Hid (R = true → xl.length ≤ 4096) := fun hr => (of_decide_eq_true (HRF.out hr).1).2.2
      clear hno1 hno2 hup hc hx HU hI
      generalize hln : xl.length = ln at *
      have HLl := Lib.hid hln
      clear hln
      go_upto_region 5 with (fail)
      refine gen_world (fun W3 => Below wr.heap.size wr W3 ∧ Boxed W3 wr.heap.size #[.int .i64 xe, .int .i64 xf, .int .i64 xt, .slice q ln d] 34) ⟨by first | exact (Below.refl _ _).alloc (Nat.le_refl _) _ | go_grown, by first | exact heap_alloc_new _ _ | skip⟩ ?_
      rintro w3 ⟨hb3, hx3⟩
      have HBw := Lib.hid (bcall HB.out hb3 HB.out.size)
      have HX := Lib.hid hx3
      have b0 : w3.cell? ⟨wr.heap.size, 0, none⟩ = some (.int .i64 xe) := hx3.cell 0
      have b1 : w3.cell? ⟨wr.heap.size, 1, none⟩ = some (.int .i64 xf) := hx3.cell 1
      have b2 : w3.cell? ⟨wr.heap.size, 2, none⟩ = some (.int .i64 xt) := hx3.cell 2
      have b3 : w3.cell? ⟨wr.heap.size, 3, none⟩ = some (.slice q ln d) := hx3.cell 3
      generalize wr.heap.size = bx at *
      clear e0 e1 e2 e3 hb3 hx3
      go_cut [54] from 16 to 53 (fun x wx => x = .bool (!R) ∧ Hid (Below w3.heap.size w3 wx))
      case first =>
        have B0 := fun p => beh_cell b0 p
        have B1 := fun p => beh_cell b1 p
        have B2 := fun p => beh_cell b2 p
        have B3 := fun p => beh_cell b3 p
        clear b0 b1 b2 b3
        by_cases h0 : xe < 0
        · have d0 : decide ((xe : Int) < 0) = true := decide_eq_true h0
          have HRR : Hid (R = false) := HR0.out (decide_eq_false fun q => by have el := HLl.out; have q1 := q.1; have q2 := q.2; simp only at q1 q2; omega)
          clear h0
          refine wp_region_beh (by kernel_rfl) (by kernel_rfl) ?_
          repeat (first | go_big_quiet_step (first | (with_reducible exact Calls.beh (HA.out _ _ _ _ _ _ _ _ _))) | quiet_step (first | (with_reducible exact Calls.beh (HA.out _ _ _ _ _ _ _ _ _))))
          refine wpQuiet_nil ?_
          intro _ hw'
          obtain ⟨g, hw''⟩ := hw'
          subst hw''
          have HBg := Lib.hid g.h
          generalize g.w = wq at *
          clear g
          go_wp2_with fail
          go_meet
          case rel => exact ⟨by rw [HRR.out]; rfl, HBg.out⟩
        · have d0 : decide ((xe : Int) < 0) = false := decide_eq_false h0
          by_cases h1 : xf < 0
          · have d1 : decide ((xf : Int) < 0) = true := decide_eq_true h1
            have HRR : Hid (R = false) := HR0.out (decide_eq_false fun q => by have el := HLl.out; have q1 := q.1; have q2 := q.2; simp only at q1 q2; omega)
            clear h1
            refine wp_region_beh (by kernel_rfl) (by kernel_rfl) ?_
            repeat (first | go_big_quiet_step (first | (with_reducible exact Calls.beh (HA.out _ _ _ _ _ _ _ _ _))) | quiet_step (first | (with_reducible exact Calls.beh (HA.out _ _ _ _ _ _ _ _ _))))
            refine wpQuiet_nil ?_
            intro _ hw'
            obtain ⟨g, hw''⟩ := hw'
            subst hw''
            have HBg := Lib.hid g.h
            generalize g.w = wq at *
            clear g
            go_wp2_with fail
            go_meet
            case rel => exact ⟨by rw [HRR.out]; rfl, HBg.out⟩
          · have d1 : decide ((xf : Int) < 0) = false := decide_eq_false h1
            by_cases h2 : xt < 0
            · have d2 : decide ((xt : Int) < 0) = true := decide_eq_true h2
              have HRR : Hid (R = false) := HR0.out (decide_eq_false fun q => by have el := HLl.out; have q1 := q.1; have q2 := q.2; simp only at q1 q2; omega)
              clear h2
              refine wp_region_beh (by kernel_rfl) (by kernel_rfl) ?_
              repeat (first | go_big_quiet_step (first | (with_reducible exact Calls.beh (HA.out _ _ _ _ _ _ _ _ _))) | quiet_step (first | (with_reducible exact Calls.beh (HA.out _ _ _ _ _ _ _ _ _))))
              refine wpQuiet_nil ?_
              intro _ hw'
              obtain ⟨g, hw''⟩ := hw'
              subst hw''
              have HBg := Lib.hid g.h
              generalize g.w = wq at *
              clear g
              go_wp2_with fail
              go_meet
              case rel => exact ⟨by rw [HRR.out]; rfl, HBg.out⟩
            · have d2 : decide ((xt : Int) < 0) = false := decide_eq_false h2
              by_cases h3 : ln = 0
              · have d3 : ((ln : Int) == 0) = true := by simp; omega
                have HRR : Hid (R = false) := HR0.out (decide_eq_false fun q => by have el := HLl.out; have q1 := q.1; have q2 := q.2; simp only at q1 q2; omega)
                clear h3
                refine wp_region_beh (by kernel_rfl) (by kernel_rfl) ?_
                repeat (first | go_big_quiet_step (first | (with_reducible exact Calls.beh (HA.out _ _ _ _ _ _ _ _ _))) | quiet_step (first | (with_reducible exact Calls.beh (HA.out _ _ _ _ _ _ _ _ _))))
                refine wpQuiet_nil ?_
                intro _ hw'
                obtain ⟨g, hw''⟩ := hw'
                subst hw''
                have HBg := Lib.hid g.h
                generalize g.w = wq at *
                clear g
                go_wp2_with fail
                go_meet
                case rel => exact ⟨by rw [HRR.out]; rfl, HBg.out⟩
              · have d3 : ((ln : Int) == 0) = false := by simp; omega
                by_cases h4 : 4096 < ln
                · have d4 : decide ((4096 : Int) < (ln : Int)) = true := decide_eq_true (by omega)
                  have HRR : Hid (R = false) := HR0.out (decide_eq_false fun q => by have el := HLl.out; have q1 := q.1; have q2 := q.2; simp only at q1 q2; omega)
                  clear h4
                  refine wp_region_beh (by kernel_rfl) (by kernel_rfl) ?_
                  repeat (first | go_big_quiet_step (first | (with_reducible exact Calls.beh (HA.out _ _ _ _ _ _ _ _ _))) | quiet_step (first | (with_reducible exact Calls.beh (HA.out _ _ _ _ _ _ _ _ _))))
                  refine wpQuiet_nil ?_
                  intro _ hw'
                  obtain ⟨g, hw''⟩ := hw'
                  subst hw''
                  have HBg := Lib.hid g.h
                  generalize g.w = wq at *
                  clear g
                  go_wp2_with fail
                  go_meet
                  case rel => exact ⟨by rw [HRR.out]; rfl, HBg.out⟩
                · have d4 : decide ((4096 : Int) < (ln : Int)) = false := decide_eq_false (by omega)
                  have HH : headB ⟨xe, xf, xt, xl⟩ = true := decide_eq_true ⟨⟨by show 0 ≤ xe; omega, by show 0 ≤ xf; omega, by show 0 ≤ xt; omega⟩, by have el := HLl.out; show 0 < xl.length; omega, by have el := HLl.out; show xl.length ≤ 4096; omega⟩
                  by_cases hk0 : k = 0
                  · subst hk0
                    have d5 : decide ((0 : Int) < ((0 : Nat) : Int)) = false := rfl
                    have HRR : Hid (R = true) := HR1.out HH rfl
                    refine wp_region_beh (by kernel_rfl) (by kernel_rfl) ?_
                    repeat (first | go_big_quiet_step (first | (with_reducible exact Calls.beh (HA.out _ _ _ _ _ _ _ _ _))) | quiet_step (first | (with_reducible exact Calls.beh (HA.out _ _ _ _ _ _ _ _ _))))
                    refine wpQuiet_nil ?_
                    intro _ hw'
                    obtain ⟨g, hw''⟩ := hw'
                    subst hw''
                    have HBg := Lib.hid g.h
                    generalize g.w = wq at *
                    clear g
                    go_wp2_with fail
                    go_meet
                    case rel => exact ⟨by rw [HRR.out]; rfl, HBg.out⟩
                  · obtain ⟨k', rfl⟩ : ∃ k', k = k' + 1 := ⟨k - 1, by omega⟩
                    obtain ⟨p0, p1, p2, q', l', d', p3⟩ := HPrev.out k' rfl w3 HBw.out
                    have P0 := fun p => beh_cell p0 p
                    have P1 := fun p => beh_cell p1 p
                    have P2 := fun p => beh_cell p2 p
                    have P3 := fun p => beh_cell p3 p
                    have d5 : decide ((0 : Int) < ((k' + 1 : Nat) : Int)) = true := decide_eq_true (by omega)
                    have hkn' : (k' : Int) < (n.length : Int) := by omega
                    have hHR := HR2.out HH (by omega)
                    have HRR : Hid (R = aheadZ (n[k' + 1 - 1]!).e (n[k' + 1 - 1]!).f (n[k' + 1 - 1]!).t xe xf xt) := hHR
                    clear p0 p1 p2 p3 hHR
                    rw [Nat.add_sub_cancel] at HRR
                    generalize n[k']! = y at *
                    cases hq : aheadZ y.e y.f y.t xe xf xt
                    · rw [hq] at HRR
                      refine wp_region_beh (by kernel_rfl) (by kernel_rfl) ?_
                      repeat (first | go_big_quiet_step (first | (with_reducible exact Calls.beh (HA.out _ _ _ _ _ _ _ _ _))) | quiet_step (first | (with_reducible exact Calls.beh (HA.out _ _ _ _ _ _ _ _ _))))
                      refine wpQuiet_nil ?_
                      intro _ hw'
                      obtain ⟨g, hw''⟩ := hw'
                      subst hw''
                      have HBg := Lib.hid g.h
                      generalize g.w = wq at *
                      clear g
                      go_wp2_with fail
                      go_meet
                      case rel => exact ⟨by rw [HRR.out]; rfl, HBg.out⟩
                    · rw [hq] at HRR
                      refine wp_region_beh (by kernel_rfl) (by kernel_rfl) ?_
                      repeat (first | go_big_quiet_step (first | (with_reducible exact Calls.beh (HA.out _ _ _ _ _ _ _ _ _))) | quiet_step (first | (with_reducible exact Calls.beh (HA.out _ _ _ _ _ _ _ _ _))))
                      refine wpQuiet_nil ?_
                      intro _ hw'
                      obtain ⟨g, hw''⟩ := hw'
                      subst hw''
                      have HBg := Lib.hid g.h
                      generalize g.w = wq at *
                      clear g
                      go_wp2_with fail
                      go_meet
                      case rel => exact ⟨by rw [HRR.out]; rfl, HBg.out⟩
      case rest =>
        obtain ⟨rfl, HBc⟩ := hcut
        rename World => w4
        have HB4 : Hid (Below w.heap.size w w4) := bcall HBw.out HBc.out HBw.out.size
        cases R
        · have HN := Lib.hid (HNo.out rfl)
          clear HNo HNo2 HUp HR0 HR1 HR2 HRF
          go_wp2
          go_returns
          exact ⟨ret_bool HN.out.symm, HB4.out⟩
        · have hl4 := HLn.out rfl
          have HUp2 := Lib.hid (HUp.out rfl)
          have HX4 := Lib.hid (HX.out.below HBc.out HX.out.lt)
          clear HNo HUp HR0 HR1 HR2 HRF b0 b1 b2 b3
          go_wp2_with fail
          go_loopg [5] ln (fun g2 i wr => ∃ j : Nat, j ≤ ln ∧ ln - j ≤ g2 ∧ i = .int .i64 (j : Int) ∧ Hid (Below w4.heap.size w4 wr) ∧ Hid (∀ i, i < j → (xl[i]!).e = xe))
          case atStart => exact ⟨0, Nat.zero_le _, by omega, rfl, Below.refl _ _, fun i hi => absurd hi (Nat.not_lt_zero i)⟩
          case round =>
            obtain ⟨j, hj, hg2, rfl, HB5, HE⟩ := hrel
            rename World => w5
            have HB5w : Hid (Below w.heap.size w w5) := bcall HB4.out HB5.out HB4.out.size
            have hX5 := HX4.out.below HB5.out HX4.out.lt
            have c3 : w5.cell? ⟨bx, 3, none⟩ = some (.slice q ln d) := hX5.cell 3
            by_cases hjt : j < ln
            · have hjz : (j : Int) < (ln : Int) := by omega
              obtain ⟨pq, cq, eq1, hop⟩ := isOpenedU HI.out
              simp only [Value.slice.injEq] at eq1
              obtain ⟨rfl, eln, rfl⟩ := eq1
              clear eln
              obtain ⟨bm, om, rfl, hbm, hrm⟩ := hop j (by rw [HLl.out]; exact hjt)
              have m0 := (atM (hrm.below HB5w.out hbm) j (by rw [HLl.out]; exact hjt)).1
              have HM0 := Lib.hid m0
              have HX5 := Lib.hid hX5
              clear m0 hop hrm hX5
              have HNo3 := Lib.hid (HNo2.out j hjt)
              generalize hmm : (xl[j]!).e = me at *
              have HMm := Lib.hid hmm
              clear hmm
              by_cases hne : me = xe
              · have b9 : (me == xe) = true := by simpa using hne
                have HE2 : Hid (∀ i, i < j + 1 → (xl[i]!).e = xe) := fun i hi => by
                  by_cases e : i = j
                  · subst e; rw [HMm.out]; exact hne
                  · exact HE.out i (by omega)
                clear hne
                go_upto_region 10 with (fail)
                have D0 : ∀ p : Nat, (w5.drewN p).cell? ⟨bx, 0, none⟩ = some (.int .i64 xe) := fun p => ((below_drewN (Below.refl w5.heap.size w5) p).cell (p := ⟨bx, 0, none⟩) HX5.out.lt).trans (HX5.out.cell 0)
                have D3 : ∀ p : Nat, (w5.drewN p).cell? ⟨bx, 3, none⟩ = some (.slice (some ⟨bm, om, none⟩) ln d) := fun p => ((below_drewN (Below.refl w5.heap.size w5) p).cell (p := ⟨bx, 3, none⟩) HX5.out.lt).trans (HX5.out.cell 3)
                have M0 : ∀ p : Nat, (w5.drewN p).cell? ⟨bm, om + j * 10, none⟩ = some (.int .i64 me) := fun p => ((below_drewN (Below.refl w5.heap.size w5) p).cell (p := ⟨bm, om + j * 10, none⟩) (World.block_lt_of_cell? _ _ HM0.out)).trans HM0.out
                clear c3
                go_quiet (fail)
                go_wp2
                go_roundg (ln - (j + 1))
                case measure => omega
                case rel => exact ⟨j + 1, by omega, by omega, by go_num, below_drewN HB5.out _, HE2.out⟩
              · have b9 : (me == xe) = false := by simpa using hne
                have HN4 := Lib.hid (HNo3.out hne)
                clear hne HNo3
                go_upto_region 10 with (fail)
                have D0 : ∀ p : Nat, (w5.drewN p).cell? ⟨bx, 0, none⟩ = some (.int .i64 xe) := fun p => ((below_drewN (Below.refl w5.heap.size w5) p).cell (p := ⟨bx, 0, none⟩) HX5.out.lt).trans (HX5.out.cell 0)
                have D3 : ∀ p : Nat, (w5.drewN p).cell? ⟨bx, 3, none⟩ = some (.slice (some ⟨bm, om, none⟩) ln d) := fun p => ((below_drewN (Below.refl w5.heap.size w5) p).cell (p := ⟨bx, 3, none⟩) HX5.out.lt).trans (HX5.out.cell 3)
                have M0 : ∀ p : Nat, (w5.drewN p).cell? ⟨bm, om + j * 10, none⟩ = some (.int .i64 me) := fun p => ((below_drewN (Below.refl w5.heap.size w5) p).cell (p := ⟨bm, om + j * 10, none⟩) (World.block_lt_of_cell? _ _ HM0.out)).trans HM0.out
                clear c3
                go_quiet (fail)
                go_wp2
                go_returns
                exact ⟨ret_bool HN4.out.symm, below_drewN HB5w.out _⟩
            · obtain rfl : j = ln := by omega
              have HU2 : Hid (upB n (k + 1) = true) := HUp2.out HE.out
              clear HNo2 HUp2
              go_wp2
              go_roundg (n.length - (k + 1))
              case measure => omega
              case rel => exact ⟨k + 1, by omega, by omega, by go_num, HB5w.out, HU2.out⟩
    · obtain rfl : k = n.length := by omega
      have HR : Hid (rightN n = true) := HU.out
      go_wp2
      go_returns
      exact ⟨ret_bool HR.out.symm, HB.out⟩
end Go.Proofs.Ytdgnblkoohakeaa
