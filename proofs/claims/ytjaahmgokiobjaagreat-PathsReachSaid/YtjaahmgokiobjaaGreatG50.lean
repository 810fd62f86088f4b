/- the walk of the document's Of on chains -/
import Derived.Test.YtjaahmgokiobjaaGreatG49
namespace Go.Proofs.YtjaahmgokiobjaaGreat
open Go.RowKit
set_option linter.unusedVariables false
set_option linter.unusedSimpArgs false
attribute [local go_sem ↓] eqTime neTime

theorem len_of {i n k : Nat} {out : List TV} (h : out.length ≤ i) (hi : i < n) (hn : n ≤ 1000000000000) : out.length ≤ 2000000000000 := by omega
theorem low_len {xs : List TV} {i : Nat} {out : List TV} (x : TV) (h : out.length ≤ i) : (out ++ [x]).length ≤ i + 1 := by simp; omega
set_option maxRecDepth 100000 in
set_option maxHeartbeats 16000000 in
theorem refOf_row (xs : List TV) (b off cap : Nat) (w : World) (hl : xs.length ≤ 1000000000000) (hb : b < w.heap.size) (hr : RowT w b off xs) :
    Calls Tryz.prog 24 #[.slice (some ⟨b, off, none⟩) xs.length cap] w (MadeT (ofT xs) w) := by
  have HRow : Hid (∀ (W : World), Below w.heap.size w W → ∀ j, j < xs.length → _) := fun W hW j hj => (hr.below hW hb).at j hj
  have HG0 : Hid (Gat xs 0 []) := Gat.zero xs
  have HFin : Hid (∀ out, Gat xs xs.length out → out = ofT xs) := fun out h => h.all
  have HStep : Hid (∀ i k, lowToC xs i (k + 1) = (lowToC xs i k && !badAt xs i k)) := lowTo_succ xs
  have HSkip : Hid (∀ i out, Gat xs i out → lowToC xs i xs.length = false → Gat xs (i + 1) out) := fun i out h q => h.skip q
  have HPut : Hid (∀ i out, Gat xs i out → i < xs.length → lowToC xs i xs.length = true → ∀ k, k ≤ out.length → (∀ y ∈ out.drop k, (xs[i]!).lt y = true) → (k = 0 ∨ (xs[i]!).lt out[k - 1]! = false) → Gat xs (i + 1) (out.take k ++ xs[i]! :: out.drop k)) := fun i out h a c k d e f => h.put a c d e f
  clear hr
  generalize hres : ofT xs = res at HFin ⊢
  clear hres
  generalize hn : xs.length = n at hl HFin HSkip HPut HRow ⊢
  have HN := Lib.hid hn
  clear hn
  go_enter Tryz.func24, Tryz.ntmps24
  go_wp2
  go_loopg [3, 4] n (fun gg v i wr => ∃ (k : Nat) (out : List TV), k ≤ n ∧ n - k ≤ gg ∧ i = .int .i64 k ∧ Hid (Below w.heap.size w wr) ∧ Hid (OwnTT w.heap.size wr v out) ∧ Hid (Gat xs k out) ∧ out.length ≤ k)
  case atStart => exact ⟨0, [], Nat.zero_le _, by omega, rfl, Below.refl _ _, OwnTT.nil _ _, HG0, Nat.le_refl _⟩
  case round =>
    obtain ⟨i, out, hin, hgi, rfl, HB, HO, HG, hol⟩ := hrel
    by_cases hlt : i < n
    · have hlz : (i : Int) < (n : Int) := by omega
      have hc := HRow.out wr HB.out i hlt
      have HLi := Lib.hid (rlist_ok xs[i]!)
      have HL0 := Lib.hid (lowTo_zero xs i)
      generalize hx : xs[i]! = x at hc HLi HL0
      have HX := Lib.hid hx
      clear hx
      obtain ⟨e0, e1, e2, e3, e4⟩ := hc
      go_wp2_with fail
      refine (HLi.out _).mono ?_
      rintro e w1 ⟨lv, rfl, hb1⟩
      have HB1 := Lib.hid (HB.out.trans (hb1.mono HB.out.size)); have HO1 := Lib.hid (HO.out.below hb1)
      clear hb1 e0 e1 e2 e3 e4 HB HO HLi
      go_wp2
      go_loopg [6, 7] n (fun gg f i' wr => ∃ k : Nat, k ≤ n ∧ n - k ≤ gg ∧ i' = .int .i64 k ∧ f = .bool (lowToC xs i k) ∧ Hid (Below w.heap.size w wr) ∧ Hid (OwnTT w.heap.size wr u3 out))
      case atStart => exact ⟨0, Nat.zero_le _, by omega, rfl, by rw [HL0.out], HB1, HO1⟩
      case round =>
        obtain ⟨k, hkn, hgk, rfl, rfl, HB, HO⟩ := hrel
        by_cases hlk : k < n
        · have hlkz : (k : Int) < (n : Int) := by omega
          have hstep := HStep.out i k
          have hc := HRow.out wr HB.out i hlt
          have hc2 := HRow.out wr HB.out k hlk
          have hbad : badAt xs i k = ((!eqT xs[k]! xs[i]! && (xs[k]!).le xs[i]!) || (decide (k < i) && eqT xs[k]! xs[i]!)) := rfl
          rw [hbad] at hstep
          clear hbad
          have hle := rtle_any xs[k]! xs[i]!
          have HXi := HX
          rw [HX.out] at hc hle hstep
          generalize xs[k]! = y at hc2 hle hstep
          have e0 := fun p => beh_cell hc.1 p; have e1 := fun p => beh_cell hc.2.1 p; have e2 := fun p => beh_cell hc.2.2.1 p; have e3 := fun p => beh_cell hc.2.2.2.1 p; have e4 := fun p => beh_cell hc.2.2.2.2 p
          have f0 := fun p => beh_cell hc2.1 p; have f1 := fun p => beh_cell hc2.2.1 p; have f2 := fun p => beh_cell hc2.2.2.1 p; have f3 := fun p => beh_cell hc2.2.2.2.1 p; have f4 := fun p => beh_cell hc2.2.2.2.2 p
          clear hc hc2
          cases hq : eqT y x
          · have hq5 : eqT ⟨y.d, y.c0, y.c1, y.c2, y.c3⟩ ⟨x.d, x.c0, x.c1, x.c2, x.c3⟩ = false := hq
            rw [hq] at hstep
            clear hq
            cases hl2 : y.le x
            · rw [hl2] at hstep hle
              clear hl2
              by_cases hki0 : k < i
              · rw [decide_eq_true hki0] at hstep
                have hki : (k : Int) < (i : Int) := by omega
                have HS := Lib.hid (show lowToC xs i (k + 1) = lowToC xs i k by rw [hstep]; cases lowToC xs i k <;> rfl)
                have HLe := Lib.hid hle
                clear hstep hle
                generalize lowToC xs i k = lk at *
                go_wp2_with fail
                refine wp_region_beh (by kernel_rfl) (by kernel_rfl) ?_
                repeat (first | go_big_quiet_step (first | (with_reducible exact Calls.beh (HLe.out _))) | quiet_step (first | (with_reducible exact Calls.beh (HLe.out _))))
                refine wpQuiet_nil ?_
                intro _ hw'
                obtain ⟨g, hw''⟩ := hw'
                subst hw''
                have HB2 := Lib.hid (HB.out.trans (g.h.mono HB.out.size)); have HO2 := Lib.hid (HO.out.below g.h)
                clear e0 e1 e2 e3 e4 f0 f1 f2 f3 f4 HB HO
                generalize g.w = wq at *
                clear g
                go_wp2
                go_roundg (n - (k + 1))
                case measure => omega
                case rel => exact ⟨k + 1, by omega, by omega, by go_num, by rw [HS.out], HB2.out, HO2.out⟩
              · rw [decide_eq_false hki0] at hstep
                have hki : decide ((k : Int) < (i : Int)) = false := decide_eq_false (by omega)
                have hki2 : ¬ (k : Int) < (i : Int) := by omega
                have hki3 : ¬ k < i := by omega
                have HS := Lib.hid (show lowToC xs i (k + 1) = lowToC xs i k by rw [hstep]; cases lowToC xs i k <;> rfl)
                have HLe := Lib.hid hle
                clear hstep hle
                generalize lowToC xs i k = lk at *
                go_wp2_with fail
                refine wp_region_beh (by kernel_rfl) (by kernel_rfl) ?_
                repeat (first | go_big_quiet_step (first | (with_reducible exact Calls.beh (HLe.out _))) | quiet_step (first | (with_reducible exact Calls.beh (HLe.out _))))
                refine wpQuiet_nil ?_
                intro _ hw'
                obtain ⟨g, hw''⟩ := hw'
                subst hw''
                have HB2 := Lib.hid (HB.out.trans (g.h.mono HB.out.size)); have HO2 := Lib.hid (HO.out.below g.h)
                clear e0 e1 e2 e3 e4 f0 f1 f2 f3 f4 HB HO
                generalize g.w = wq at *
                clear g
                go_wp2
                go_roundg (n - (k + 1))
                case measure => omega
                case rel => exact ⟨k + 1, by omega, by omega, by go_num, by rw [HS.out], HB2.out, HO2.out⟩
            · rw [hl2] at hstep hle
              clear hl2
              skip
              have HS := Lib.hid (show lowToC xs i (k + 1) = false by rw [hstep]; cases lowToC xs i k <;> rfl)
              have HLe := Lib.hid hle
              clear hstep hle
              generalize lowToC xs i k = lk at *
              go_wp2_with fail
              refine wp_region_beh (by kernel_rfl) (by kernel_rfl) ?_
              repeat (first | go_big_quiet_step (first | (with_reducible exact Calls.beh (HLe.out _))) | quiet_step (first | (with_reducible exact Calls.beh (HLe.out _))))
              refine wpQuiet_nil ?_
              intro _ hw'
              obtain ⟨g, hw''⟩ := hw'
              subst hw''
              have HB2 := Lib.hid (HB.out.trans (g.h.mono HB.out.size)); have HO2 := Lib.hid (HO.out.below g.h)
              clear e0 e1 e2 e3 e4 f0 f1 f2 f3 f4 HB HO
              generalize g.w = wq at *
              clear g
              go_wp2
              go_roundg (n - (k + 1))
              case measure => omega
              case rel => exact ⟨k + 1, by omega, by omega, by go_num, by rw [HS.out], HB2.out, HO2.out⟩
          · have hq5 : eqT ⟨y.d, y.c0, y.c1, y.c2, y.c3⟩ ⟨x.d, x.c0, x.c1, x.c2, x.c3⟩ = true := hq
            rw [hq] at hstep
            clear hq
            by_cases hki0 : k < i
            · rw [decide_eq_true hki0] at hstep
              have hki : (k : Int) < (i : Int) := by omega
              have HS := Lib.hid (show lowToC xs i (k + 1) = false by rw [hstep]; cases lowToC xs i k <;> rfl)
              clear hstep hle
              generalize lowToC xs i k = lk at *
              go_wp2_with fail
              refine wp_region_beh (by kernel_rfl) (by kernel_rfl) ?_
              repeat (first | go_big_quiet_step (fail) | quiet_step (fail))
              refine wpQuiet_nil ?_
              intro _ hw'
              obtain ⟨g, hw''⟩ := hw'
              subst hw''
              have HB2 := Lib.hid (HB.out.trans (g.h.mono HB.out.size)); have HO2 := Lib.hid (HO.out.below g.h)
              clear e0 e1 e2 e3 e4 f0 f1 f2 f3 f4 HB HO
              generalize g.w = wq at *
              clear g
              go_wp2
              go_roundg (n - (k + 1))
              case measure => omega
              case rel => exact ⟨k + 1, by omega, by omega, by go_num, by rw [HS.out], HB2.out, HO2.out⟩
            · rw [decide_eq_false hki0] at hstep
              have hki : decide ((k : Int) < (i : Int)) = false := decide_eq_false (by omega)
              have hki2 : ¬ (k : Int) < (i : Int) := by omega
              have hki3 : ¬ k < i := by omega
              have HS := Lib.hid (show lowToC xs i (k + 1) = lowToC xs i k by rw [hstep]; cases lowToC xs i k <;> rfl)
              clear hstep hle
              generalize lowToC xs i k = lk at *
              go_wp2_with fail
              refine wp_region_beh (by kernel_rfl) (by kernel_rfl) ?_
              repeat (first | go_big_quiet_step (fail) | quiet_step (fail))
              refine wpQuiet_nil ?_
              intro _ hw'
              obtain ⟨g, hw''⟩ := hw'
              subst hw''
              have HB2 := Lib.hid (HB.out.trans (g.h.mono HB.out.size)); have HO2 := Lib.hid (HO.out.below g.h)
              clear e0 e1 e2 e3 e4 f0 f1 f2 f3 f4 HB HO
              generalize g.w = wq at *
              clear g
              go_wp2
              go_roundg (n - (k + 1))
              case measure => omega
              case rel => exact ⟨k + 1, by omega, by omega, by go_num, by rw [HS.out], HB2.out, HO2.out⟩
        · have hlkz : ¬ (k : Int) < (n : Int) := by omega
          obtain rfl : k = n := by omega
          have HSk := Lib.hid (HSkip.out i out HG.out)
          have HPt := Lib.hid (HPut.out i out HG.out hlt)
          have hc := HRow.out wr HB.out i hlt
          rw [HX.out] at hc
          obtain ⟨wo, rfl⟩ : ∃ wo : World, wo = wr := ⟨_, rfl⟩
          cases hlow : lowToC xs i k
          · have HSk2 := Lib.hid (HSk.out hlow)
            clear hlow hc
            go_wp2
            go_roundg (k - (i + 1))
            case measure => omega
            case rel => exact ⟨i + 1, out, by omega, by omega, by go_num, HB.out, HO.out, HSk2.out, by omega⟩
          · have HPt2 := Lib.hid (HPt.out hlow)
            rw [show (xs[i]!) = x from HX.out] at HPt2
            have hlen : out.length ≤ 2000000000000 := by omega
            obtain ⟨e0, e1, e2, e3, e4⟩ := hc
            clear hlow HPt HSk
            go_wp2_with (at_builtin; refine OwnTT.push HO.out HB.out HB.out.size rfl _ _ rfl rfl _ rfl hlen ?_; intro v2 w2 hO2 hB2 hz2; obtain ⟨g, cp, rfl, hg1, hg2⟩ := hO2.form (by simp); have HO2 := Lib.hid hO2; have HB2 := Lib.hid hB2; clear hO2 hB2 hz2)
            have hnl : (out ++ [x]).length = out.length + 1 := by simp
            generalize hq : out.length = q at *
            have HQ := Lib.hid hq
            clear hq
            go_loopg [8] q (fun gg i' wr => ∃ k : Nat, k ≤ q ∧ k ≤ gg ∧ i' = .int .i64 k ∧ Hid (Below w.heap.size w wr) ∧ Hid (OwnTT w.heap.size wr (.slice (some ⟨g, 0, none⟩) (q + 1) cp) (out.take k ++ x :: out.drop k)) ∧ Hid (∀ y ∈ out.drop k, x.lt y = true))
            case atStart =>
              have HO2' := HO2.out
              rw [hnl] at HO2'
              refine ⟨q, Nat.le_refl _, Nat.le_refl _, rfl, HB2.out, ?_, ?_⟩
              · show OwnTT _ _ _ _
                rw [List.take_of_length_le (by rw [HQ.out]; exact Nat.le_refl _), List.drop_of_length_le (by rw [HQ.out]; exact Nat.le_refl _)]
                exact HO2'
              · show ∀ y ∈ _, _
                rw [List.drop_of_length_le (by rw [HQ.out]; exact Nat.le_refl _)]
                intro y hy
                cases hy
            case round =>
              obtain ⟨j, hjq, hgj, rfl, HB3, HO3, HD3⟩ := hrel
              by_cases hj0 : j = 0
              · subst hj0
                have HPt3 := Lib.hid (HPt2.out 0 (Nat.zero_le _) HD3.out (.inl rfl))
                go_wp2_with fail
                refine wp_region_beh (by kernel_rfl) (by kernel_rfl) ?_
                repeat (first | go_big_quiet_step (fail) | quiet_step (fail))
                refine wpQuiet_nil ?_
                intro _ hw'
                obtain ⟨gq, hw''⟩ := hw'
                subst hw''
                have HB4 := Lib.hid (HB3.out.trans (gq.h.mono HB3.out.size)); have HO4 := Lib.hid (HO3.out.below gq.h)
                generalize gq.w = wq at *
                clear gq
                go_wp2
                go_roundg (k - (i + 1))
                case measure => omega
                case rel => exact ⟨i + 1, _, by omega, by omega, by go_num, HB4.out, HO4.out, HPt3.out, by simp; have := HQ.out; omega⟩
              · obtain ⟨m, rfl⟩ : ∃ m, j = m + 1 := ⟨j - 1, by omega⟩
                have hmo : m < out.length := by have := HQ.out; omega
                have hR1 : (out.take (m + 1) ++ x :: out.drop (m + 1))[m + 1]! = x := by
                  rw [getElem!_pos _ _ (by simp; omega), List.getElem_append_right (by simp; omega)]
                  simp [show m + 1 - min (m + 1) out.length = 0 by omega]
                have hR0 : (out.take (m + 1) ++ x :: out.drop (m + 1))[m]! = out[m]! := by
                  rw [getElem!_pos _ _ (by simp; omega), List.getElem_append_left (by simp; omega), List.getElem_take, getElem!_pos out m hmo]
                have hRl : (out.take (m + 1) ++ x :: out.drop (m + 1)).length = q + 1 := by
                  have := HQ.out
                  simp
                  omega
                rcases HO3.out.is with ⟨h0, _⟩ | ⟨_, g', o', c', e, hgl, hrow⟩
                · simp at h0
                simp only [Value.slice.injEq, Option.some.injEq, Addr.mk.injEq, and_true] at e
                obtain ⟨⟨rfl, rfl⟩, hqq, rfl⟩ := e
                have c1 := hrow.at (m + 1) (by rw [hRl]; omega)
                have c0 := hrow.at m (by rw [hRl]; omega)
                rw [hR1] at c1
                rw [hR0] at c0
                have HLs := Lib.hid (rtlt_any x out[m]!)
                have HPt3 := Lib.hid (fun (h : x.lt out[m]! = false) => HPt2.out (m + 1) (by omega) HD3.out (.inr h))
                have HDn : Hid (x.lt out[m]! = true → ∀ y ∈ out.drop m, x.lt y = true) := fun h y hy => by
                  rw [List.drop_eq_getElem_cons hmo] at hy
                  rcases List.mem_cons.1 hy with e | hy
                  · rw [e, ← getElem!_pos out m hmo]; exact h
                  · exact HD3.out y hy
                have HSw : Hid (((out.take (m + 1) ++ x :: out.drop (m + 1)).set (m + 1) out[m]!).set m x = out.take m ++ x :: out.drop m) := by
                  show _ = _
                  have ht : out.take (m + 1) = out.take m ++ [out[m]!] := by rw [take_get out m hmo]
                  have hlm : (out.take m).length = m := by rw [List.length_take]; omega
                  rw [ht, List.append_assoc, List.set_append_right _ _ (by rw [hlm]; omega), hlm, List.set_append_right _ _ (by rw [hlm]; exact Nat.le_refl _), hlm, Nat.sub_self, show m + 1 - m = 1 by omega]
                  rw [List.drop_eq_getElem_cons hmo, getElem!_pos out m hmo]
                  rfl
                have HR1 := Lib.hid hR1; have HR0 := Lib.hid hR0
                clear hrow hR1 hR0 hqq
                generalize out[m]! = y at c0 HLs HPt3 HDn HSw HR0
                obtain ⟨x0, x1, x2, x3, x4⟩ := c1
                obtain ⟨y0, y1, y2, y3, y4⟩ := c0
                simp only [Nat.zero_add] at x0 x1 x2 x3 x4 y0 y1 y2 y3 y4
                generalize hjj : m + 1 = j at *
                have hjm : (j : Int) - 1 = (m : Int) := by omega
                have hjp : (0 : Int) < (j : Int) := by omega
                have hjp2 : 0 < j := by omega
                have hjp3 : decide ((j : Int) > 0) = true := decide_eq_true (by omega)
                have hjp4 : decide (0 < j) = true := decide_eq_true (by omega)
                have hjl : (j : Int) < ((q + 1 : Nat) : Int) := by omega
                have hml : (m : Int) < ((q + 1 : Nat) : Int) := by omega
                have HJ := Lib.hid hjj
                clear hjj
                have s0 := fun p => beh_cell x0 p; have s1 := fun p => beh_cell x1 p; have s2 := fun p => beh_cell x2 p; have s3 := fun p => beh_cell x3 p; have s4 := fun p => beh_cell x4 p
                have r0 := fun p => beh_cell y0 p; have r1 := fun p => beh_cell y1 p; have r2 := fun p => beh_cell y2 p; have r3 := fun p => beh_cell y3 p; have r4 := fun p => beh_cell y4 p
                clear x0 x1 x2 x3 x4 y0 y1 y2 y3 y4
                cases hlt2 : x.lt y
                · rw [hlt2] at HLs
                  have HPt4 := Lib.hid (HPt3.out hlt2)
                  clear hlt2 HDn HSw HPt3
                  go_wp2_with fail
                  refine wp_region_beh (by kernel_rfl) (by kernel_rfl) ?_
                  repeat (first | go_big_quiet_step (first | (with_reducible exact Calls.beh (HLs.out _))) | quiet_step (first | (with_reducible exact Calls.beh (HLs.out _))))
                  refine wpQuiet_nil ?_
                  intro _ hw'
                  obtain ⟨gq, hw''⟩ := hw'
                  subst hw''
                  have HB4 := Lib.hid (HB3.out.trans (gq.h.mono HB3.out.size)); have HO4 := Lib.hid (HO3.out.below gq.h)
                  clear s0 s1 s2 s3 s4 r0 r1 r2 r3 r4
                  generalize gq.w = wq at *
                  clear gq
                  go_wp2
                  go_roundg (k - (i + 1))
                  case measure => omega
                  case rel => exact ⟨i + 1, _, by omega, by omega, by go_num, HB4.out, HO4.out, HPt4.out, by rw [hRl]; have := HQ.out; omega⟩
                · rw [hlt2] at HLs
                  have HD4 := Lib.hid (HDn.out hlt2)
                  clear hlt2 HDn HPt3
                  go_wp2_with fail
                  refine wp_region_beh (by kernel_rfl) (by kernel_rfl) ?_
                  repeat (first | go_big_quiet_step (first | (with_reducible exact Calls.beh (HLs.out _))) | quiet_step (first | (with_reducible exact Calls.beh (HLs.out _))))
                  refine wpQuiet_nil ?_
                  intro _ hw'
                  obtain ⟨gq, hw''⟩ := hw'
                  subst hw''
                  have HB4 := Lib.hid (HB3.out.trans (gq.h.mono HB3.out.size)); have HO4 := Lib.hid (HO3.out.below gq.h)
                  clear s0 s1 s2 s3 s4 r0 r1 r2 r3 r4
                  generalize gq.w = wq at *
                  clear gq
                  have HJ9 : Hid (j < q + 1) := by show _ < _; omega
                  have HQ9 : Hid (q ≤ 2000000000000) := by show _ ≤ _; have := HQ.out; omega
                  have hsw := swap_at HO4.out HB4.out hRl.symm m j x y HJ.out HR1.out HR0.out HJ9.out
                  obtain ⟨o, hmo, hjo, ⟨y0, y1, y2, y3, y4, x0, x1, x2, x3, x4⟩, ⟨q0, q1, q2, q3, q4, q5, q6, q7, q8, q9⟩, F1, F2⟩ := hsw
                  have HF1 := Lib.hid F1; have HF2 := Lib.hid F2
                  clear F1 F2
                  obtain ⟨hwr, hwr2, hwr3, hwr4, hm2, hj2⟩ := swap_nums m j q HJ.out HQ9.out HJ9.out
                  clear HB4 HO4 hRl
                  clear HF2
                  go_wp2_with fail
                  go_region_law (fail)
                  all_goals
                    have hO9 := HF1.out.1.drew
                    have HB9 := Lib.hid HF1.out.2.drew
                    rw [HSw.out] at hO9
                    have HO9 := Lib.hid hO9
                    clear hO9 HF1 HSw
                    go_wp2
                    go_roundg m
                    case measure => exact Nat.lt_of_lt_of_le (Nat.lt_of_succ_le (Nat.le_of_eq HJ.out)) hgj
                    case rel => exact ⟨m, Nat.le_of_lt_succ (Nat.lt_trans (Nat.lt_of_succ_le (Nat.le_of_eq HJ.out)) HJ9.out), Nat.le_refl _, (by with_reducible first | rfl | rw [hwr3]), HB9.out, HO9.out, HD4.out⟩
    · have hlz : ¬ (i : Int) < (n : Int) := by omega
      obtain rfl : i = n := by omega
      have HE : Hid (out = res) := HFin.out _ HG.out
      have HO2 : Hid (OwnTT w.heap.size wr u3 res) := by show OwnTT _ _ _ _; rw [← HE.out]; exact HO.out
      clear HO HRow
      go_wp2
      go_returns
      exact ⟨_, rfl, HO2.out, HB.out⟩
end Go.Proofs.YtjaahmgokiobjaaGreat
