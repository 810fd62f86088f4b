/- the program's own step 4, 5, 6, 7, 8, 9, 10 -/
import Derived.Test.YthhceggcdaljdaaGreatK05
import Derived.Deep.RegionWith
namespace Go.Proofs.YthhceggcdaljdaaGreat
open Go.RowKit
set_option linter.unusedVariables false
set_option linter.unusedSimpArgs false

set_option maxRecDepth 100000 in
set_option maxHeartbeats 8000000 in
theorem pstep4 {B bm : Nat} {rk rv : Int} {w : World} {k : Nat} {sv ov : Value} {S : List Int} {O : List RV} (h : Mach B bm rk rv w (k : Int) sv ov S O) (nn : Int) (hk : k ≤ 1000) (hnn : inR nn) (hS8 : S.length ≤ 8) (hSr : ∀ x ∈ S, inR x) (hO8 : O.length ≤ 8) :
    Calls Tryz.prog 266 #[.pointer (some ⟨bm, 0, none⟩), .agg #[.int .i64 4, .int .i64 nn]] w (StepR B bm rk rv w (stepP ⟨rk, rv⟩ ⟨4, nn⟩ S O (k + 1))) := by
  obtain ⟨p, c, rfl⟩ := h.st.is.slice
  obtain ⟨hc, hform⟩ := own_form h.st
  have HN : Hid (∀ W, Calls Tryz.prog 274 #[.int .i64 4] W (RetW (.tuple #[.int .i64 2, .int .i64 1]) W)) := fun W => pneeds_any 4 (by decide) (by decide) W
  have HB1 := Lib.hid ((Below.refl B w).alloc h.size (.cells #[.int .i64 4, .int .i64 nn] 228))
  have hlt := h.lt
  have hne : bm ≠ w.heap.size := Nat.ne_of_lt h.lt
  have hne2 : w.heap.size ≠ bm := Nat.ne_of_gt h.lt
  have c2 : w.cell? ⟨bm, 2, none⟩ = some (.int .i64 (k : Int)) := rowOf_cell h.row 2
  have c3 : w.cell? ⟨bm, 3, none⟩ = some (.slice p S.length c) := rowOf_cell h.row 3
  have e2 := rowOf_frozen h.row 2
  have hk1 : ((k + 1 : Nat) : Int) = (k : Int) + 1 := by omega
  have HK1 := Lib.hid hk1
  clear hk1
  by_cases hA : S.length < 2
  · have hst : stepP ⟨rk, rv⟩ ⟨4, nn⟩ S O (k + 1) = (1, S, O, k + 1) := by unfold stepP; exact if_pos (.inl (show S.length < 2 from hA))
    rw [hst]
    have hAi : (S.length : Int) < 2 := by omega
    clear hst h hform hnn hSr
    generalize S.length = n at *
    go_enter Tryz.func266, Tryz.ntmps266
    go_wp2_with fail
    refine (HN.out _).mono ?_
    rintro e w1 ⟨rfl, rfl⟩
    go_wp2
    go_returns
    exact ⟨rfl, HB1.out, fun e => absurd (show (1 : Int) = 0 from e) (by decide)⟩
  obtain ⟨m, hm⟩ : ∃ m, S.length = m + 2 := ⟨S.length - 2, by omega⟩
  have hnb : ¬ (S.length < 2 ∨ 8 < S.length - 2 + 1) := by omega
  obtain ⟨g, rfl⟩ : ∃ g, p = some ⟨g, 0, none⟩ := by
    rcases hform with ⟨e, _⟩ | h
    · rw [e] at hm; simp at hm
    · exact h
  have hy0 := hSr S[m]! (by rw [getElem!_pos S m (by omega)]; exact List.getElem_mem (by omega))
  have hy1 := hSr S[m + 1]! (by rw [getElem!_pos S (m + 1) (by omega)]; exact List.getElem_mem (by omega))
  have hst : stepP ⟨rk, rv⟩ ⟨4, nn⟩ S O (k + 1) = ((ofN 4 S[m]! S[m + 1]!).2, S.take m ++ [(ofN 4 S[m]! S[m + 1]!).1], O, k + 1) := by
    unfold stepP
    rw [if_neg (show ¬ (S.length < takesN 4 ∨ 8 < S.length - takesN 4 + givesN 4) from hnb)]
    simp [takesN, hm]
  rw [hst]
  have htl : (S.take m).length = m := by rw [List.length_take]; omega
  have HTl := Lib.hid htl
  have hTk := fun w3 hw => taken_of (op := 4) (nn := nn) (w3 := w3) h m (show m ≤ S.length by omega) hw
  have HTk := Lib.hid hTk
  have HT := Lib.hid (ptake2 (m := m) (c := c) (g := g) (by have := (h.setPc ((k : Int) + 1)).alloc (.cells #[.int .i64 4, .int .i64 nn] 228); rw [hm] at this; exact this) (by omega) (by omega))
  have hm8 : m + 2 ≤ 8 := by omega
  have hm9 : m + 1 ≤ 8 := by omega
  rw [hm] at c3
  have hcl := fun w3 hw j hj => (hTk w3 hw).cells g rfl j hj
  have HC0 := Lib.hid (fun w3 hw => hcl w3 hw m (by omega))
  have HC1 := Lib.hid (fun w3 hw => hcl w3 hw (m + 1) (by omega))
  clear hcl
  clear hTk hst hnb hform hSr htl h
  generalize S[m]! = y0 at *
  generalize S[m + 1]! = y1 at *
  clear hm hS8 hA hc
  go_enter Tryz.func266, Tryz.ntmps266
  go_wp2_with fail
  refine (HN.out _).mono ?_
  rintro e w1 ⟨rfl, rfl⟩
  go_wp2_with fail
  refine (HT.out).mono ?_
  rintro e w3 ⟨rfl, hw3⟩
  have T := HTk.out w3 hw3
  have HM := Lib.hid T.m; have HB := Lib.hid T.hb
  have s0 := HC0.out w3 hw3
  have s1 := HC1.out w3 hw3
  have i0 : w3.cell? ⟨w.heap.size, 0, none⟩ = _ := rowOf_cell T.x 0
  have i1 : w3.cell? ⟨w.heap.size, 1, none⟩ = some (.int .i64 nn) := rowOf_cell T.x 1
  have HLen : Hid ((S.take m).length + 2 ≤ 900000) := by show _ ≤ _; rw [HTl.out]; omega
  clear hw3 T HTk HT HTl c2 c3 e2 HC0 HC1 HB1 HN
  have HP := Lib.hid (pwork_any HM.out.drew 4 y0 y1 (by decide) (by decide) hy0 hy1 (Nat.le_trans (Nat.le_succ _) HLen.out))
  generalize ofN 4 y0 y1 = zz at *
  go_wp2_with fail
  go_region_with (go_at_call 278; refine (HP.out).mono ?_; rintro e w4 ⟨rfl, hb4, hM4⟩; have HM4 := Lib.hid hM4; have HB4 := Lib.hid (HB.out.drew.trans hb4); clear hM4 hb4)
  all_goals go_wp2
  all_goals go_returns
  all_goals exact ⟨rfl, HB4.out, fun e => (HM4.out e).elim fun sv' hM => ⟨_, _, by rw [HK1.out]; exact hM⟩⟩
set_option maxRecDepth 100000 in
set_option maxHeartbeats 8000000 in
theorem pstep5 {B bm : Nat} {rk rv : Int} {w : World} {k : Nat} {sv ov : Value} {S : List Int} {O : List RV} (h : Mach B bm rk rv w (k : Int) sv ov S O) (nn : Int) (hk : k ≤ 1000) (hnn : inR nn) (hS8 : S.length ≤ 8) (hSr : ∀ x ∈ S, inR x) (hO8 : O.length ≤ 8) :
    Calls Tryz.prog 266 #[.pointer (some ⟨bm, 0, none⟩), .agg #[.int .i64 5, .int .i64 nn]] w (StepR B bm rk rv w (stepP ⟨rk, rv⟩ ⟨5, nn⟩ S O (k + 1))) := by
  obtain ⟨p, c, rfl⟩ := h.st.is.slice
  obtain ⟨hc, hform⟩ := own_form h.st
  have HN : Hid (∀ W, Calls Tryz.prog 274 #[.int .i64 5] W (RetW (.tuple #[.int .i64 2, .int .i64 1]) W)) := fun W => pneeds_any 5 (by decide) (by decide) W
  have HB1 := Lib.hid ((Below.refl B w).alloc h.size (.cells #[.int .i64 5, .int .i64 nn] 228))
  have hlt := h.lt
  have hne : bm ≠ w.heap.size := Nat.ne_of_lt h.lt
  have hne2 : w.heap.size ≠ bm := Nat.ne_of_gt h.lt
  have c2 : w.cell? ⟨bm, 2, none⟩ = some (.int .i64 (k : Int)) := rowOf_cell h.row 2
  have c3 : w.cell? ⟨bm, 3, none⟩ = some (.slice p S.length c) := rowOf_cell h.row 3
  have e2 := rowOf_frozen h.row 2
  have hk1 : ((k + 1 : Nat) : Int) = (k : Int) + 1 := by omega
  have HK1 := Lib.hid hk1
  clear hk1
  by_cases hA : S.length < 2
  · have hst : stepP ⟨rk, rv⟩ ⟨5, nn⟩ S O (k + 1) = (1, S, O, k + 1) := by unfold stepP; exact if_pos (.inl (show S.length < 2 from hA))
    rw [hst]
    have hAi : (S.length : Int) < 2 := by omega
    clear hst h hform hnn hSr
    generalize S.length = n at *
    go_enter Tryz.func266, Tryz.ntmps266
    go_wp2_with fail
    refine (HN.out _).mono ?_
    rintro e w1 ⟨rfl, rfl⟩
    go_wp2
    go_returns
    exact ⟨rfl, HB1.out, fun e => absurd (show (1 : Int) = 0 from e) (by decide)⟩
  obtain ⟨m, hm⟩ : ∃ m, S.length = m + 2 := ⟨S.length - 2, by omega⟩
  have hnb : ¬ (S.length < 2 ∨ 8 < S.length - 2 + 1) := by omega
  obtain ⟨g, rfl⟩ : ∃ g, p = some ⟨g, 0, none⟩ := by
    rcases hform with ⟨e, _⟩ | h
    · rw [e] at hm; simp at hm
    · exact h
  have hy0 := hSr S[m]! (by rw [getElem!_pos S m (by omega)]; exact List.getElem_mem (by omega))
  have hy1 := hSr S[m + 1]! (by rw [getElem!_pos S (m + 1) (by omega)]; exact List.getElem_mem (by omega))
  have hst : stepP ⟨rk, rv⟩ ⟨5, nn⟩ S O (k + 1) = ((ofN 5 S[m]! S[m + 1]!).2, S.take m ++ [(ofN 5 S[m]! S[m + 1]!).1], O, k + 1) := by
    unfold stepP
    rw [if_neg (show ¬ (S.length < takesN 5 ∨ 8 < S.length - takesN 5 + givesN 5) from hnb)]
    simp [takesN, hm]
  rw [hst]
  have htl : (S.take m).length = m := by rw [List.length_take]; omega
  have HTl := Lib.hid htl
  have hTk := fun w3 hw => taken_of (op := 5) (nn := nn) (w3 := w3) h m (show m ≤ S.length by omega) hw
  have HTk := Lib.hid hTk
  have HT := Lib.hid (ptake2 (m := m) (c := c) (g := g) (by have := (h.setPc ((k : Int) + 1)).alloc (.cells #[.int .i64 5, .int .i64 nn] 228); rw [hm] at this; exact this) (by omega) (by omega))
  have hm8 : m + 2 ≤ 8 := by omega
  have hm9 : m + 1 ≤ 8 := by omega
  rw [hm] at c3
  have hcl := fun w3 hw j hj => (hTk w3 hw).cells g rfl j hj
  have HC0 := Lib.hid (fun w3 hw => hcl w3 hw m (by omega))
  have HC1 := Lib.hid (fun w3 hw => hcl w3 hw (m + 1) (by omega))
  clear hcl
  clear hTk hst hnb hform hSr htl h
  generalize S[m]! = y0 at *
  generalize S[m + 1]! = y1 at *
  clear hm hS8 hA hc
  go_enter Tryz.func266, Tryz.ntmps266
  go_wp2_with fail
  refine (HN.out _).mono ?_
  rintro e w1 ⟨rfl, rfl⟩
  go_wp2_with fail
  refine (HT.out).mono ?_
  rintro e w3 ⟨rfl, hw3⟩
  have T := HTk.out w3 hw3
  have HM := Lib.hid T.m; have HB := Lib.hid T.hb
  have s0 := HC0.out w3 hw3
  have s1 := HC1.out w3 hw3
  have i0 : w3.cell? ⟨w.heap.size, 0, none⟩ = _ := rowOf_cell T.x 0
  have i1 : w3.cell? ⟨w.heap.size, 1, none⟩ = some (.int .i64 nn) := rowOf_cell T.x 1
  have HLen : Hid ((S.take m).length + 2 ≤ 900000) := by show _ ≤ _; rw [HTl.out]; omega
  clear hw3 T HTk HT HTl c2 c3 e2 HC0 HC1 HB1 HN
  have HP := Lib.hid (pwork_any HM.out.drew 5 y0 y1 (by decide) (by decide) hy0 hy1 (Nat.le_trans (Nat.le_succ _) HLen.out))
  generalize ofN 5 y0 y1 = zz at *
  go_wp2_with fail
  go_region_with (go_at_call 278; refine (HP.out).mono ?_; rintro e w4 ⟨rfl, hb4, hM4⟩; have HM4 := Lib.hid hM4; have HB4 := Lib.hid (HB.out.drew.trans hb4); clear hM4 hb4)
  all_goals go_wp2
  all_goals go_returns
  all_goals exact ⟨rfl, HB4.out, fun e => (HM4.out e).elim fun sv' hM => ⟨_, _, by rw [HK1.out]; exact hM⟩⟩
set_option maxRecDepth 100000 in
set_option maxHeartbeats 8000000 in
theorem pstep6 {B bm : Nat} {rk rv : Int} {w : World} {k : Nat} {sv ov : Value} {S : List Int} {O : List RV} (h : Mach B bm rk rv w (k : Int) sv ov S O) (nn : Int) (hk : k ≤ 1000) (hnn : inR nn) (hS8 : S.length ≤ 8) (hSr : ∀ x ∈ S, inR x) (hO8 : O.length ≤ 8) :
    Calls Tryz.prog 266 #[.pointer (some ⟨bm, 0, none⟩), .agg #[.int .i64 6, .int .i64 nn]] w (StepR B bm rk rv w (stepP ⟨rk, rv⟩ ⟨6, nn⟩ S O (k + 1))) := by
  obtain ⟨p, c, rfl⟩ := h.st.is.slice
  obtain ⟨hc, hform⟩ := own_form h.st
  have HN : Hid (∀ W, Calls Tryz.prog 274 #[.int .i64 6] W (RetW (.tuple #[.int .i64 2, .int .i64 1]) W)) := fun W => pneeds_any 6 (by decide) (by decide) W
  have HB1 := Lib.hid ((Below.refl B w).alloc h.size (.cells #[.int .i64 6, .int .i64 nn] 228))
  have hlt := h.lt
  have hne : bm ≠ w.heap.size := Nat.ne_of_lt h.lt
  have hne2 : w.heap.size ≠ bm := Nat.ne_of_gt h.lt
  have c2 : w.cell? ⟨bm, 2, none⟩ = some (.int .i64 (k : Int)) := rowOf_cell h.row 2
  have c3 : w.cell? ⟨bm, 3, none⟩ = some (.slice p S.length c) := rowOf_cell h.row 3
  have e2 := rowOf_frozen h.row 2
  have hk1 : ((k + 1 : Nat) : Int) = (k : Int) + 1 := by omega
  have HK1 := Lib.hid hk1
  clear hk1
  by_cases hA : S.length < 2
  · have hst : stepP ⟨rk, rv⟩ ⟨6, nn⟩ S O (k + 1) = (1, S, O, k + 1) := by unfold stepP; exact if_pos (.inl (show S.length < 2 from hA))
    rw [hst]
    have hAi : (S.length : Int) < 2 := by omega
    clear hst h hform hnn hSr
    generalize S.length = n at *
    go_enter Tryz.func266, Tryz.ntmps266
    go_wp2_with fail
    refine (HN.out _).mono ?_
    rintro e w1 ⟨rfl, rfl⟩
    go_wp2
    go_returns
    exact ⟨rfl, HB1.out, fun e => absurd (show (1 : Int) = 0 from e) (by decide)⟩
  obtain ⟨m, hm⟩ : ∃ m, S.length = m + 2 := ⟨S.length - 2, by omega⟩
  have hnb : ¬ (S.length < 2 ∨ 8 < S.length - 2 + 1) := by omega
  obtain ⟨g, rfl⟩ : ∃ g, p = some ⟨g, 0, none⟩ := by
    rcases hform with ⟨e, _⟩ | h
    · rw [e] at hm; simp at hm
    · exact h
  have hy0 := hSr S[m]! (by rw [getElem!_pos S m (by omega)]; exact List.getElem_mem (by omega))
  have hy1 := hSr S[m + 1]! (by rw [getElem!_pos S (m + 1) (by omega)]; exact List.getElem_mem (by omega))
  have hst : stepP ⟨rk, rv⟩ ⟨6, nn⟩ S O (k + 1) = ((ofN 6 S[m]! S[m + 1]!).2, S.take m ++ [(ofN 6 S[m]! S[m + 1]!).1], O, k + 1) := by
    unfold stepP
    rw [if_neg (show ¬ (S.length < takesN 6 ∨ 8 < S.length - takesN 6 + givesN 6) from hnb)]
    simp [takesN, hm]
  rw [hst]
  have htl : (S.take m).length = m := by rw [List.length_take]; omega
  have HTl := Lib.hid htl
  have hTk := fun w3 hw => taken_of (op := 6) (nn := nn) (w3 := w3) h m (show m ≤ S.length by omega) hw
  have HTk := Lib.hid hTk
  have HT := Lib.hid (ptake2 (m := m) (c := c) (g := g) (by have := (h.setPc ((k : Int) + 1)).alloc (.cells #[.int .i64 6, .int .i64 nn] 228); rw [hm] at this; exact this) (by omega) (by omega))
  have hm8 : m + 2 ≤ 8 := by omega
  have hm9 : m + 1 ≤ 8 := by omega
  rw [hm] at c3
  have hcl := fun w3 hw j hj => (hTk w3 hw).cells g rfl j hj
  have HC0 := Lib.hid (fun w3 hw => hcl w3 hw m (by omega))
  have HC1 := Lib.hid (fun w3 hw => hcl w3 hw (m + 1) (by omega))
  clear hcl
  clear hTk hst hnb hform hSr htl h
  generalize S[m]! = y0 at *
  generalize S[m + 1]! = y1 at *
  clear hm hS8 hA hc
  go_enter Tryz.func266, Tryz.ntmps266
  go_wp2_with fail
  refine (HN.out _).mono ?_
  rintro e w1 ⟨rfl, rfl⟩
  go_wp2_with fail
  refine (HT.out).mono ?_
  rintro e w3 ⟨rfl, hw3⟩
  have T := HTk.out w3 hw3
  have HM := Lib.hid T.m; have HB := Lib.hid T.hb
  have s0 := HC0.out w3 hw3
  have s1 := HC1.out w3 hw3
  have i0 : w3.cell? ⟨w.heap.size, 0, none⟩ = _ := rowOf_cell T.x 0
  have i1 : w3.cell? ⟨w.heap.size, 1, none⟩ = some (.int .i64 nn) := rowOf_cell T.x 1
  have HLen : Hid ((S.take m).length + 2 ≤ 900000) := by show _ ≤ _; rw [HTl.out]; omega
  clear hw3 T HTk HT HTl c2 c3 e2 HC0 HC1 HB1 HN
  have HP := Lib.hid (pwork_any HM.out.drew 6 y0 y1 (by decide) (by decide) hy0 hy1 (Nat.le_trans (Nat.le_succ _) HLen.out))
  generalize ofN 6 y0 y1 = zz at *
  go_wp2_with fail
  go_region_with (go_at_call 278; refine (HP.out).mono ?_; rintro e w4 ⟨rfl, hb4, hM4⟩; have HM4 := Lib.hid hM4; have HB4 := Lib.hid (HB.out.drew.trans hb4); clear hM4 hb4)
  all_goals go_wp2
  all_goals go_returns
  all_goals exact ⟨rfl, HB4.out, fun e => (HM4.out e).elim fun sv' hM => ⟨_, _, by rw [HK1.out]; exact hM⟩⟩
set_option maxRecDepth 100000 in
set_option maxHeartbeats 8000000 in
theorem pstep7 {B bm : Nat} {rk rv : Int} {w : World} {k : Nat} {sv ov : Value} {S : List Int} {O : List RV} (h : Mach B bm rk rv w (k : Int) sv ov S O) (nn : Int) (hk : k ≤ 1000) (hnn : inR nn) (hS8 : S.length ≤ 8) (hSr : ∀ x ∈ S, inR x) (hO8 : O.length ≤ 8) :
    Calls Tryz.prog 266 #[.pointer (some ⟨bm, 0, none⟩), .agg #[.int .i64 7, .int .i64 nn]] w (StepR B bm rk rv w (stepP ⟨rk, rv⟩ ⟨7, nn⟩ S O (k + 1))) := by
  obtain ⟨p, c, rfl⟩ := h.st.is.slice
  obtain ⟨hc, hform⟩ := own_form h.st
  have HN : Hid (∀ W, Calls Tryz.prog 274 #[.int .i64 7] W (RetW (.tuple #[.int .i64 2, .int .i64 1]) W)) := fun W => pneeds_any 7 (by decide) (by decide) W
  have HB1 := Lib.hid ((Below.refl B w).alloc h.size (.cells #[.int .i64 7, .int .i64 nn] 228))
  have hlt := h.lt
  have hne : bm ≠ w.heap.size := Nat.ne_of_lt h.lt
  have hne2 : w.heap.size ≠ bm := Nat.ne_of_gt h.lt
  have c2 : w.cell? ⟨bm, 2, none⟩ = some (.int .i64 (k : Int)) := rowOf_cell h.row 2
  have c3 : w.cell? ⟨bm, 3, none⟩ = some (.slice p S.length c) := rowOf_cell h.row 3
  have e2 := rowOf_frozen h.row 2
  have hk1 : ((k + 1 : Nat) : Int) = (k : Int) + 1 := by omega
  have HK1 := Lib.hid hk1
  clear hk1
  by_cases hA : S.length < 2
  · have hst : stepP ⟨rk, rv⟩ ⟨7, nn⟩ S O (k + 1) = (1, S, O, k + 1) := by unfold stepP; exact if_pos (.inl (show S.length < 2 from hA))
    rw [hst]
    have hAi : (S.length : Int) < 2 := by omega
    clear hst h hform hnn hSr
    generalize S.length = n at *
    go_enter Tryz.func266, Tryz.ntmps266
    go_wp2_with fail
    refine (HN.out _).mono ?_
    rintro e w1 ⟨rfl, rfl⟩
    go_wp2
    go_returns
    exact ⟨rfl, HB1.out, fun e => absurd (show (1 : Int) = 0 from e) (by decide)⟩
  obtain ⟨m, hm⟩ : ∃ m, S.length = m + 2 := ⟨S.length - 2, by omega⟩
  have hnb : ¬ (S.length < 2 ∨ 8 < S.length - 2 + 1) := by omega
  obtain ⟨g, rfl⟩ : ∃ g, p = some ⟨g, 0, none⟩ := by
    rcases hform with ⟨e, _⟩ | h
    · rw [e] at hm; simp at hm
    · exact h
  have hy0 := hSr S[m]! (by rw [getElem!_pos S m (by omega)]; exact List.getElem_mem (by omega))
  have hy1 := hSr S[m + 1]! (by rw [getElem!_pos S (m + 1) (by omega)]; exact List.getElem_mem (by omega))
  have hst : stepP ⟨rk, rv⟩ ⟨7, nn⟩ S O (k + 1) = ((ofN 7 S[m]! S[m + 1]!).2, S.take m ++ [(ofN 7 S[m]! S[m + 1]!).1], O, k + 1) := by
    unfold stepP
    rw [if_neg (show ¬ (S.length < takesN 7 ∨ 8 < S.length - takesN 7 + givesN 7) from hnb)]
    simp [takesN, hm]
  rw [hst]
  have htl : (S.take m).length = m := by rw [List.length_take]; omega
  have HTl := Lib.hid htl
  have hTk := fun w3 hw => taken_of (op := 7) (nn := nn) (w3 := w3) h m (show m ≤ S.length by omega) hw
  have HTk := Lib.hid hTk
  have HT := Lib.hid (ptake2 (m := m) (c := c) (g := g) (by have := (h.setPc ((k : Int) + 1)).alloc (.cells #[.int .i64 7, .int .i64 nn] 228); rw [hm] at this; exact this) (by omega) (by omega))
  have hm8 : m + 2 ≤ 8 := by omega
  have hm9 : m + 1 ≤ 8 := by omega
  rw [hm] at c3
  have hcl := fun w3 hw j hj => (hTk w3 hw).cells g rfl j hj
  have HC0 := Lib.hid (fun w3 hw => hcl w3 hw m (by omega))
  have HC1 := Lib.hid (fun w3 hw => hcl w3 hw (m + 1) (by omega))
  clear hcl
  clear hTk hst hnb hform hSr htl h
  generalize S[m]! = y0 at *
  generalize S[m + 1]! = y1 at *
  clear hm hS8 hA hc
  go_enter Tryz.func266, Tryz.ntmps266
  go_wp2_with fail
  refine (HN.out _).mono ?_
  rintro e w1 ⟨rfl, rfl⟩
  go_wp2_with fail
  refine (HT.out).mono ?_
  rintro e w3 ⟨rfl, hw3⟩
  have T := HTk.out w3 hw3
  have HM := Lib.hid T.m; have HB := Lib.hid T.hb
  have s0 := HC0.out w3 hw3
  have s1 := HC1.out w3 hw3
  have i0 : w3.cell? ⟨w.heap.size, 0, none⟩ = _ := rowOf_cell T.x 0
  have i1 : w3.cell? ⟨w.heap.size, 1, none⟩ = some (.int .i64 nn) := rowOf_cell T.x 1
  have HLen : Hid ((S.take m).length + 2 ≤ 900000) := by show _ ≤ _; rw [HTl.out]; omega
  clear hw3 T HTk HT HTl c2 c3 e2 HC0 HC1 HB1 HN
  have HP := Lib.hid (pwork_any HM.out.drew 7 y0 y1 (by decide) (by decide) hy0 hy1 (Nat.le_trans (Nat.le_succ _) HLen.out))
  generalize ofN 7 y0 y1 = zz at *
  go_wp2_with fail
  go_region_with (go_at_call 278; refine (HP.out).mono ?_; rintro e w4 ⟨rfl, hb4, hM4⟩; have HM4 := Lib.hid hM4; have HB4 := Lib.hid (HB.out.drew.trans hb4); clear hM4 hb4)
  all_goals go_wp2
  all_goals go_returns
  all_goals exact ⟨rfl, HB4.out, fun e => (HM4.out e).elim fun sv' hM => ⟨_, _, by rw [HK1.out]; exact hM⟩⟩
set_option maxRecDepth 100000 in
set_option maxHeartbeats 8000000 in
theorem pstep8 {B bm : Nat} {rk rv : Int} {w : World} {k : Nat} {sv ov : Value} {S : List Int} {O : List RV} (h : Mach B bm rk rv w (k : Int) sv ov S O) (nn : Int) (hk : k ≤ 1000) (hnn : inR nn) (hS8 : S.length ≤ 8) (hSr : ∀ x ∈ S, inR x) (hO8 : O.length ≤ 8) :
    Calls Tryz.prog 266 #[.pointer (some ⟨bm, 0, none⟩), .agg #[.int .i64 8, .int .i64 nn]] w (StepR B bm rk rv w (stepP ⟨rk, rv⟩ ⟨8, nn⟩ S O (k + 1))) := by
  obtain ⟨p, c, rfl⟩ := h.st.is.slice
  obtain ⟨hc, hform⟩ := own_form h.st
  have HN : Hid (∀ W, Calls Tryz.prog 274 #[.int .i64 8] W (RetW (.tuple #[.int .i64 2, .int .i64 1]) W)) := fun W => pneeds_any 8 (by decide) (by decide) W
  have HB1 := Lib.hid ((Below.refl B w).alloc h.size (.cells #[.int .i64 8, .int .i64 nn] 228))
  have hlt := h.lt
  have hne : bm ≠ w.heap.size := Nat.ne_of_lt h.lt
  have hne2 : w.heap.size ≠ bm := Nat.ne_of_gt h.lt
  have c2 : w.cell? ⟨bm, 2, none⟩ = some (.int .i64 (k : Int)) := rowOf_cell h.row 2
  have c3 : w.cell? ⟨bm, 3, none⟩ = some (.slice p S.length c) := rowOf_cell h.row 3
  have e2 := rowOf_frozen h.row 2
  have hk1 : ((k + 1 : Nat) : Int) = (k : Int) + 1 := by omega
  have HK1 := Lib.hid hk1
  clear hk1
  by_cases hA : S.length < 2
  · have hst : stepP ⟨rk, rv⟩ ⟨8, nn⟩ S O (k + 1) = (1, S, O, k + 1) := by unfold stepP; exact if_pos (.inl (show S.length < 2 from hA))
    rw [hst]
    have hAi : (S.length : Int) < 2 := by omega
    clear hst h hform hnn hSr
    generalize S.length = n at *
    go_enter Tryz.func266, Tryz.ntmps266
    go_wp2_with fail
    refine (HN.out _).mono ?_
    rintro e w1 ⟨rfl, rfl⟩
    go_wp2
    go_returns
    exact ⟨rfl, HB1.out, fun e => absurd (show (1 : Int) = 0 from e) (by decide)⟩
  obtain ⟨m, hm⟩ : ∃ m, S.length = m + 2 := ⟨S.length - 2, by omega⟩
  have hnb : ¬ (S.length < 2 ∨ 8 < S.length - 2 + 1) := by omega
  obtain ⟨g, rfl⟩ : ∃ g, p = some ⟨g, 0, none⟩ := by
    rcases hform with ⟨e, _⟩ | h
    · rw [e] at hm; simp at hm
    · exact h
  have hy0 := hSr S[m]! (by rw [getElem!_pos S m (by omega)]; exact List.getElem_mem (by omega))
  have hy1 := hSr S[m + 1]! (by rw [getElem!_pos S (m + 1) (by omega)]; exact List.getElem_mem (by omega))
  have hst : stepP ⟨rk, rv⟩ ⟨8, nn⟩ S O (k + 1) = ((ofN 8 S[m]! S[m + 1]!).2, S.take m ++ [(ofN 8 S[m]! S[m + 1]!).1], O, k + 1) := by
    unfold stepP
    rw [if_neg (show ¬ (S.length < takesN 8 ∨ 8 < S.length - takesN 8 + givesN 8) from hnb)]
    simp [takesN, hm]
  rw [hst]
  have htl : (S.take m).length = m := by rw [List.length_take]; omega
  have HTl := Lib.hid htl
  have hTk := fun w3 hw => taken_of (op := 8) (nn := nn) (w3 := w3) h m (show m ≤ S.length by omega) hw
  have HTk := Lib.hid hTk
  have HT := Lib.hid (ptake2 (m := m) (c := c) (g := g) (by have := (h.setPc ((k : Int) + 1)).alloc (.cells #[.int .i64 8, .int .i64 nn] 228); rw [hm] at this; exact this) (by omega) (by omega))
  have hm8 : m + 2 ≤ 8 := by omega
  have hm9 : m + 1 ≤ 8 := by omega
  rw [hm] at c3
  have hcl := fun w3 hw j hj => (hTk w3 hw).cells g rfl j hj
  have HC0 := Lib.hid (fun w3 hw => hcl w3 hw m (by omega))
  have HC1 := Lib.hid (fun w3 hw => hcl w3 hw (m + 1) (by omega))
  clear hcl
  clear hTk hst hnb hform hSr htl h
  generalize S[m]! = y0 at *
  generalize S[m + 1]! = y1 at *
  clear hm hS8 hA hc
  go_enter Tryz.func266, Tryz.ntmps266
  go_wp2_with fail
  refine (HN.out _).mono ?_
  rintro e w1 ⟨rfl, rfl⟩
  go_wp2_with fail
  refine (HT.out).mono ?_
  rintro e w3 ⟨rfl, hw3⟩
  have T := HTk.out w3 hw3
  have HM := Lib.hid T.m; have HB := Lib.hid T.hb
  have s0 := HC0.out w3 hw3
  have s1 := HC1.out w3 hw3
  have i0 : w3.cell? ⟨w.heap.size, 0, none⟩ = _ := rowOf_cell T.x 0
  have i1 : w3.cell? ⟨w.heap.size, 1, none⟩ = some (.int .i64 nn) := rowOf_cell T.x 1
  have HLen : Hid ((S.take m).length + 2 ≤ 900000) := by show _ ≤ _; rw [HTl.out]; omega
  clear hw3 T HTk HT HTl c2 c3 e2 HC0 HC1 HB1 HN
  have HP := Lib.hid (pwork_any HM.out.drew 8 y0 y1 (by decide) (by decide) hy0 hy1 (Nat.le_trans (Nat.le_succ _) HLen.out))
  generalize ofN 8 y0 y1 = zz at *
  go_wp2_with fail
  go_region_with (go_at_call 278; refine (HP.out).mono ?_; rintro e w4 ⟨rfl, hb4, hM4⟩; have HM4 := Lib.hid hM4; have HB4 := Lib.hid (HB.out.drew.trans hb4); clear hM4 hb4)
  all_goals go_wp2
  all_goals go_returns
  all_goals exact ⟨rfl, HB4.out, fun e => (HM4.out e).elim fun sv' hM => ⟨_, _, by rw [HK1.out]; exact hM⟩⟩
set_option maxRecDepth 100000 in
set_option maxHeartbeats 8000000 in
theorem pstep9 {B bm : Nat} {rk rv : Int} {w : World} {k : Nat} {sv ov : Value} {S : List Int} {O : List RV} (h : Mach B bm rk rv w (k : Int) sv ov S O) (nn : Int) (hk : k ≤ 1000) (hnn : inR nn) (hS8 : S.length ≤ 8) (hSr : ∀ x ∈ S, inR x) (hO8 : O.length ≤ 8) :
    Calls Tryz.prog 266 #[.pointer (some ⟨bm, 0, none⟩), .agg #[.int .i64 9, .int .i64 nn]] w (StepR B bm rk rv w (stepP ⟨rk, rv⟩ ⟨9, nn⟩ S O (k + 1))) := by
  obtain ⟨p, c, rfl⟩ := h.st.is.slice
  obtain ⟨hc, hform⟩ := own_form h.st
  have HN : Hid (∀ W, Calls Tryz.prog 274 #[.int .i64 9] W (RetW (.tuple #[.int .i64 2, .int .i64 1]) W)) := fun W => pneeds_any 9 (by decide) (by decide) W
  have HB1 := Lib.hid ((Below.refl B w).alloc h.size (.cells #[.int .i64 9, .int .i64 nn] 228))
  have hlt := h.lt
  have hne : bm ≠ w.heap.size := Nat.ne_of_lt h.lt
  have hne2 : w.heap.size ≠ bm := Nat.ne_of_gt h.lt
  have c2 : w.cell? ⟨bm, 2, none⟩ = some (.int .i64 (k : Int)) := rowOf_cell h.row 2
  have c3 : w.cell? ⟨bm, 3, none⟩ = some (.slice p S.length c) := rowOf_cell h.row 3
  have e2 := rowOf_frozen h.row 2
  have hk1 : ((k + 1 : Nat) : Int) = (k : Int) + 1 := by omega
  have HK1 := Lib.hid hk1
  clear hk1
  by_cases hA : S.length < 2
  · have hst : stepP ⟨rk, rv⟩ ⟨9, nn⟩ S O (k + 1) = (1, S, O, k + 1) := by unfold stepP; exact if_pos (.inl (show S.length < 2 from hA))
    rw [hst]
    have hAi : (S.length : Int) < 2 := by omega
    clear hst h hform hnn hSr
    generalize S.length = n at *
    go_enter Tryz.func266, Tryz.ntmps266
    go_wp2_with fail
    refine (HN.out _).mono ?_
    rintro e w1 ⟨rfl, rfl⟩
    go_wp2
    go_returns
    exact ⟨rfl, HB1.out, fun e => absurd (show (1 : Int) = 0 from e) (by decide)⟩
  obtain ⟨m, hm⟩ : ∃ m, S.length = m + 2 := ⟨S.length - 2, by omega⟩
  have hnb : ¬ (S.length < 2 ∨ 8 < S.length - 2 + 1) := by omega
  obtain ⟨g, rfl⟩ : ∃ g, p = some ⟨g, 0, none⟩ := by
    rcases hform with ⟨e, _⟩ | h
    · rw [e] at hm; simp at hm
    · exact h
  have hy0 := hSr S[m]! (by rw [getElem!_pos S m (by omega)]; exact List.getElem_mem (by omega))
  have hy1 := hSr S[m + 1]! (by rw [getElem!_pos S (m + 1) (by omega)]; exact List.getElem_mem (by omega))
  have hst : stepP ⟨rk, rv⟩ ⟨9, nn⟩ S O (k + 1) = ((ofN 9 S[m]! S[m + 1]!).2, S.take m ++ [(ofN 9 S[m]! S[m + 1]!).1], O, k + 1) := by
    unfold stepP
    rw [if_neg (show ¬ (S.length < takesN 9 ∨ 8 < S.length - takesN 9 + givesN 9) from hnb)]
    simp [takesN, hm]
  rw [hst]
  have htl : (S.take m).length = m := by rw [List.length_take]; omega
  have HTl := Lib.hid htl
  have hTk := fun w3 hw => taken_of (op := 9) (nn := nn) (w3 := w3) h m (show m ≤ S.length by omega) hw
  have HTk := Lib.hid hTk
  have HT := Lib.hid (ptake2 (m := m) (c := c) (g := g) (by have := (h.setPc ((k : Int) + 1)).alloc (.cells #[.int .i64 9, .int .i64 nn] 228); rw [hm] at this; exact this) (by omega) (by omega))
  have hm8 : m + 2 ≤ 8 := by omega
  have hm9 : m + 1 ≤ 8 := by omega
  rw [hm] at c3
  have hcl := fun w3 hw j hj => (hTk w3 hw).cells g rfl j hj
  have HC0 := Lib.hid (fun w3 hw => hcl w3 hw m (by omega))
  have HC1 := Lib.hid (fun w3 hw => hcl w3 hw (m + 1) (by omega))
  clear hcl
  clear hTk hst hnb hform hSr htl h
  generalize S[m]! = y0 at *
  generalize S[m + 1]! = y1 at *
  clear hm hS8 hA hc
  go_enter Tryz.func266, Tryz.ntmps266
  go_wp2_with fail
  refine (HN.out _).mono ?_
  rintro e w1 ⟨rfl, rfl⟩
  go_wp2_with fail
  refine (HT.out).mono ?_
  rintro e w3 ⟨rfl, hw3⟩
  have T := HTk.out w3 hw3
  have HM := Lib.hid T.m; have HB := Lib.hid T.hb
  have s0 := HC0.out w3 hw3
  have s1 := HC1.out w3 hw3
  have i0 : w3.cell? ⟨w.heap.size, 0, none⟩ = _ := rowOf_cell T.x 0
  have i1 : w3.cell? ⟨w.heap.size, 1, none⟩ = some (.int .i64 nn) := rowOf_cell T.x 1
  have HLen : Hid ((S.take m).length + 2 ≤ 900000) := by show _ ≤ _; rw [HTl.out]; omega
  clear hw3 T HTk HT HTl c2 c3 e2 HC0 HC1 HB1 HN
  have HP := Lib.hid (pwork_any HM.out.drew 9 y0 y1 (by decide) (by decide) hy0 hy1 (Nat.le_trans (Nat.le_succ _) HLen.out))
  generalize ofN 9 y0 y1 = zz at *
  go_wp2_with fail
  go_region_with (go_at_call 278; refine (HP.out).mono ?_; rintro e w4 ⟨rfl, hb4, hM4⟩; have HM4 := Lib.hid hM4; have HB4 := Lib.hid (HB.out.drew.trans hb4); clear hM4 hb4)
  all_goals go_wp2
  all_goals go_returns
  all_goals exact ⟨rfl, HB4.out, fun e => (HM4.out e).elim fun sv' hM => ⟨_, _, by rw [HK1.out]; exact hM⟩⟩
set_option maxRecDepth 100000 in
set_option maxHeartbeats 8000000 in
theorem pstep10 {B bm : Nat} {rk rv : Int} {w : World} {k : Nat} {sv ov : Value} {S : List Int} {O : List RV} (h : Mach B bm rk rv w (k : Int) sv ov S O) (nn : Int) (hk : k ≤ 1000) (hnn : inR nn) (hS8 : S.length ≤ 8) (hSr : ∀ x ∈ S, inR x) (hO8 : O.length ≤ 8) :
    Calls Tryz.prog 266 #[.pointer (some ⟨bm, 0, none⟩), .agg #[.int .i64 10, .int .i64 nn]] w (StepR B bm rk rv w (stepP ⟨rk, rv⟩ ⟨10, nn⟩ S O (k + 1))) := by
  obtain ⟨p, c, rfl⟩ := h.st.is.slice
  obtain ⟨hc, hform⟩ := own_form h.st
  have HN : Hid (∀ W, Calls Tryz.prog 274 #[.int .i64 10] W (RetW (.tuple #[.int .i64 2, .int .i64 1]) W)) := fun W => pneeds_any 10 (by decide) (by decide) W
  have HB1 := Lib.hid ((Below.refl B w).alloc h.size (.cells #[.int .i64 10, .int .i64 nn] 228))
  have hlt := h.lt
  have hne : bm ≠ w.heap.size := Nat.ne_of_lt h.lt
  have hne2 : w.heap.size ≠ bm := Nat.ne_of_gt h.lt
  have c2 : w.cell? ⟨bm, 2, none⟩ = some (.int .i64 (k : Int)) := rowOf_cell h.row 2
  have c3 : w.cell? ⟨bm, 3, none⟩ = some (.slice p S.length c) := rowOf_cell h.row 3
  have e2 := rowOf_frozen h.row 2
  have hk1 : ((k + 1 : Nat) : Int) = (k : Int) + 1 := by omega
  have HK1 := Lib.hid hk1
  clear hk1
  by_cases hA : S.length < 2
  · have hst : stepP ⟨rk, rv⟩ ⟨10, nn⟩ S O (k + 1) = (1, S, O, k + 1) := by unfold stepP; exact if_pos (.inl (show S.length < 2 from hA))
    rw [hst]
    have hAi : (S.length : Int) < 2 := by omega
    clear hst h hform hnn hSr
    generalize S.length = n at *
    go_enter Tryz.func266, Tryz.ntmps266
    go_wp2_with fail
    refine (HN.out _).mono ?_
    rintro e w1 ⟨rfl, rfl⟩
    go_wp2
    go_returns
    exact ⟨rfl, HB1.out, fun e => absurd (show (1 : Int) = 0 from e) (by decide)⟩
  obtain ⟨m, hm⟩ : ∃ m, S.length = m + 2 := ⟨S.length - 2, by omega⟩
  have hnb : ¬ (S.length < 2 ∨ 8 < S.length - 2 + 1) := by omega
  obtain ⟨g, rfl⟩ : ∃ g, p = some ⟨g, 0, none⟩ := by
    rcases hform with ⟨e, _⟩ | h
    · rw [e] at hm; simp at hm
    · exact h
  have hy0 := hSr S[m]! (by rw [getElem!_pos S m (by omega)]; exact List.getElem_mem (by omega))
  have hy1 := hSr S[m + 1]! (by rw [getElem!_pos S (m + 1) (by omega)]; exact List.getElem_mem (by omega))
  have hst : stepP ⟨rk, rv⟩ ⟨10, nn⟩ S O (k + 1) = ((ofN 10 S[m]! S[m + 1]!).2, S.take m ++ [(ofN 10 S[m]! S[m + 1]!).1], O, k + 1) := by
    unfold stepP
    rw [if_neg (show ¬ (S.length < takesN 10 ∨ 8 < S.length - takesN 10 + givesN 10) from hnb)]
    simp [takesN, hm]
  rw [hst]
  have htl : (S.take m).length = m := by rw [List.length_take]; omega
  have HTl := Lib.hid htl
  have hTk := fun w3 hw => taken_of (op := 10) (nn := nn) (w3 := w3) h m (show m ≤ S.length by omega) hw
  have HTk := Lib.hid hTk
  have HT := Lib.hid (ptake2 (m := m) (c := c) (g := g) (by have := (h.setPc ((k : Int) + 1)).alloc (.cells #[.int .i64 10, .int .i64 nn] 228); rw [hm] at this; exact this) (by omega) (by omega))
  have hm8 : m + 2 ≤ 8 := by omega
  have hm9 : m + 1 ≤ 8 := by omega
  rw [hm] at c3
  have hcl := fun w3 hw j hj => (hTk w3 hw).cells g rfl j hj
  have HC0 := Lib.hid (fun w3 hw => hcl w3 hw m (by omega))
  have HC1 := Lib.hid (fun w3 hw => hcl w3 hw (m + 1) (by omega))
  clear hcl
  clear hTk hst hnb hform hSr htl h
  generalize S[m]! = y0 at *
  generalize S[m + 1]! = y1 at *
  clear hm hS8 hA hc
  go_enter Tryz.func266, Tryz.ntmps266
  go_wp2_with fail
  refine (HN.out _).mono ?_
  rintro e w1 ⟨rfl, rfl⟩
  go_wp2_with fail
  refine (HT.out).mono ?_
  rintro e w3 ⟨rfl, hw3⟩
  have T := HTk.out w3 hw3
  have HM := Lib.hid T.m; have HB := Lib.hid T.hb
  have s0 := HC0.out w3 hw3
  have s1 := HC1.out w3 hw3
  have i0 : w3.cell? ⟨w.heap.size, 0, none⟩ = _ := rowOf_cell T.x 0
  have i1 : w3.cell? ⟨w.heap.size, 1, none⟩ = some (.int .i64 nn) := rowOf_cell T.x 1
  have HLen : Hid ((S.take m).length + 2 ≤ 900000) := by show _ ≤ _; rw [HTl.out]; omega
  clear hw3 T HTk HT HTl c2 c3 e2 HC0 HC1 HB1 HN
  have HP := Lib.hid (pwork_any HM.out.drew 10 y0 y1 (by decide) (by decide) hy0 hy1 (Nat.le_trans (Nat.le_succ _) HLen.out))
  generalize ofN 10 y0 y1 = zz at *
  go_wp2_with fail
  go_region_with (go_at_call 278; refine (HP.out).mono ?_; rintro e w4 ⟨rfl, hb4, hM4⟩; have HM4 := Lib.hid hM4; have HB4 := Lib.hid (HB.out.drew.trans hb4); clear hM4 hb4)
  all_goals go_wp2
  all_goals go_returns
  all_goals exact ⟨rfl, HB4.out, fun e => (HM4.out e).elim fun sv' hM => ⟨_, _, by rw [HK1.out]; exact hM⟩⟩
end Go.Proofs.YthhceggcdaljdaaGreat
