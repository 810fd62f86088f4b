/- the program's own step 1, 2, 3, 11, 12, 13, 14, 15, 16 -/
import Derived.Test.YthhceggcdaljdaaGreatK05
import Derived.Deep.RegionWith
namespace Go.Proofs.YthhceggcdaljdaaGreat
open Go.RowKit
set_option linter.unusedVariables false
set_option linter.unusedSimpArgs false

set_option maxRecDepth 100000 in
set_option maxHeartbeats 8000000 in
theorem pstep1 {B bm : Nat} {rk rv : Int} {w : World} {k : Nat} {sv ov : Value} {S : List Int} {O : List RV} (h : Mach B bm rk rv w (k : Int) sv ov S O) (nn : Int) (hk : k ≤ 1000) (hnn : inR nn) (hS8 : S.length ≤ 8) (hSr : ∀ x ∈ S, inR x) (hO8 : O.length ≤ 8) :
    Calls Tryz.prog 266 #[.pointer (some ⟨bm, 0, none⟩), .agg #[.int .i64 1, .int .i64 nn]] w (StepR B bm rk rv w (stepP ⟨rk, rv⟩ ⟨1, nn⟩ S O (k + 1))) := by
  obtain ⟨p, c, rfl⟩ := h.st.is.slice
  obtain ⟨hc, hform⟩ := own_form h.st
  have HN : Hid (∀ W, Calls Tryz.prog 274 #[.int .i64 1] W (RetW (.tuple #[.int .i64 0, .int .i64 1]) W)) := fun W => pneeds_any 1 (by decide) (by decide) W
  have HB1 := Lib.hid ((Below.refl B w).alloc h.size (.cells #[.int .i64 1, .int .i64 nn] 228))
  have hlt := h.lt
  have hne : bm ≠ w.heap.size := Nat.ne_of_lt h.lt
  have hne2 : w.heap.size ≠ bm := Nat.ne_of_gt h.lt
  have c2 : w.cell? ⟨bm, 2, none⟩ = some (.int .i64 (k : Int)) := rowOf_cell h.row 2
  have c3 : w.cell? ⟨bm, 3, none⟩ = some (.slice p S.length c) := rowOf_cell h.row 3
  have e2 := rowOf_frozen h.row 2
  have hk1 : ((k + 1 : Nat) : Int) = (k : Int) + 1 := by omega
  have HK1 := Lib.hid hk1
  clear hk1
  by_cases hA2 : 8 < S.length - 0 + 1
  · have hst : stepP ⟨rk, rv⟩ ⟨1, nn⟩ S O (k + 1) = (1, S, O, k + 1) := by unfold stepP; exact if_pos (.inr (show 8 < S.length - 0 + 1 by omega))
    rw [hst]
    have hAj : (S.length : Int) + 1 > 8 := by omega
    clear hst h hform hnn hSr
    generalize S.length = n at *
    go_enter Tryz.func266, Tryz.ntmps266
    go_wp2_with fail
    refine (HN.out _).mono ?_
    rintro e w1 ⟨rfl, rfl⟩
    go_wp2
    go_returns
    exact ⟨rfl, HB1.out, fun e => absurd (show (1 : Int) = 0 from e) (by decide)⟩
  obtain ⟨m, hm⟩ : ∃ m, S.length = m + 0 := ⟨S.length - 0, by omega⟩
  have hnb : ¬ (S.length < 0 ∨ 8 < S.length - 0 + 1) := by omega
  have hpf : p = none ∨ ∃ g, p = some ⟨g, 0, none⟩ := hform.elim (fun h => .inl h.2) .inr
  have hst : stepP ⟨rk, rv⟩ ⟨1, nn⟩ S O (k + 1) = (0, S.take m ++ [nn], O, k + 1) := by
    unfold stepP
    rw [if_neg (show ¬ (S.length < takesN 1 ∨ 8 < S.length - takesN 1 + givesN 1) from hnb)]
    simp [takesN, hm]
  rw [hst]
  have htl : (S.take m).length = m := by rw [List.length_take]; omega
  have HTl := Lib.hid htl
  have hTk := fun w3 hw => taken_of (op := 1) (nn := nn) (w3 := w3) h m (show m ≤ S.length by omega) hw
  have HTk := Lib.hid hTk
  have HT := Lib.hid (ptake0 (m := m) (c := c) (p := p) (by have := (h.setPc ((k : Int) + 1)).alloc (.cells #[.int .i64 1, .int .i64 nn] 228); rw [hm] at this; exact this) (by omega) (by omega) hpf)
  have hm8 : m + 0 ≤ 8 := by omega
  have hm9 : m + 1 ≤ 8 := by omega
  rw [hm] at c3
  clear hTk hst hnb hform hSr htl hpf h
  clear hm hS8 hA2 hc
  go_enter Tryz.func266, Tryz.ntmps266
  go_wp2_with fail
  refine (HN.out _).mono ?_
  rintro e w1 ⟨rfl, rfl⟩
  go_wp2_with fail
  refine (HT.out).mono ?_
  rintro e w3 ⟨⟨tv, rfl⟩, hw3⟩
  have T := HTk.out w3 hw3
  have HM := Lib.hid T.m; have HB := Lib.hid T.hb
  have i0 : w3.cell? ⟨w.heap.size, 0, none⟩ = _ := rowOf_cell T.x 0
  have i1 : w3.cell? ⟨w.heap.size, 1, none⟩ = some (.int .i64 nn) := rowOf_cell T.x 1
  have HLen : Hid ((S.take m).length + 2 ≤ 900000) := by show _ ≤ _; rw [HTl.out]; omega
  clear hw3 T HTk HT HTl c2 c3 e2 HB1 HN
  have HP := Lib.hid (pput_any (HM.out.alloc (.cells #[.int .i64 nn] 2)) _ [nn] (new6 w3 nn) (Nat.le_trans (Nat.le_succ _) HLen.out))
  have HB2 := Lib.hid (HB.out.alloc HM.out.size (.cells #[.int .i64 nn] 2))
  go_wp2_with fail
  refine (HP.out).mono ?_
  rintro e w4 ⟨rfl, hb4, sv4, hM4⟩
  have HM4 := Lib.hid hM4; have HB4 := Lib.hid (HB2.out.trans hb4)
  clear hM4 hb4 HP HB2 HM HB
  go_wp2
  go_returns
  exact ⟨rfl, HB4.out, fun _ => ⟨_, _, by rw [HK1.out]; exact HM4.out⟩⟩
set_option maxRecDepth 100000 in
set_option maxHeartbeats 8000000 in
theorem pstep2 {B bm : Nat} {rk rv : Int} {w : World} {k : Nat} {sv ov : Value} {S : List Int} {O : List RV} (h : Mach B bm rk rv w (k : Int) sv ov S O) (nn : Int) (hk : k ≤ 1000) (hnn : inR nn) (hS8 : S.length ≤ 8) (hSr : ∀ x ∈ S, inR x) (hO8 : O.length ≤ 8) :
    Calls Tryz.prog 266 #[.pointer (some ⟨bm, 0, none⟩), .agg #[.int .i64 2, .int .i64 nn]] w (StepR B bm rk rv w (stepP ⟨rk, rv⟩ ⟨2, nn⟩ S O (k + 1))) := by
  obtain ⟨p, c, rfl⟩ := h.st.is.slice
  obtain ⟨hc, hform⟩ := own_form h.st
  have HN : Hid (∀ W, Calls Tryz.prog 274 #[.int .i64 2] W (RetW (.tuple #[.int .i64 0, .int .i64 1]) W)) := fun W => pneeds_any 2 (by decide) (by decide) W
  have HB1 := Lib.hid ((Below.refl B w).alloc h.size (.cells #[.int .i64 2, .int .i64 nn] 228))
  have hlt := h.lt
  have hne : bm ≠ w.heap.size := Nat.ne_of_lt h.lt
  have hne2 : w.heap.size ≠ bm := Nat.ne_of_gt h.lt
  have c2 : w.cell? ⟨bm, 2, none⟩ = some (.int .i64 (k : Int)) := rowOf_cell h.row 2
  have c3 : w.cell? ⟨bm, 3, none⟩ = some (.slice p S.length c) := rowOf_cell h.row 3
  have e2 := rowOf_frozen h.row 2
  have hk1 : ((k + 1 : Nat) : Int) = (k : Int) + 1 := by omega
  have HK1 := Lib.hid hk1
  clear hk1
  by_cases hA2 : 8 < S.length - 0 + 1
  · have hst : stepP ⟨rk, rv⟩ ⟨2, nn⟩ S O (k + 1) = (1, S, O, k + 1) := by unfold stepP; exact if_pos (.inr (show 8 < S.length - 0 + 1 by omega))
    rw [hst]
    have hAj : (S.length : Int) + 1 > 8 := by omega
    clear hst h hform hnn hSr
    generalize S.length = n at *
    go_enter Tryz.func266, Tryz.ntmps266
    go_wp2_with fail
    refine (HN.out _).mono ?_
    rintro e w1 ⟨rfl, rfl⟩
    go_wp2
    go_returns
    exact ⟨rfl, HB1.out, fun e => absurd (show (1 : Int) = 0 from e) (by decide)⟩
  obtain ⟨m, hm⟩ : ∃ m, S.length = m + 0 := ⟨S.length - 0, by omega⟩
  have hnb : ¬ (S.length < 0 ∨ 8 < S.length - 0 + 1) := by omega
  have hpf : p = none ∨ ∃ g, p = some ⟨g, 0, none⟩ := hform.elim (fun h => .inl h.2) .inr
  have hst : stepP ⟨rk, rv⟩ ⟨2, nn⟩ S O (k + 1) = (0, S.take m ++ [rk], O, k + 1) := by
    unfold stepP
    rw [if_neg (show ¬ (S.length < takesN 2 ∨ 8 < S.length - takesN 2 + givesN 2) from hnb)]
    simp [takesN, hm]
  rw [hst]
  have htl : (S.take m).length = m := by rw [List.length_take]; omega
  have HTl := Lib.hid htl
  have hTk := fun w3 hw => taken_of (op := 2) (nn := nn) (w3 := w3) h m (show m ≤ S.length by omega) hw
  have HTk := Lib.hid hTk
  have HT := Lib.hid (ptake0 (m := m) (c := c) (p := p) (by have := (h.setPc ((k : Int) + 1)).alloc (.cells #[.int .i64 2, .int .i64 nn] 228); rw [hm] at this; exact this) (by omega) (by omega) hpf)
  have hm8 : m + 0 ≤ 8 := by omega
  have hm9 : m + 1 ≤ 8 := by omega
  rw [hm] at c3
  clear hTk hst hnb hform hSr htl hpf h
  clear hm hS8 hA2 hc
  go_enter Tryz.func266, Tryz.ntmps266
  go_wp2_with fail
  refine (HN.out _).mono ?_
  rintro e w1 ⟨rfl, rfl⟩
  go_wp2_with fail
  refine (HT.out).mono ?_
  rintro e w3 ⟨⟨tv, rfl⟩, hw3⟩
  have T := HTk.out w3 hw3
  have HM := Lib.hid T.m; have HB := Lib.hid T.hb
  have i0 : w3.cell? ⟨w.heap.size, 0, none⟩ = _ := rowOf_cell T.x 0
  have i1 : w3.cell? ⟨w.heap.size, 1, none⟩ = some (.int .i64 nn) := rowOf_cell T.x 1
  have d0 : w3.cell? ⟨bm, 0, none⟩ = some (.int .i64 rk) := rowOf_cell T.m.row 0
  have HLen : Hid ((S.take m).length + 2 ≤ 900000) := by show _ ≤ _; rw [HTl.out]; omega
  clear hw3 T HTk HT HTl c2 c3 e2 HB1 HN
  have HP := Lib.hid (pput_any (HM.out.alloc (.cells #[.int .i64 rk] 2)) _ [rk] (new6 w3 rk) (Nat.le_trans (Nat.le_succ _) HLen.out))
  have HB2 := Lib.hid (HB.out.alloc HM.out.size (.cells #[.int .i64 rk] 2))
  go_wp2_with fail
  refine (HP.out).mono ?_
  rintro e w4 ⟨rfl, hb4, sv4, hM4⟩
  have HM4 := Lib.hid hM4; have HB4 := Lib.hid (HB2.out.trans hb4)
  clear hM4 hb4 HP HB2 HM HB
  go_wp2
  go_returns
  exact ⟨rfl, HB4.out, fun _ => ⟨_, _, by rw [HK1.out]; exact HM4.out⟩⟩
set_option maxRecDepth 100000 in
set_option maxHeartbeats 8000000 in
theorem pstep3 {B bm : Nat} {rk rv : Int} {w : World} {k : Nat} {sv ov : Value} {S : List Int} {O : List RV} (h : Mach B bm rk rv w (k : Int) sv ov S O) (nn : Int) (hk : k ≤ 1000) (hnn : inR nn) (hS8 : S.length ≤ 8) (hSr : ∀ x ∈ S, inR x) (hO8 : O.length ≤ 8) :
    Calls Tryz.prog 266 #[.pointer (some ⟨bm, 0, none⟩), .agg #[.int .i64 3, .int .i64 nn]] w (StepR B bm rk rv w (stepP ⟨rk, rv⟩ ⟨3, nn⟩ S O (k + 1))) := by
  obtain ⟨p, c, rfl⟩ := h.st.is.slice
  obtain ⟨hc, hform⟩ := own_form h.st
  have HN : Hid (∀ W, Calls Tryz.prog 274 #[.int .i64 3] W (RetW (.tuple #[.int .i64 0, .int .i64 1]) W)) := fun W => pneeds_any 3 (by decide) (by decide) W
  have HB1 := Lib.hid ((Below.refl B w).alloc h.size (.cells #[.int .i64 3, .int .i64 nn] 228))
  have hlt := h.lt
  have hne : bm ≠ w.heap.size := Nat.ne_of_lt h.lt
  have hne2 : w.heap.size ≠ bm := Nat.ne_of_gt h.lt
  have c2 : w.cell? ⟨bm, 2, none⟩ = some (.int .i64 (k : Int)) := rowOf_cell h.row 2
  have c3 : w.cell? ⟨bm, 3, none⟩ = some (.slice p S.length c) := rowOf_cell h.row 3
  have e2 := rowOf_frozen h.row 2
  have hk1 : ((k + 1 : Nat) : Int) = (k : Int) + 1 := by omega
  have HK1 := Lib.hid hk1
  clear hk1
  by_cases hA2 : 8 < S.length - 0 + 1
  · have hst : stepP ⟨rk, rv⟩ ⟨3, nn⟩ S O (k + 1) = (1, S, O, k + 1) := by unfold stepP; exact if_pos (.inr (show 8 < S.length - 0 + 1 by omega))
    rw [hst]
    have hAj : (S.length : Int) + 1 > 8 := by omega
    clear hst h hform hnn hSr
    generalize S.length = n at *
    go_enter Tryz.func266, Tryz.ntmps266
    go_wp2_with fail
    refine (HN.out _).mono ?_
    rintro e w1 ⟨rfl, rfl⟩
    go_wp2
    go_returns
    exact ⟨rfl, HB1.out, fun e => absurd (show (1 : Int) = 0 from e) (by decide)⟩
  obtain ⟨m, hm⟩ : ∃ m, S.length = m + 0 := ⟨S.length - 0, by omega⟩
  have hnb : ¬ (S.length < 0 ∨ 8 < S.length - 0 + 1) := by omega
  have hpf : p = none ∨ ∃ g, p = some ⟨g, 0, none⟩ := hform.elim (fun h => .inl h.2) .inr
  have hst : stepP ⟨rk, rv⟩ ⟨3, nn⟩ S O (k + 1) = (0, S.take m ++ [rv], O, k + 1) := by
    unfold stepP
    rw [if_neg (show ¬ (S.length < takesN 3 ∨ 8 < S.length - takesN 3 + givesN 3) from hnb)]
    simp [takesN, hm]
  rw [hst]
  have htl : (S.take m).length = m := by rw [List.length_take]; omega
  have HTl := Lib.hid htl
  have hTk := fun w3 hw => taken_of (op := 3) (nn := nn) (w3 := w3) h m (show m ≤ S.length by omega) hw
  have HTk := Lib.hid hTk
  have HT := Lib.hid (ptake0 (m := m) (c := c) (p := p) (by have := (h.setPc ((k : Int) + 1)).alloc (.cells #[.int .i64 3, .int .i64 nn] 228); rw [hm] at this; exact this) (by omega) (by omega) hpf)
  have hm8 : m + 0 ≤ 8 := by omega
  have hm9 : m + 1 ≤ 8 := by omega
  rw [hm] at c3
  clear hTk hst hnb hform hSr htl hpf h
  clear hm hS8 hA2 hc
  go_enter Tryz.func266, Tryz.ntmps266
  go_wp2_with fail
  refine (HN.out _).mono ?_
  rintro e w1 ⟨rfl, rfl⟩
  go_wp2_with fail
  refine (HT.out).mono ?_
  rintro e w3 ⟨⟨tv, rfl⟩, hw3⟩
  have T := HTk.out w3 hw3
  have HM := Lib.hid T.m; have HB := Lib.hid T.hb
  have i0 : w3.cell? ⟨w.heap.size, 0, none⟩ = _ := rowOf_cell T.x 0
  have i1 : w3.cell? ⟨w.heap.size, 1, none⟩ = some (.int .i64 nn) := rowOf_cell T.x 1
  have d1 : w3.cell? ⟨bm, 1, none⟩ = some (.int .i64 rv) := rowOf_cell T.m.row 1
  have HLen : Hid ((S.take m).length + 2 ≤ 900000) := by show _ ≤ _; rw [HTl.out]; omega
  clear hw3 T HTk HT HTl c2 c3 e2 HB1 HN
  have HP := Lib.hid (pput_any (HM.out.alloc (.cells #[.int .i64 rv] 2)) _ [rv] (new6 w3 rv) (Nat.le_trans (Nat.le_succ _) HLen.out))
  have HB2 := Lib.hid (HB.out.alloc HM.out.size (.cells #[.int .i64 rv] 2))
  go_wp2_with fail
  refine (HP.out).mono ?_
  rintro e w4 ⟨rfl, hb4, sv4, hM4⟩
  have HM4 := Lib.hid hM4; have HB4 := Lib.hid (HB2.out.trans hb4)
  clear hM4 hb4 HP HB2 HM HB
  go_wp2
  go_returns
  exact ⟨rfl, HB4.out, fun _ => ⟨_, _, by rw [HK1.out]; exact HM4.out⟩⟩
set_option maxRecDepth 100000 in
set_option maxHeartbeats 8000000 in
theorem pstep11 {B bm : Nat} {rk rv : Int} {w : World} {k : Nat} {sv ov : Value} {S : List Int} {O : List RV} (h : Mach B bm rk rv w (k : Int) sv ov S O) (nn : Int) (hk : k ≤ 1000) (hnn : inR nn) (hS8 : S.length ≤ 8) (hSr : ∀ x ∈ S, inR x) (hO8 : O.length ≤ 8) :
    Calls Tryz.prog 266 #[.pointer (some ⟨bm, 0, none⟩), .agg #[.int .i64 11, .int .i64 nn]] w (StepR B bm rk rv w (stepP ⟨rk, rv⟩ ⟨11, nn⟩ S O (k + 1))) := by
  obtain ⟨p, c, rfl⟩ := h.st.is.slice
  obtain ⟨hc, hform⟩ := own_form h.st
  have HN : Hid (∀ W, Calls Tryz.prog 274 #[.int .i64 11] W (RetW (.tuple #[.int .i64 1, .int .i64 2]) W)) := fun W => pneeds_any 11 (by decide) (by decide) W
  have HB1 := Lib.hid ((Below.refl B w).alloc h.size (.cells #[.int .i64 11, .int .i64 nn] 228))
  have hlt := h.lt
  have hne : bm ≠ w.heap.size := Nat.ne_of_lt h.lt
  have hne2 : w.heap.size ≠ bm := Nat.ne_of_gt h.lt
  have c2 : w.cell? ⟨bm, 2, none⟩ = some (.int .i64 (k : Int)) := rowOf_cell h.row 2
  have c3 : w.cell? ⟨bm, 3, none⟩ = some (.slice p S.length c) := rowOf_cell h.row 3
  have e2 := rowOf_frozen h.row 2
  have hk1 : ((k + 1 : Nat) : Int) = (k : Int) + 1 := by omega
  have HK1 := Lib.hid hk1
  clear hk1
  by_cases hA : S.length < 1
  · have hst : stepP ⟨rk, rv⟩ ⟨11, nn⟩ S O (k + 1) = (1, S, O, k + 1) := by unfold stepP; exact if_pos (.inl (show S.length < 1 from hA))
    rw [hst]
    have hAi : (S.length : Int) < 1 := by omega
    clear hst h hform hnn hSr
    generalize S.length = n at *
    go_enter Tryz.func266, Tryz.ntmps266
    go_wp2_with fail
    refine (HN.out _).mono ?_
    rintro e w1 ⟨rfl, rfl⟩
    go_wp2
    go_returns
    exact ⟨rfl, HB1.out, fun e => absurd (show (1 : Int) = 0 from e) (by decide)⟩
  by_cases hA2 : 8 < S.length - 1 + 2
  · have hst : stepP ⟨rk, rv⟩ ⟨11, nn⟩ S O (k + 1) = (1, S, O, k + 1) := by unfold stepP; exact if_pos (.inr (show 8 < S.length - 1 + 2 by omega))
    rw [hst]
    have hAi : ¬ (S.length : Int) < 1 := by omega
    have hAj : (S.length : Int) - 1 + 2 > 8 := by omega
    clear hst h hform hnn hSr
    generalize S.length = n at *
    go_enter Tryz.func266, Tryz.ntmps266
    go_wp2_with fail
    refine (HN.out _).mono ?_
    rintro e w1 ⟨rfl, rfl⟩
    go_wp2
    go_returns
    exact ⟨rfl, HB1.out, fun e => absurd (show (1 : Int) = 0 from e) (by decide)⟩
  obtain ⟨m, hm⟩ : ∃ m, S.length = m + 1 := ⟨S.length - 1, by omega⟩
  have hnb : ¬ (S.length < 1 ∨ 8 < S.length - 1 + 2) := by omega
  obtain ⟨g, rfl⟩ : ∃ g, p = some ⟨g, 0, none⟩ := by
    rcases hform with ⟨e, _⟩ | h
    · rw [e] at hm; simp at hm
    · exact h
  have hy0 := hSr S[m]! (by rw [getElem!_pos S m (by omega)]; exact List.getElem_mem (by omega))
  have hst : stepP ⟨rk, rv⟩ ⟨11, nn⟩ S O (k + 1) = (0, S.take m ++ [S[m]!, S[m]!], O, k + 1) := by
    unfold stepP
    rw [if_neg (show ¬ (S.length < takesN 11 ∨ 8 < S.length - takesN 11 + givesN 11) from hnb)]
    simp [takesN, hm]
  rw [hst]
  have htl : (S.take m).length = m := by rw [List.length_take]; omega
  have HTl := Lib.hid htl
  have hTk := fun w3 hw => taken_of (op := 11) (nn := nn) (w3 := w3) h m (show m ≤ S.length by omega) hw
  have HTk := Lib.hid hTk
  have HT := Lib.hid (ptake1 (m := m) (c := c) (g := g) (by have := (h.setPc ((k : Int) + 1)).alloc (.cells #[.int .i64 11, .int .i64 nn] 228); rw [hm] at this; exact this) (by omega) (by omega))
  have hm8 : m + 1 ≤ 8 := by omega
  have hm9 : m + 2 ≤ 8 := by omega
  rw [hm] at c3
  have hcl := fun w3 hw j hj => (hTk w3 hw).cells g rfl j hj
  have HC0 := Lib.hid (fun w3 hw => hcl w3 hw m (by omega))
  clear hcl
  clear hTk hst hnb hform hSr htl h
  generalize S[m]! = y0 at *
  clear hm hS8 hA hA2 hc
  go_enter Tryz.func266, Tryz.ntmps266
  go_wp2_with fail
  refine (HN.out _).mono ?_
  rintro e w1 ⟨rfl, rfl⟩
  go_wp2_with fail
  refine (HT.out).mono ?_
  rintro e w3 ⟨rfl, hw3⟩
  have T := HTk.out w3 hw3
  have HM := Lib.hid T.m; have HB := Lib.hid T.hb
  have s0 := HC0.out w3 hw3
  have i0 : w3.cell? ⟨w.heap.size, 0, none⟩ = _ := rowOf_cell T.x 0
  have i1 : w3.cell? ⟨w.heap.size, 1, none⟩ = some (.int .i64 nn) := rowOf_cell T.x 1
  have HLen : Hid ((S.take m).length + 2 ≤ 900000) := by show _ ≤ _; rw [HTl.out]; omega
  clear hw3 T HTk HT HTl c2 c3 e2 HC0 HB1 HN
  have HMa := Lib.hid (HM.out.alloc (.cells #[.int .i64 y0] 2))
  have HBa := Lib.hid (HB.out.alloc HM.out.size (.cells #[.int .i64 y0] 2))
  have HNw := Lib.hid (new6 w3 y0)
  have HOl : Hid (∀ j u, (R6.cells [y0])[j]? = some u → (w3.alloc (.cells #[.int .i64 y0] 2)).cell? ((⟨g, m, none⟩ : Addr).add j) = some u) := by
    intro j u hj
    have hj2 : (#[Value.int .i64 y0] : Array Value).toList[j]? = some u := hj
    cases j with
    | succ j => simp at hj2
    | zero =>
      simp at hj2
      subst hj2
      have hl : (⟨g, m, none⟩ : Addr).block < w3.heap.size := World.block_lt_of_cell? _ _ s0
      rw [show (⟨g, m, none⟩ : Addr).add 0 = ⟨g, m, none⟩ from rfl]
      exact ((Below.refl w3.heap.size w3).alloc (Nat.le_refl _) _).cell hl |>.trans s0
  go_wp2_with (at_builtin; refine RowKind.grow1 (R := R6) (w := w3.alloc (.cells #[.int .i64 y0] 2)) rfl _ _ rfl (xs := [y0]) (ys := [y0]) rfl HOl.out rfl HNw.out (by simp) (by simp) ?_; intro v5 w5 h5 hb5; have HP := Lib.hid (pput_any (HMa.out.below hb5) _ [y0, y0] (own_app h5) HLen.out); have HB5 := Lib.hid (HBa.out.trans (hb5.mono HMa.out.size)); clear h5 hb5 HM HB HMa HBa HNw HOl s0 i0 i1)
  refine (HP.out).mono ?_
  rintro e w4 ⟨rfl, hb4, sv4, hM4⟩
  have HM4 := Lib.hid hM4; have HB4 := Lib.hid (HB5.out.trans hb4)
  clear hM4 hb4 HP HB5
  go_wp2
  go_returns
  exact ⟨rfl, HB4.out, fun _ => ⟨_, _, by rw [HK1.out]; exact HM4.out⟩⟩
set_option maxRecDepth 100000 in
set_option maxHeartbeats 8000000 in
theorem pstep12 {B bm : Nat} {rk rv : Int} {w : World} {k : Nat} {sv ov : Value} {S : List Int} {O : List RV} (h : Mach B bm rk rv w (k : Int) sv ov S O) (nn : Int) (hk : k ≤ 1000) (hnn : inR nn) (hS8 : S.length ≤ 8) (hSr : ∀ x ∈ S, inR x) (hO8 : O.length ≤ 8) :
    Calls Tryz.prog 266 #[.pointer (some ⟨bm, 0, none⟩), .agg #[.int .i64 12, .int .i64 nn]] w (StepR B bm rk rv w (stepP ⟨rk, rv⟩ ⟨12, nn⟩ S O (k + 1))) := by
  obtain ⟨p, c, rfl⟩ := h.st.is.slice
  obtain ⟨hc, hform⟩ := own_form h.st
  have HN : Hid (∀ W, Calls Tryz.prog 274 #[.int .i64 12] W (RetW (.tuple #[.int .i64 2, .int .i64 2]) W)) := fun W => pneeds_any 12 (by decide) (by decide) W
  have HB1 := Lib.hid ((Below.refl B w).alloc h.size (.cells #[.int .i64 12, .int .i64 nn] 228))
  have hlt := h.lt
  have hne : bm ≠ w.heap.size := Nat.ne_of_lt h.lt
  have hne2 : w.heap.size ≠ bm := Nat.ne_of_gt h.lt
  have c2 : w.cell? ⟨bm, 2, none⟩ = some (.int .i64 (k : Int)) := rowOf_cell h.row 2
  have c3 : w.cell? ⟨bm, 3, none⟩ = some (.slice p S.length c) := rowOf_cell h.row 3
  have e2 := rowOf_frozen h.row 2
  have hk1 : ((k + 1 : Nat) : Int) = (k : Int) + 1 := by omega
  have HK1 := Lib.hid hk1
  clear hk1
  by_cases hA : S.length < 2
  · have hst : stepP ⟨rk, rv⟩ ⟨12, nn⟩ S O (k + 1) = (1, S, O, k + 1) := by unfold stepP; exact if_pos (.inl (show S.length < 2 from hA))
    rw [hst]
    have hAi : (S.length : Int) < 2 := by omega
    clear hst h hform hnn hSr
    generalize S.length = n at *
    go_enter Tryz.func266, Tryz.ntmps266
    go_wp2_with fail
    refine (HN.out _).mono ?_
    rintro e w1 ⟨rfl, rfl⟩
    go_wp2
    go_returns
    exact ⟨rfl, HB1.out, fun e => absurd (show (1 : Int) = 0 from e) (by decide)⟩
  obtain ⟨m, hm⟩ : ∃ m, S.length = m + 2 := ⟨S.length - 2, by omega⟩
  have hnb : ¬ (S.length < 2 ∨ 8 < S.length - 2 + 2) := by omega
  obtain ⟨g, rfl⟩ : ∃ g, p = some ⟨g, 0, none⟩ := by
    rcases hform with ⟨e, _⟩ | h
    · rw [e] at hm; simp at hm
    · exact h
  have hy0 := hSr S[m]! (by rw [getElem!_pos S m (by omega)]; exact List.getElem_mem (by omega))
  have hy1 := hSr S[m + 1]! (by rw [getElem!_pos S (m + 1) (by omega)]; exact List.getElem_mem (by omega))
  have hst : stepP ⟨rk, rv⟩ ⟨12, nn⟩ S O (k + 1) = (0, S.take m ++ [S[m + 1]!, S[m]!], O, k + 1) := by
    unfold stepP
    rw [if_neg (show ¬ (S.length < takesN 12 ∨ 8 < S.length - takesN 12 + givesN 12) from hnb)]
    simp [takesN, hm]
  rw [hst]
  have htl : (S.take m).length = m := by rw [List.length_take]; omega
  have HTl := Lib.hid htl
  have hTk := fun w3 hw => taken_of (op := 12) (nn := nn) (w3 := w3) h m (show m ≤ S.length by omega) hw
  have HTk := Lib.hid hTk
  have HT := Lib.hid (ptake2 (m := m) (c := c) (g := g) (by have := (h.setPc ((k : Int) + 1)).alloc (.cells #[.int .i64 12, .int .i64 nn] 228); rw [hm] at this; exact this) (by omega) (by omega))
  have hm8 : m + 2 ≤ 8 := by omega
  have hm9 : m + 2 ≤ 8 := by omega
  rw [hm] at c3
  have hcl := fun w3 hw j hj => (hTk w3 hw).cells g rfl j hj
  have HC0 := Lib.hid (fun w3 hw => hcl w3 hw m (by omega))
  have HC1 := Lib.hid (fun w3 hw => hcl w3 hw (m + 1) (by omega))
  clear hcl
  clear hTk hst hnb hform hSr htl h
  generalize S[m]! = y0 at *
  generalize S[m + 1]! = y1 at *
  clear hm hS8 hA hc
  go_enter Tryz.func266, Tryz.ntmps266
  go_wp2_with fail
  refine (HN.out _).mono ?_
  rintro e w1 ⟨rfl, rfl⟩
  go_wp2_with fail
  refine (HT.out).mono ?_
  rintro e w3 ⟨rfl, hw3⟩
  have T := HTk.out w3 hw3
  have HM := Lib.hid T.m; have HB := Lib.hid T.hb
  have s0 := HC0.out w3 hw3
  have s1 := HC1.out w3 hw3
  have i0 : w3.cell? ⟨w.heap.size, 0, none⟩ = _ := rowOf_cell T.x 0
  have i1 : w3.cell? ⟨w.heap.size, 1, none⟩ = some (.int .i64 nn) := rowOf_cell T.x 1
  have HLen : Hid ((S.take m).length + 2 ≤ 900000) := by show _ ≤ _; rw [HTl.out]; omega
  clear hw3 T HTk HT HTl c2 c3 e2 HC0 HC1 HB1 HN
  have HP := Lib.hid (pput_any (HM.out.drew.alloc (.cells #[.int .i64 y1, .int .i64 y0] 2)) _ [y1, y0] (new62 w3.drew y1 y0) HLen.out)
  have HB2 := Lib.hid (HB.out.drew.alloc HM.out.size (.cells #[.int .i64 y1, .int .i64 y0] 2))
  go_wp2_with fail
  go_region_with (go_at_call 276; refine (HP.out).mono ?_; rintro e w4 ⟨rfl, hb4, sv4, hM4⟩; have HM4 := Lib.hid hM4; have HB4 := Lib.hid (HB2.out.trans hb4); clear hM4 hb4)
  all_goals go_wp2
  all_goals go_returns
  all_goals exact ⟨rfl, HB4.out, fun _ => ⟨_, _, by rw [HK1.out]; exact HM4.out⟩⟩
set_option maxRecDepth 100000 in
set_option maxHeartbeats 8000000 in
theorem pstep13 {B bm : Nat} {rk rv : Int} {w : World} {k : Nat} {sv ov : Value} {S : List Int} {O : List RV} (h : Mach B bm rk rv w (k : Int) sv ov S O) (nn : Int) (hk : k ≤ 1000) (hnn : inR nn) (hS8 : S.length ≤ 8) (hSr : ∀ x ∈ S, inR x) (hO8 : O.length ≤ 8) :
    Calls Tryz.prog 266 #[.pointer (some ⟨bm, 0, none⟩), .agg #[.int .i64 13, .int .i64 nn]] w (StepR B bm rk rv w (stepP ⟨rk, rv⟩ ⟨13, nn⟩ S O (k + 1))) := by
  obtain ⟨p, c, rfl⟩ := h.st.is.slice
  obtain ⟨hc, hform⟩ := own_form h.st
  have HN : Hid (∀ W, Calls Tryz.prog 274 #[.int .i64 13] W (RetW (.tuple #[.int .i64 1, .int .i64 0]) W)) := fun W => pneeds_any 13 (by decide) (by decide) W
  have HB1 := Lib.hid ((Below.refl B w).alloc h.size (.cells #[.int .i64 13, .int .i64 nn] 228))
  have hlt := h.lt
  have hne : bm ≠ w.heap.size := Nat.ne_of_lt h.lt
  have hne2 : w.heap.size ≠ bm := Nat.ne_of_gt h.lt
  have c2 : w.cell? ⟨bm, 2, none⟩ = some (.int .i64 (k : Int)) := rowOf_cell h.row 2
  have c3 : w.cell? ⟨bm, 3, none⟩ = some (.slice p S.length c) := rowOf_cell h.row 3
  have e2 := rowOf_frozen h.row 2
  have hk1 : ((k + 1 : Nat) : Int) = (k : Int) + 1 := by omega
  have HK1 := Lib.hid hk1
  clear hk1
  by_cases hA : S.length < 1
  · have hst : stepP ⟨rk, rv⟩ ⟨13, nn⟩ S O (k + 1) = (1, S, O, k + 1) := by unfold stepP; exact if_pos (.inl (show S.length < 1 from hA))
    rw [hst]
    have hAi : (S.length : Int) < 1 := by omega
    clear hst h hform hnn hSr
    generalize S.length = n at *
    go_enter Tryz.func266, Tryz.ntmps266
    go_wp2_with fail
    refine (HN.out _).mono ?_
    rintro e w1 ⟨rfl, rfl⟩
    go_wp2
    go_returns
    exact ⟨rfl, HB1.out, fun e => absurd (show (1 : Int) = 0 from e) (by decide)⟩
  obtain ⟨m, hm⟩ : ∃ m, S.length = m + 1 := ⟨S.length - 1, by omega⟩
  have hnb : ¬ (S.length < 1 ∨ 8 < S.length - 1 + 0) := by omega
  obtain ⟨g, rfl⟩ : ∃ g, p = some ⟨g, 0, none⟩ := by
    rcases hform with ⟨e, _⟩ | h
    · rw [e] at hm; simp at hm
    · exact h
  have hy0 := hSr S[m]! (by rw [getElem!_pos S m (by omega)]; exact List.getElem_mem (by omega))
  have hst : stepP ⟨rk, rv⟩ ⟨13, nn⟩ S O (k + 1) = (0, S.take m, O, k + 1) := by
    unfold stepP
    rw [if_neg (show ¬ (S.length < takesN 13 ∨ 8 < S.length - takesN 13 + givesN 13) from hnb)]
    simp [takesN, hm]
  rw [hst]
  have htl : (S.take m).length = m := by rw [List.length_take]; omega
  have HTl := Lib.hid htl
  have hTk := fun w3 hw => taken_of (op := 13) (nn := nn) (w3 := w3) h m (show m ≤ S.length by omega) hw
  have HTk := Lib.hid hTk
  have HT := Lib.hid (ptake1 (m := m) (c := c) (g := g) (by have := (h.setPc ((k : Int) + 1)).alloc (.cells #[.int .i64 13, .int .i64 nn] 228); rw [hm] at this; exact this) (by omega) (by omega))
  have hm8 : m + 1 ≤ 8 := by omega
  have hm9 : m + 0 ≤ 8 := by omega
  rw [hm] at c3
  have hcl := fun w3 hw j hj => (hTk w3 hw).cells g rfl j hj
  have HC0 := Lib.hid (fun w3 hw => hcl w3 hw m (by omega))
  clear hcl
  clear hTk hst hnb hform hSr htl h
  generalize S[m]! = y0 at *
  clear hm hS8 hA hc
  go_enter Tryz.func266, Tryz.ntmps266
  go_wp2_with fail
  refine (HN.out _).mono ?_
  rintro e w1 ⟨rfl, rfl⟩
  go_wp2_with fail
  refine (HT.out).mono ?_
  rintro e w3 ⟨rfl, hw3⟩
  have T := HTk.out w3 hw3
  have HM := Lib.hid T.m; have HB := Lib.hid T.hb
  have s0 := HC0.out w3 hw3
  have i0 : w3.cell? ⟨w.heap.size, 0, none⟩ = _ := rowOf_cell T.x 0
  have i1 : w3.cell? ⟨w.heap.size, 1, none⟩ = some (.int .i64 nn) := rowOf_cell T.x 1
  have HLen : Hid ((S.take m).length + 2 ≤ 900000) := by show _ ≤ _; rw [HTl.out]; omega
  clear hw3 T HTk HT HTl c2 c3 e2 HC0 HB1 HN
  go_wp2
  go_returns
  exact ⟨rfl, HB.out, fun _ => ⟨_, _, by rw [HK1.out]; exact HM.out⟩⟩
set_option maxRecDepth 100000 in
set_option maxHeartbeats 8000000 in
theorem pstep14 {B bm : Nat} {rk rv : Int} {w : World} {k : Nat} {sv ov : Value} {S : List Int} {O : List RV} (h : Mach B bm rk rv w (k : Int) sv ov S O) (nn : Int) (hk : k ≤ 1000) (hnn : inR nn) (hn0 : 0 ≤ nn) (hS8 : S.length ≤ 8) (hSr : ∀ x ∈ S, inR x) (hO8 : O.length ≤ 8) :
    Calls Tryz.prog 266 #[.pointer (some ⟨bm, 0, none⟩), .agg #[.int .i64 14, .int .i64 nn]] w (StepR B bm rk rv w (stepP ⟨rk, rv⟩ ⟨14, nn⟩ S O (k + 1))) := by
  obtain ⟨p, c, rfl⟩ := h.st.is.slice
  obtain ⟨hc, hform⟩ := own_form h.st
  have HN : Hid (∀ W, Calls Tryz.prog 274 #[.int .i64 14] W (RetW (.tuple #[.int .i64 0, .int .i64 0]) W)) := fun W => pneeds_any 14 (by decide) (by decide) W
  have HB1 := Lib.hid ((Below.refl B w).alloc h.size (.cells #[.int .i64 14, .int .i64 nn] 228))
  have hlt := h.lt
  have hne : bm ≠ w.heap.size := Nat.ne_of_lt h.lt
  have hne2 : w.heap.size ≠ bm := Nat.ne_of_gt h.lt
  have c2 : w.cell? ⟨bm, 2, none⟩ = some (.int .i64 (k : Int)) := rowOf_cell h.row 2
  have c3 : w.cell? ⟨bm, 3, none⟩ = some (.slice p S.length c) := rowOf_cell h.row 3
  have e2 := rowOf_frozen h.row 2
  have hk1 : ((k + 1 : Nat) : Int) = (k : Int) + 1 := by omega
  have HK1 := Lib.hid hk1
  clear hk1
  obtain ⟨m, hm⟩ : ∃ m, S.length = m + 0 := ⟨S.length - 0, by omega⟩
  have hnb : ¬ (S.length < 0 ∨ 8 < S.length - 0 + 0) := by omega
  have hpf : p = none ∨ ∃ g, p = some ⟨g, 0, none⟩ := hform.elim (fun h => .inl h.2) .inr
  have hst : stepP ⟨rk, rv⟩ ⟨14, nn⟩ S O (k + 1) = (0, S.take m, O, nn.toNat) := by
    unfold stepP
    rw [if_neg (show ¬ (S.length < takesN 14 ∨ 8 < S.length - takesN 14 + givesN 14) from hnb)]
    simp [takesN, hm]
  rw [hst]
  have htl : (S.take m).length = m := by rw [List.length_take]; omega
  have HTl := Lib.hid htl
  have hTk := fun w3 hw => taken_of (op := 14) (nn := nn) (w3 := w3) h m (show m ≤ S.length by omega) hw
  have HTk := Lib.hid hTk
  have HT := Lib.hid (ptake0 (m := m) (c := c) (p := p) (by have := (h.setPc ((k : Int) + 1)).alloc (.cells #[.int .i64 14, .int .i64 nn] 228); rw [hm] at this; exact this) (by omega) (by omega) hpf)
  have hm8 : m + 0 ≤ 8 := by omega
  have hm9 : m + 0 ≤ 8 := by omega
  rw [hm] at c3
  clear hTk hst hnb hform hSr htl hpf h
  clear hm hS8 hc
  go_enter Tryz.func266, Tryz.ntmps266
  go_wp2_with fail
  refine (HN.out _).mono ?_
  rintro e w1 ⟨rfl, rfl⟩
  go_wp2_with fail
  refine (HT.out).mono ?_
  rintro e w3 ⟨⟨tv, rfl⟩, hw3⟩
  have T := HTk.out w3 hw3
  have HM := Lib.hid T.m; have HB := Lib.hid T.hb
  have i0 : w3.cell? ⟨w.heap.size, 0, none⟩ = _ := rowOf_cell T.x 0
  have i1 : w3.cell? ⟨w.heap.size, 1, none⟩ = some (.int .i64 nn) := rowOf_cell T.x 1
  have d2 : w3.cell? ⟨bm, 2, none⟩ = some (.int .i64 ((k : Int) + 1)) := rowOf_cell T.m.row 2
  have d3 := rowOf_frozen T.m.row 2
  have HBj := Lib.hid (T.hb.setCell (p := ⟨bm, 2, none⟩) T.m.hB (.int .i64 nn))
  have hnt : ((nn.toNat : Nat) : Int) = nn := by omega
  have HNt := Lib.hid hnt
  have HMj := Lib.hid (T.m.setPc nn)
  clear hnt
  have HLen : Hid ((S.take m).length + 2 ≤ 900000) := by show _ ≤ _; rw [HTl.out]; omega
  clear hw3 T HTk HT HTl c2 c3 e2 HB1 HN
  go_wp2
  go_returns
  exact ⟨rfl, HBj.out, fun _ => ⟨_, _, by rw [HNt.out]; exact HMj.out⟩⟩
set_option maxRecDepth 100000 in
set_option maxHeartbeats 8000000 in
theorem pstep15 {B bm : Nat} {rk rv : Int} {w : World} {k : Nat} {sv ov : Value} {S : List Int} {O : List RV} (h : Mach B bm rk rv w (k : Int) sv ov S O) (nn : Int) (hk : k ≤ 1000) (hnn : inR nn) (hn0 : 0 ≤ nn) (hS8 : S.length ≤ 8) (hSr : ∀ x ∈ S, inR x) (hO8 : O.length ≤ 8) :
    Calls Tryz.prog 266 #[.pointer (some ⟨bm, 0, none⟩), .agg #[.int .i64 15, .int .i64 nn]] w (StepR B bm rk rv w (stepP ⟨rk, rv⟩ ⟨15, nn⟩ S O (k + 1))) := by
  obtain ⟨p, c, rfl⟩ := h.st.is.slice
  obtain ⟨hc, hform⟩ := own_form h.st
  have HN : Hid (∀ W, Calls Tryz.prog 274 #[.int .i64 15] W (RetW (.tuple #[.int .i64 1, .int .i64 0]) W)) := fun W => pneeds_any 15 (by decide) (by decide) W
  have HB1 := Lib.hid ((Below.refl B w).alloc h.size (.cells #[.int .i64 15, .int .i64 nn] 228))
  have hlt := h.lt
  have hne : bm ≠ w.heap.size := Nat.ne_of_lt h.lt
  have hne2 : w.heap.size ≠ bm := Nat.ne_of_gt h.lt
  have c2 : w.cell? ⟨bm, 2, none⟩ = some (.int .i64 (k : Int)) := rowOf_cell h.row 2
  have c3 : w.cell? ⟨bm, 3, none⟩ = some (.slice p S.length c) := rowOf_cell h.row 3
  have e2 := rowOf_frozen h.row 2
  have hk1 : ((k + 1 : Nat) : Int) = (k : Int) + 1 := by omega
  have HK1 := Lib.hid hk1
  clear hk1
  by_cases hA : S.length < 1
  · have hst : stepP ⟨rk, rv⟩ ⟨15, nn⟩ S O (k + 1) = (1, S, O, k + 1) := by unfold stepP; exact if_pos (.inl (show S.length < 1 from hA))
    rw [hst]
    have hAi : (S.length : Int) < 1 := by omega
    clear hst h hform hnn hSr
    generalize S.length = n at *
    go_enter Tryz.func266, Tryz.ntmps266
    go_wp2_with fail
    refine (HN.out _).mono ?_
    rintro e w1 ⟨rfl, rfl⟩
    go_wp2
    go_returns
    exact ⟨rfl, HB1.out, fun e => absurd (show (1 : Int) = 0 from e) (by decide)⟩
  obtain ⟨m, hm⟩ : ∃ m, S.length = m + 1 := ⟨S.length - 1, by omega⟩
  have hnb : ¬ (S.length < 1 ∨ 8 < S.length - 1 + 0) := by omega
  obtain ⟨g, rfl⟩ : ∃ g, p = some ⟨g, 0, none⟩ := by
    rcases hform with ⟨e, _⟩ | h
    · rw [e] at hm; simp at hm
    · exact h
  have hy0 := hSr S[m]! (by rw [getElem!_pos S m (by omega)]; exact List.getElem_mem (by omega))
  have hst : stepP ⟨rk, rv⟩ ⟨15, nn⟩ S O (k + 1) = (0, S.take m, O, if S[m]! = 0 then nn.toNat else k + 1) := by
    unfold stepP
    rw [if_neg (show ¬ (S.length < takesN 15 ∨ 8 < S.length - takesN 15 + givesN 15) from hnb)]
    simp [takesN, hm]
  rw [hst]
  have htl : (S.take m).length = m := by rw [List.length_take]; omega
  have HTl := Lib.hid htl
  have hTk := fun w3 hw => taken_of (op := 15) (nn := nn) (w3 := w3) h m (show m ≤ S.length by omega) hw
  have HTk := Lib.hid hTk
  have HT := Lib.hid (ptake1 (m := m) (c := c) (g := g) (by have := (h.setPc ((k : Int) + 1)).alloc (.cells #[.int .i64 15, .int .i64 nn] 228); rw [hm] at this; exact this) (by omega) (by omega))
  have hm8 : m + 1 ≤ 8 := by omega
  have hm9 : m + 0 ≤ 8 := by omega
  rw [hm] at c3
  have hcl := fun w3 hw j hj => (hTk w3 hw).cells g rfl j hj
  have HC0 := Lib.hid (fun w3 hw => hcl w3 hw m (by omega))
  clear hcl
  clear hTk hst hnb hform hSr htl h
  generalize S[m]! = y0 at *
  generalize hzz : (if y0 = 0 then nn.toNat else k + 1) = pcv at *
  have hz1 : y0 = 0 → pcv = nn.toNat := fun e => by rw [if_pos e] at hzz; exact hzz.symm
  have hz2 : ¬ y0 = 0 → pcv = k + 1 := fun e => by rw [if_neg e] at hzz; exact hzz.symm
  have HZ1 := Lib.hid hz1; have HZ2 := Lib.hid hz2
  clear hz1 hz2 hzz
  clear hm hS8 hA hc
  go_enter Tryz.func266, Tryz.ntmps266
  go_wp2_with fail
  refine (HN.out _).mono ?_
  rintro e w1 ⟨rfl, rfl⟩
  go_wp2_with fail
  refine (HT.out).mono ?_
  rintro e w3 ⟨rfl, hw3⟩
  have T := HTk.out w3 hw3
  have HM := Lib.hid T.m; have HB := Lib.hid T.hb
  have s0 := HC0.out w3 hw3
  have i0 : w3.cell? ⟨w.heap.size, 0, none⟩ = _ := rowOf_cell T.x 0
  have i1 : w3.cell? ⟨w.heap.size, 1, none⟩ = some (.int .i64 nn) := rowOf_cell T.x 1
  have d2 : w3.cell? ⟨bm, 2, none⟩ = some (.int .i64 ((k : Int) + 1)) := rowOf_cell T.m.row 2
  have d3 := rowOf_frozen T.m.row 2
  have HBj := Lib.hid (T.hb.setCell (p := ⟨bm, 2, none⟩) T.m.hB (.int .i64 nn))
  have hnt : ((nn.toNat : Nat) : Int) = nn := by omega
  have HNt := Lib.hid hnt
  have HMj := Lib.hid (T.m.setPc nn)
  clear hnt
  have HLen : Hid ((S.take m).length + 2 ≤ 900000) := by show _ ≤ _; rw [HTl.out]; omega
  clear hw3 T HTk HT HTl c2 c3 e2 HC0 HB1 HN
  by_cases hz : y0 = 0
  · have hzb : (y0 == 0) = true := by simpa using hz
    have hpc := HZ1.out hz
    subst hpc
    clear hz
    go_wp2
    go_returns
    exact ⟨rfl, HBj.out, fun _ => ⟨_, _, by rw [HNt.out]; exact HMj.out⟩⟩
  · have hzb : (y0 == 0) = false := by simpa using hz
    have hpc := HZ2.out hz
    subst hpc
    clear hz
    go_wp2
    go_returns
    exact ⟨rfl, HB.out, fun _ => ⟨_, _, by rw [HK1.out]; exact HM.out⟩⟩
set_option maxRecDepth 100000 in
set_option maxHeartbeats 8000000 in
theorem pstep16 {B bm : Nat} {rk rv : Int} {w : World} {k : Nat} {sv ov : Value} {S : List Int} {O : List RV} (h : Mach B bm rk rv w (k : Int) sv ov S O) (nn : Int) (hk : k ≤ 1000) (hnn : inR nn) (hS8 : S.length ≤ 8) (hSr : ∀ x ∈ S, inR x) (hO8 : O.length ≤ 8) :
    Calls Tryz.prog 266 #[.pointer (some ⟨bm, 0, none⟩), .agg #[.int .i64 16, .int .i64 nn]] w (StepR B bm rk rv w (stepP ⟨rk, rv⟩ ⟨16, nn⟩ S O (k + 1))) := by
  obtain ⟨p, c, rfl⟩ := h.st.is.slice
  obtain ⟨hc, hform⟩ := own_form h.st
  have HN : Hid (∀ W, Calls Tryz.prog 274 #[.int .i64 16] W (RetW (.tuple #[.int .i64 2, .int .i64 0]) W)) := fun W => pneeds_any 16 (by decide) (by decide) W
  have HB1 := Lib.hid ((Below.refl B w).alloc h.size (.cells #[.int .i64 16, .int .i64 nn] 228))
  have hlt := h.lt
  have hne : bm ≠ w.heap.size := Nat.ne_of_lt h.lt
  have hne2 : w.heap.size ≠ bm := Nat.ne_of_gt h.lt
  have c2 : w.cell? ⟨bm, 2, none⟩ = some (.int .i64 (k : Int)) := rowOf_cell h.row 2
  have c3 : w.cell? ⟨bm, 3, none⟩ = some (.slice p S.length c) := rowOf_cell h.row 3
  have e2 := rowOf_frozen h.row 2
  have hk1 : ((k + 1 : Nat) : Int) = (k : Int) + 1 := by omega
  have HK1 := Lib.hid hk1
  clear hk1
  by_cases hA : S.length < 2
  · have hst : stepP ⟨rk, rv⟩ ⟨16, nn⟩ S O (k + 1) = (1, S, O, k + 1) := by unfold stepP; exact if_pos (.inl (show S.length < 2 from hA))
    rw [hst]
    have hAi : (S.length : Int) < 2 := by omega
    clear hst h hform hnn hSr
    generalize S.length = n at *
    go_enter Tryz.func266, Tryz.ntmps266
    go_wp2_with fail
    refine (HN.out _).mono ?_
    rintro e w1 ⟨rfl, rfl⟩
    go_wp2
    go_returns
    exact ⟨rfl, HB1.out, fun e => absurd (show (1 : Int) = 0 from e) (by decide)⟩
  obtain ⟨m, hm⟩ : ∃ m, S.length = m + 2 := ⟨S.length - 2, by omega⟩
  have hnb : ¬ (S.length < 2 ∨ 8 < S.length - 2 + 0) := by omega
  obtain ⟨g, rfl⟩ : ∃ g, p = some ⟨g, 0, none⟩ := by
    rcases hform with ⟨e, _⟩ | h
    · rw [e] at hm; simp at hm
    · exact h
  have hy0 := hSr S[m]! (by rw [getElem!_pos S m (by omega)]; exact List.getElem_mem (by omega))
  have hy1 := hSr S[m + 1]! (by rw [getElem!_pos S (m + 1) (by omega)]; exact List.getElem_mem (by omega))
  have hst : stepP ⟨rk, rv⟩ ⟨16, nn⟩ S O (k + 1) = (if O.length = 8 then 5 else 0, S.take m, O ++ [⟨S[m]!, S[m + 1]!⟩], k + 1) := by
    unfold stepP
    rw [if_neg (show ¬ (S.length < takesN 16 ∨ 8 < S.length - takesN 16 + givesN 16) from hnb)]
    simp [takesN, hm]
  rw [hst]
  have htl : (S.take m).length = m := by rw [List.length_take]; omega
  have HTl := Lib.hid htl
  have hTk := fun w3 hw => taken_of (op := 16) (nn := nn) (w3 := w3) h m (show m ≤ S.length by omega) hw
  have HTk := Lib.hid hTk
  have HT := Lib.hid (ptake2 (m := m) (c := c) (g := g) (by have := (h.setPc ((k : Int) + 1)).alloc (.cells #[.int .i64 16, .int .i64 nn] 228); rw [hm] at this; exact this) (by omega) (by omega))
  have hm8 : m + 2 ≤ 8 := by omega
  have hm9 : m + 0 ≤ 8 := by omega
  rw [hm] at c3
  have hcl := fun w3 hw j hj => (hTk w3 hw).cells g rfl j hj
  have HC0 := Lib.hid (fun w3 hw => hcl w3 hw m (by omega))
  have HC1 := Lib.hid (fun w3 hw => hcl w3 hw (m + 1) (by omega))
  clear hcl
  clear hTk hst hnb hform hSr htl h
  generalize S[m]! = y0 at *
  generalize S[m + 1]! = y1 at *
  have hem := fun (W : World) (pc : Int) (sv : Value) (T : List Int) (h : Mach B bm rk rv W pc sv ov T O) => pemit_any h y0 y1 hO8
  generalize hzz : (if O.length = 8 then (5 : Int) else 0) = zz at *
  have hz0 : zz = 0 → O.length ≠ 8 := fun e h8 => by rw [if_pos h8] at hzz; omega
  have HZ := Lib.hid hz0
  have HEm := Lib.hid hem
  clear hzz hz0 hO8 hem
  clear hm hS8 hA hc
  go_enter Tryz.func266, Tryz.ntmps266
  go_wp2_with fail
  refine (HN.out _).mono ?_
  rintro e w1 ⟨rfl, rfl⟩
  go_wp2_with fail
  refine (HT.out).mono ?_
  rintro e w3 ⟨rfl, hw3⟩
  have T := HTk.out w3 hw3
  have HM := Lib.hid T.m; have HB := Lib.hid T.hb
  have s0 := HC0.out w3 hw3
  have s1 := HC1.out w3 hw3
  have i0 : w3.cell? ⟨w.heap.size, 0, none⟩ = _ := rowOf_cell T.x 0
  have i1 : w3.cell? ⟨w.heap.size, 1, none⟩ = some (.int .i64 nn) := rowOf_cell T.x 1
  have HLen : Hid ((S.take m).length + 2 ≤ 900000) := by show _ ≤ _; rw [HTl.out]; omega
  clear hw3 T HTk HT HTl c2 c3 e2 HC0 HC1 HB1 HN
  have HP := Lib.hid (HEm.out _ _ _ _ HM.out.drew)
  clear HEm
  go_wp2_with fail
  go_region_with (go_at_call 277; refine (HP.out).mono ?_; rintro e w4 ⟨rfl, hb4, hM4⟩; have HM4 := Lib.hid hM4; have HB4 := Lib.hid (HB.out.drew.trans hb4); clear hM4 hb4)
  all_goals go_wp2
  all_goals go_returns
  all_goals exact ⟨rfl, HB4.out, fun e => (HM4.out (HZ.out e)).elim fun ov' hM => ⟨_, _, by rw [HK1.out]; exact hM⟩⟩
end Go.Proofs.YthhceggcdaljdaaGreat
