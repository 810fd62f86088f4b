/- the program's own Run and Right answer as the document's: progC -/
import Derived.Test.YtcflfakffeglgaaQv
import Derived.Test.YtcflfakffeglgaaQm
import Derived.Test.YtcflfakffeglgaaQf
namespace Go.Proofs.Ytcflfakffeglgaa
open Go.RowKit
set_option linter.unusedVariables false
set_option linter.unusedSimpArgs false

theorem machInit {rk rv : Int} (w : World) : Mach w.heap.size w.heap.size rk rv (w.alloc (.cells #[.int .i64 rk, .int .i64 rv, .int .i64 0, .slice none 0 0, .slice none 0 0] 41)) 0 (.slice none 0 0) (.slice none 0 0) [] [] :=
  ⟨heap_alloc_new w _, Nat.le_refl _, RowKind.Own.nil R6 _ _, RowKind.Own.nil RR _ _⟩
set_option maxRecDepth 100000 in
set_option maxHeartbeats 8000000 in
theorem pRun_row (p : List NV) (rk rv : Int) (b off cap : Nat) (w : World) (hl : p.length ≤ 900000) (h0 : p ≠ []) (hb : b < w.heap.size) (hr : RC.Row w b off p) (hpn : ∀ x ∈ p, inR x.n) (hrk : inR rk) (hrv : inR rv) :
    Calls Try.prog 9 #[.slice (some ⟨b, off, none⟩) p.length cap, .agg #[.int .i64 rk, .int .i64 rv]] w (RunR p ⟨rk, rv⟩ w) := by
  have hbox := Below.alloc (Below.refl w.heap.size w) (Nat.le_refl _) (.cells #[.int .i64 rk, .int .i64 rv] 24)
  have HRT := Lib.hid (fun W (hW : Below w.heap.size w W) => pright_any p (.slice (some ⟨b, off, none⟩) p.length cap) W hl (.inr ⟨h0, b, off, cap, rfl, Nat.lt_of_lt_of_le hb hW.size, hr.below hW hb⟩))
  have hno : rightC p = false → runC p ⟨rk, rv⟩ = ([], 0) := fun h => by unfold runC; rw [h]; rfl
  have hyes : rightC p = true → runP p ⟨rk, rv⟩ 256 [] [] 0 = runC p ⟨rk, rv⟩ := fun h => by unfold runC; rw [h]; rfl
  have hall : rightC p = true → ∀ j, j < p.length → NV.ok p.length p[j]! := fun h j hj => by
    unfold rightC at h
    rw [Bool.and_eq_true, List.all_eq_true] at h
    have := h.1 p[j]! (by rw [getElem!_pos p j hj]; exact List.getElem_mem hj)
    exact of_decide_eq_true this
  have h64 : rightC p = true → p.length ≤ 64 := fun h => by
    unfold rightC at h
    rw [Bool.and_eq_true] at h
    exact of_decide_eq_true h.2
  have hpn2 : ∀ j, j < p.length → inR p[j]!.n := fun j hj => hpn p[j]! (by rw [getElem!_pos p j hj]; exact List.getElem_mem hj)
  have hrun : rightC p = true → ∀ (W0 : World), Below w.heap.size w W0 → w.heap.size ≤ W0.heap.size → Calls Try.prog 15 #[.pointer (some ⟨W0.heap.size, 0, none⟩), .slice (some ⟨b, off, none⟩) p.length cap] (W0.alloc (.cells #[.int .i64 rk, .int .i64 rv, .int .i64 0, .slice none 0 0, .slice none 0 0] 41)) (fun e w' => e = .returned (.int .i64 (runC p ⟨rk, rv⟩).2) ∧ Below W0.heap.size (W0.alloc (.cells #[.int .i64 rk, .int .i64 rv, .int .i64 0, .slice none 0 0, .slice none 0 0] 41)) w' ∧ ((runC p ⟨rk, rv⟩).2 = 0 → ∃ pc sv' ov' S, Mach W0.heap.size W0.heap.size rk rv w' pc sv' ov' S (runC p ⟨rk, rv⟩).1)) := fun h W0 hW hz => by
    rw [← hyes h]
    exact prun_any p b off cap (machInit W0) (h64 h) (Nat.lt_of_lt_of_le hb hz) ((hr.below hW hb).below (Below.alloc (Below.refl W0.heap.size W0) (Nat.le_refl _) _) (Nat.lt_of_lt_of_le hb hz)) (hall h) hpn2 hrk hrv
  have herr : rightC p = true → (runC p ⟨rk, rv⟩).2 ≠ 0 → runC p ⟨rk, rv⟩ = errL ⟨rk, rv⟩ (runC p ⟨rk, rv⟩).2 := fun h => by
    rw [← hyes h]
    exact runP_err p ⟨rk, rv⟩ 256 [] [] 0
  have hrange : rightC p = true → 0 ≤ (runC p ⟨rk, rv⟩).2 ∧ (runC p ⟨rk, rv⟩).2 ≤ 5 := fun _ => by
    rcases runC_ends p ⟨rk, rv⟩ with ⟨h, _⟩ | ⟨_, e, h1, h2, h3⟩
    · rw [h]; exact ⟨by decide, by decide⟩
    · rw [h3]; exact ⟨by show 0 ≤ e; omega, h2⟩
  unfold RunR
  generalize runC p ⟨rk, rv⟩ = res at *
  generalize rightC p = ok at *
  obtain ⟨rp, re⟩ := res
  simp only at hrun herr hrange
  have HB0 := Lib.hid hbox; have HNo := Lib.hid hno; have HErr := Lib.hid herr; have HRun := Lib.hid hrun; have HRange := Lib.hid hrange
  have HRb : Hid (rowOf (w.alloc (.cells #[.int .i64 rk, .int .i64 rv] 24)) w.heap.size = some #[.int .i64 rk, .int .i64 rv]) := rowOf_alloc_at _ _ _ rfl
  clear hr hbox hno hyes hall hpn hpn2 h0 h64 hrun herr hrange
  generalize p.length = n at *
  go_enter Try.func9, Try.ntmps9
  go_wp2_with fail
  refine (HRT.out _ HB0.out).mono ?_
  rintro e w1 ⟨rfl, hb1⟩
  have HB1 := Lib.hid (HB0.out.trans (hb1.mono HB0.out.size))
  have HRb1 := Lib.hid (rowOf_below HRb.out hb1 (by first | (simp; done) | (simp; omega)))
  have hz1 : w.heap.size < w1.heap.size := rowOf_lt HRb1.out
  clear hb1 HRT HRb HB0
  cases ok
  · have hres := HNo.out rfl
    obtain ⟨q1, q2⟩ := Prod.mk.inj hres
    subst q1
    subst q2
    clear HNo HErr HRun HRange hres
    go_wp2
    go_returns
    exact ⟨_, rfl, RowKind.Own.nil RR _ _, HB1.out⟩
  have HErr2 := Lib.hid (HErr.out rfl); have HRun2 := Lib.hid (HRun.out rfl w1 HB1.out HB1.out.size)
  obtain ⟨hr0, hr5⟩ := HRange.out rfl
  clear HNo HErr HRun HRange
  have r0 : w1.cell? ⟨w.heap.size, 0, none⟩ = some (.int .i64 rk) := rowOf_cell HRb1.out 0
  have r1 : w1.cell? ⟨w.heap.size, 1, none⟩ = some (.int .i64 rv) := rowOf_cell HRb1.out 1
  go_wp2_with fail
  refine (HRun2.out).mono ?_
  rintro e w2 ⟨rfl, hb2, hM2⟩
  have HB2 := Lib.hid ((HB1.out.alloc HB1.out.size (.cells #[.int .i64 rk, .int .i64 rv, .int .i64 0, .slice none 0 0, .slice none 0 0] 41)).trans (hb2.mono (Nat.le_of_lt hz1)))
  have HRb2 := Lib.hid (rowOf_below (row_old (o := .cells #[.int .i64 rk, .int .i64 rv, .int .i64 0, .slice none 0 0, .slice none 0 0] 41) HRb1.out) hb2 hz1)
  have HM2 := Lib.hid hM2
  clear hb2 hM2 HRun2 HRb1 r0 r1
  by_cases he : re = 0
  · subst he
    obtain ⟨pc, sv', ov', S, hM⟩ := HM2.out rfl
    have HM := Lib.hid hM
    have c4 : w2.cell? ⟨w1.heap.size, 4, none⟩ = some ov' := rowOf_cell hM.row 4
    have HOw := Lib.hid (hM.out.mono (Nat.le_of_lt hz1))
    clear hM HM2 HErr2
    go_wp2
    go_returns
    exact ⟨_, rfl, HOw.out, HB2.out⟩
  · have heb : (re == 0) = false := by simpa using he
    have hen : (re != 0) = true := by simpa using he
    have hq := HErr2.out he
    obtain ⟨q1, _⟩ := Prod.mk.inj hq
    subst q1
    have k0 : w2.cell? ⟨w.heap.size, 0, none⟩ = some (.int .i64 rk) := rowOf_cell HRb2.out 0
    have HOw : Hid (RR.Own w.heap.size (w2.alloc (.cells #[.int .i64 rk, .int .i64 (-9223372036854775808 + re)] 24)) (.slice (some ⟨w2.heap.size, 0, none⟩) 1 1) [⟨rk, -9223372036854775808 + re⟩]) := World.ownsRow_lit w2 _ 1 HB2.out.size (by unfold maxLen; omega) rfl
    clear HErr2 HM2 hq he
    go_wp2
    all_goals go_returns
    all_goals exact ⟨_, rfl, HOw.out, HB2.out.alloc HB2.out.size _⟩
set_option maxRecDepth 100000 in
set_option maxHeartbeats 4000000 in
theorem pRun_nil (q : Option Addr) (cap : Nat) (rk rv : Int) (w : World) : Calls Try.prog 9 #[.slice q 0 cap, .agg #[.int .i64 rk, .int .i64 rv]] w (RunR [] ⟨rk, rv⟩ w) := by
  have hres : runC [] ⟨rk, rv⟩ = ([], 0) := rfl
  unfold RunR
  rw [hres]
  have hbox := Below.alloc (Below.refl w.heap.size w) (Nat.le_refl _) (.cells #[.int .i64 rk, .int .i64 rv] 24)
  have HRT : Hid (∀ W, Calls Try.prog 11 #[.slice q 0 cap] W (Ret (.bool true) W)) := fun W => pright_nil q cap W
  have HB0 := Lib.hid hbox
  have HRb : Hid (rowOf (w.alloc (.cells #[.int .i64 rk, .int .i64 rv] 24)) w.heap.size = some #[.int .i64 rk, .int .i64 rv]) := rowOf_alloc_at _ _ _ rfl
  clear hbox hres
  go_enter Try.func9, Try.ntmps9
  go_wp2_with fail
  refine (HRT.out _).mono ?_
  rintro e w1 ⟨rfl, hb1⟩
  have HB1 := Lib.hid (HB0.out.trans (hb1.mono HB0.out.size))
  have HRb1 := Lib.hid (rowOf_below HRb.out hb1 (by first | (simp; done) | (simp; omega)))
  have hz1 : w.heap.size < w1.heap.size := rowOf_lt HRb1.out
  clear hb1 HRT HRb HB0
  have r0 : w1.cell? ⟨w.heap.size, 0, none⟩ = some (.int .i64 rk) := rowOf_cell HRb1.out 0
  have r1 : w1.cell? ⟨w.heap.size, 1, none⟩ = some (.int .i64 rv) := rowOf_cell HRb1.out 1
  have HRun := Lib.hid (prun_nil (machInit (rk := rk) (rv := rv) w1) q cap)
  go_wp2_with fail
  refine (HRun.out).mono ?_
  rintro e w2 ⟨rfl, hb2, pc, sv', ov', S, hM⟩
  have HB2 := Lib.hid ((HB1.out.alloc HB1.out.size (.cells #[.int .i64 rk, .int .i64 rv, .int .i64 0, .slice none 0 0, .slice none 0 0] 41)).trans (hb2.mono (Nat.le_of_lt hz1)))
  have c4 : w2.cell? ⟨w1.heap.size, 4, none⟩ = some ov' := rowOf_cell hM.row 4
  have HOw := Lib.hid (hM.out.mono (Nat.le_of_lt hz1))
  clear hM hb2 HRun HRb1 r0 r1
  go_wp2
  go_returns
  exact ⟨_, rfl, HOw.out, HB2.out⟩
theorem pRun_any (p : List NV) (v : Value) (rk rv : Int) (w : World) (hl : p.length ≤ 900000) (h : RC.Is w v p) (hpn : ∀ x ∈ p, inR x.n) (hrk : inR rk) (hrv : inR rv) :
    Calls Try.prog 9 #[v, .agg #[.int .i64 rk, .int .i64 rv]] w (RunR p ⟨rk, rv⟩ w) := by
  rcases h with ⟨rfl, q, cap, rfl, _⟩ | ⟨h0, b, off, cap, rfl, hb, hr⟩
  · exact pRun_nil q cap rk rv w
  · exact pRun_row p rk rv b off cap w hl h0 hb hr hpn hrk hrv
theorem progC : ProgC :=
  ⟨fun p v rk rv w hl h hpn hrk hrv => pRun_any p v rk rv w (by omega) h hpn hrk hrv, fun p v w hl h => pright_any p v w (by omega) h⟩
end Go.Proofs.Ytcflfakffeglgaa
