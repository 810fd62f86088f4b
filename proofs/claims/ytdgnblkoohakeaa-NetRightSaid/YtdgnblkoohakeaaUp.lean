/- the program's right: one mailbox -/
import Derived.Test.YtdgnblkoohakeaaUb
import Derived.Test.YtdgnblkoohakeaaRowKeep
import Derived.Deep.CutRange
namespace Go.Proofs.Ytdgnblkoohakeaa
open Go.RowKit
set_option linter.unusedVariables false
set_option linter.unusedSimpArgs false

theorem okB_all {e f t : Int} {l : List MV} (h0 : 0 ≤ e) (h1 : 0 ≤ f) (h2 : 0 ≤ t) (h3 : 0 < l.length) (h4 : l.length ≤ 4096) (h5 : ∀ j, j < l.length → (l[j]!).e = e) : okB ⟨e, f, t, l⟩ = true :=
  (okB_iff _).2 ⟨⟨h0, h1, h2⟩, ⟨h3, h4⟩, fun m hm => by
    obtain ⟨j, hj, rfl⟩ := List.mem_iff_getElem.1 hm
    have := h5 j hj
    rwa [getElem!_pos l j hj] at this⟩
theorem okB_none {e f t : Int} {l : List MV} (h : ¬ ((0 ≤ e ∧ 0 ≤ f ∧ 0 ≤ t) ∧ (0 < l.length ∧ l.length ≤ 4096))) : okB ⟨e, f, t, l⟩ = false :=
  decide_eq_false fun q => h ⟨q.1, q.2.1⟩
theorem okB_other {e f t : Int} {l : List MV} {j : Nat} (hj : j < l.length) (h : (l[j]!).e ≠ e) : okB ⟨e, f, t, l⟩ = false :=
  decide_eq_false fun q => h (q.2.2 _ (by rw [getElem!_pos l j hj]; exact List.getElem_mem hj))
set_option maxRecDepth 100000 in
set_option maxHeartbeats 16000000 in
theorem pokB_any (e f t : Int) (q : Option Addr) (d : Nat) (l : List MV) (w : World) (h : RM.Is w (.slice q l.length d) l) : Calls Try.prog 24 #[.agg #[.int .i64 e, .int .i64 f, .int .i64 t, .slice q l.length d]] w (Ret (.bool (okB ⟨e, f, t, l⟩)) w) := by
  have HI := Lib.hid h
  have HNo : Hid (¬ ((0 ≤ e ∧ 0 ≤ f ∧ 0 ≤ t) ∧ (0 < l.length ∧ l.length ≤ 4096)) → okB ⟨e, f, t, l⟩ = false) := okB_none
  have HOt : Hid (∀ j, j < l.length → (l[j]!).e ≠ e → okB ⟨e, f, t, l⟩ = false) := fun j hj => okB_other hj
  have HAl : Hid (0 ≤ e → 0 ≤ f → 0 ≤ t → 0 < l.length → l.length ≤ 4096 → (∀ j, j < l.length → (l[j]!).e = e) → okB ⟨e, f, t, l⟩ = true) := okB_all
  generalize okB ⟨e, f, t, l⟩ = R at *
  clear h
  generalize hln : l.length = ln at *
  have HLn := Lib.hid hln
  clear hln
  go_enter Try.func24, Try.ntmps24
  go_upto_region 1 with (fail)
  refine gen_world (fun W3 => Below w.heap.size w W3 ∧ Boxed W3 w.heap.size #[.int .i64 e, .int .i64 f, .int .i64 t, .slice q ln d] 34) ⟨by first | exact (Below.refl _ _).alloc (Nat.le_refl _) _ | go_grown, by first | exact heap_alloc_new _ _ | skip⟩ ?_
  rintro w1 ⟨hb1, hx1⟩
  have HB := Lib.hid hb1
  have HX := Lib.hid hx1
  have b0 : w1.cell? ⟨w.heap.size, 0, none⟩ = some (.int .i64 e) := hx1.cell 0
  have b1 : w1.cell? ⟨w.heap.size, 1, none⟩ = some (.int .i64 f) := hx1.cell 1
  have b2 : w1.cell? ⟨w.heap.size, 2, none⟩ = some (.int .i64 t) := hx1.cell 2
  have b3 : w1.cell? ⟨w.heap.size, 3, none⟩ = some (.slice q ln d) := hx1.cell 3
  clear hb1 hx1
  by_cases h1 : e < 0
  · have d1 : decide (e < 0) = true := decide_eq_true h1
    have HR := Lib.hid (HNo.out (by omega))
    clear HNo HOt HAl h1
    go_wp2
    go_returns
    exact ⟨ret_bool HR.out.symm, HB.out⟩
  · have d1 : decide (e < 0) = false := decide_eq_false h1
    by_cases h2 : f < 0
    · have d2 : decide (f < 0) = true := decide_eq_true h2
      have HR := Lib.hid (HNo.out (by omega))
      clear HNo HOt HAl h1 h2
      go_wp2
      go_returns
      exact ⟨ret_bool HR.out.symm, HB.out⟩
    · have d2 : decide (f < 0) = false := decide_eq_false h2
      by_cases h3 : t < 0
      · have d3 : decide (t < 0) = true := decide_eq_true h3
        have HR := Lib.hid (HNo.out (by omega))
        clear HNo HOt HAl h1 h2 h3
        go_wp2
        go_returns
        exact ⟨ret_bool HR.out.symm, HB.out⟩
      · have d3 : decide (t < 0) = false := decide_eq_false h3
        by_cases h4 : ln = 0
        · have d4 : ((ln : Int) == 0) = true := by simp; omega
          have HR := Lib.hid (HNo.out (by omega))
          clear HNo HOt HAl h1 h2 h3 h4
          go_wp2
          go_returns
          exact ⟨ret_bool HR.out.symm, HB.out⟩
        · have d4 : ((ln : Int) == 0) = false := by simp; omega
          by_cases h5 : 4096 < ln
          · have d5 : decide ((4096 : Int) < (ln : Int)) = true := decide_eq_true (by omega)
            have HR := Lib.hid (HNo.out (by omega))
            clear HNo HOt HAl h1 h2 h3 h4 h5
            go_wp2
            go_returns
            exact ⟨ret_bool HR.out.symm, HB.out⟩
          · have d5 : decide ((4096 : Int) < (ln : Int)) = false := decide_eq_false (by omega)
            have HAl2 := Lib.hid (HAl.out (by omega) (by omega) (by omega) (by omega) (by omega))
            have hl4 : ln ≤ 4096 := by omega
            clear HNo HAl h1 h2 h3 h4 h5
            go_upto_region 5 with (fail)
            clear d1 d2 d3 d4 d5
            go_wp2_with fail
            clear b0 b1 b2 b3
            go_loopg [31] ln (fun g2 i wr => ∃ j : Nat, j ≤ ln ∧ ln - j ≤ g2 ∧ i = .int .i64 (j : Int) ∧ Hid (Below w1.heap.size w1 wr) ∧ Hid (∀ i, i < j → (l[i]!).e = e))
            case atStart => exact ⟨0, Nat.zero_le _, by omega, rfl, Below.refl _ _, fun i hi => absurd hi (Nat.not_lt_zero i)⟩
            case round =>
              obtain ⟨j, hj, hg2, rfl, HB5, HE⟩ := hrel
              rename World => w5
              have HB5w : Hid (Below w.heap.size w w5) := bcall HB.out HB5.out HB.out.size
              have HX5 := Lib.hid (HX.out.below HB5.out HX.out.lt)
              by_cases hjt : j < ln
              · have hjz : (j : Int) < (ln : Int) := by omega
                obtain ⟨pq, cq, eq1, hop⟩ := isOpenedU HI.out
                simp only [Value.slice.injEq] at eq1
                obtain ⟨rfl, eln, rfl⟩ := eq1
                clear eln
                obtain ⟨bm, om, rfl, hbm, hrm⟩ := hop j (by rw [HLn.out]; exact hjt)
                obtain ⟨m0, m1, m2, m3, m4, m5, m6, m7, m8, m9⟩ := atM (hrm.below HB5w.out hbm) j (by rw [HLn.out]; exact hjt)
                have HNo3 := Lib.hid (HOt.out j hjt)
                have HNo3 := Lib.hid (HOt.out j hjt)
                generalize hmm : l[j]! = m at *
                have HE2 : Hid (m.e = e → ∀ i, i < j + 1 → (l[i]!).e = e) := fun q i hi => by
                  by_cases x : i = j
                  · subst x; rw [hmm]; exact q
                  · exact HE.out i (by omega)
                clear hop hrm hbm hmm HOt
                go_upto_region 8 with (fail)
                refine gen_world (fun W3 => Below w5.heap.size w5 W3 ∧ Boxed W3 w5.heap.size (mvRow m) 29) ⟨by first | exact (Below.refl _ _).alloc (Nat.le_refl _) _ | go_grown, by first | exact heap_alloc_new _ _ | skip⟩ ?_
                rintro w6 ⟨hb6, hx6⟩
                have HB6 := Lib.hid (bcall HB5.out hb6 HB5.out.size)
                have g0 : w6.cell? ⟨w5.heap.size, 0, none⟩ = some (.int .i64 m.e) := hx6.cell 0
                have b0 : w6.cell? ⟨w.heap.size, 0, none⟩ = some (.int .i64 e) := (HX5.out.below hb6 HX5.out.lt).cell 0
                have HX6 := Lib.hid (HX5.out.below hb6 HX5.out.lt)
                clear hb6 hx6 m0 m1 m2 m3 m4 m5 m6 m7 m8 m9
                by_cases hne : m.e = e
                · have b9 : (m.e == e) = true := by simpa using hne
                  have b9' : (m.e != e) = false := by simpa using hne
                  have HE3 := Lib.hid (HE2.out hne)
                  clear hne HNo3 HE2
                  go_wp2
                  go_roundg (ln - (j + 1))
                  case measure => omega
                  case rel => exact ⟨j + 1, by omega, by omega, by go_num, HB6.out, HE3.out⟩
                · have b9 : (m.e == e) = false := by simpa using hne
                  have b9' : (m.e != e) = true := by simpa using hne
                  have HR := Lib.hid (HNo3.out hne)
                  clear hne HNo3 HE2
                  go_wp2
                  go_returns
                  exact ⟨ret_bool HR.out.symm, bcall HB.out HB6.out HB.out.size⟩
              · obtain rfl : j = ln := by omega
                have HR := Lib.hid (HAl2.out HE.out)
                clear HOt HAl2
                go_wp2
                go_returns
                exact ⟨ret_bool HR.out.symm, HB5w.out⟩
end Go.Proofs.Ytdgnblkoohakeaa
