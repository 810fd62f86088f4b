/- the program's own number, sum, difference, product, quotient, reckon -/
import Derived.Test.YthhceggcdaljdaaGreatK01
import Derived.Test.YthhceggcdaljdaaGreatG03
import Derived.ArgAppend
namespace Go.Proofs.YthhceggcdaljdaaGreat
open Go.RowKit
set_option linter.unusedVariables false
set_option linter.unusedSimpArgs false

abbrev wV (x : Int) : Value := .tuple #[.int .i64 (wrap64 x), .bool (decide (inR x))]
/-- the call returns the value v, and has drawn, no more -/
def RetN (v : Value) (w : World) (e : Ending) (w' : World) : Prop := e = .returned v ∧ ∃ n, w' = w.drewN n
theorem RetW.n {v : Value} {w : World} {e : Ending} {w' : World} (h : RetW v w e w') : RetN v w e w' := ⟨h.1, 0, h.2⟩
set_option maxHeartbeats 2000000 in
theorem pnumber_any (c : Bool) (w : World) : Calls Tryz.prog 287 #[.bool c] w (RetW (.int .i64 (if c = true then 1 else 0)) w) := by
  cases c
  all_goals
    go_enter Tryz.func287, Tryz.ntmps287
    go_wp2
    go_returns
    exact ⟨rfl, rfl⟩
theorem sum_test {a b : Int} (ha : inR a) (hb : inR b) : (decide (wrap64 (a + b) < a) == decide (b < 0)) = decide (inR (a + b)) := by
  have h : (wrap64 (a + b) < a ↔ b < 0) ↔ inR (a + b) := by
    unfold inR at *
    unfold wrap64
    omega
  rw [Bool.eq_iff_iff, beq_iff_eq, decide_eq_decide, decide_eq_true_eq, h]
theorem diff_test {a b : Int} (ha : inR a) (hb : inR b) : (decide (wrap64 (a - b) > a) == decide (b < 0)) = decide (inR (a - b)) := by
  have h : (wrap64 (a - b) > a ↔ b < 0) ↔ inR (a - b) := by
    unfold inR at *
    unfold wrap64
    omega
  rw [Bool.eq_iff_iff, beq_iff_eq, decide_eq_decide, decide_eq_true_eq, h]
theorem retV {u v : Value} (h : u = v) : Ending.returned u = .returned v := by rw [h]
set_option maxHeartbeats 4000000 in
theorem psum_any (a b : Int) (ha : inR a) (hb : inR b) (w : World) : Calls Tryz.prog 283 #[.int .i64 a, .int .i64 b] w (RetW (wV (a + b)) w) := by
  have ht := sum_test ha hb
  unfold wV
  generalize decide (inR (a + b)) = V at *
  have HT := Lib.hid ht
  clear ht ha hb
  go_enter Tryz.func283, Tryz.ntmps283
  go_wp2
  go_returns
  exact ⟨retV (by rw [← HT.out]; rfl), rfl⟩
set_option maxHeartbeats 4000000 in
theorem pdifference_any (a b : Int) (ha : inR a) (hb : inR b) (w : World) : Calls Tryz.prog 284 #[.int .i64 a, .int .i64 b] w (RetW (wV (a - b)) w) := by
  have ht := diff_test ha hb
  unfold wV
  generalize decide (inR (a - b)) = V at *
  have HT := Lib.hid ht
  clear ht ha hb
  go_enter Tryz.func284, Tryz.ntmps284
  go_wp2
  go_returns
  exact ⟨retV (by rw [← HT.out]; rfl), rfl⟩
set_option maxHeartbeats 4000000 in
theorem pproduct_any (a b : Int) (ha : inR a) (hb : inR b) (w : World) : Calls Tryz.prog 285 #[.int .i64 a, .int .i64 b] w (RetN (wV (a * b)) w) := by
  by_cases a0 : a = 0
  · subst a0
    have hv : wV (0 * b) = .tuple #[.int .i64 0, .bool true] := by unfold wV; rw [Int.zero_mul, wrap_in (by decide), decide_eq_true (by decide)]
    rw [hv]
    clear hv ha hb
    go_enter Tryz.func285, Tryz.ntmps285
    go_wp2
    all_goals go_returns
    all_goals exact ⟨rfl, 0, rfl⟩
  by_cases a1 : a = -1
  · subst a1
    have HC := Lib.hid (fun W => pdifference_any 0 b (by decide) hb W)
    rw [show (0 : Int) - b = -1 * b by omega] at HC
    unfold wV at *
    generalize wrap64 (-1 * b) = n at *
    generalize decide (inR (-1 * b)) = V at *
    clear ha hb a0
    go_enter Tryz.func285, Tryz.ntmps285
    go_wp2_with fail
    refine (HC.out _).mono ?_
    rintro e w1 ⟨rfl, rfl⟩
    go_wp2
    all_goals go_returns
    all_goals exact ⟨rfl, 0, rfl⟩
  have e0 : (a == 0) = false := by simpa using a0
  have e1 : (a == -1) = false := by simpa using a1
  have ht := prod_test hb ha a0
  rw [Int.mul_comm b a] at ht
  have hq : wrap64 ((wrap64 (a * b)).tdiv a) = (wrap64 (a * b)).tdiv a := wrap_in (tdiv_in (wrap_range _) a0 (fun e => a1 e.1))
  have hd : (wrap64 ((wrap64 (a * b)).tdiv a) == b) = decide (inR (a * b)) := by rw [hq, Bool.eq_iff_iff, beq_iff_eq, ht, decide_eq_true_eq]
  unfold wV
  generalize decide (inR (a * b)) = V at *
  have HD := Lib.hid hd
  clear hd ht hq ha hb a1
  go_enter Tryz.func285, Tryz.ntmps285
  go_wp2_with fail
  go_quiet (fail)
  go_wp2
  go_returns
  exact ⟨retV (by rw [← HD.out]; rfl), _, rfl⟩
set_option maxHeartbeats 4000000 in
theorem pquotient_any (a b : Int) (ha : inR a) (hb : inR b) (h0 : b ≠ 0) (w : World) : Calls Tryz.prog 286 #[.int .i64 a, .int .i64 b] w (RetW (wV (a.tdiv b)) w) := by
  by_cases b1 : b = -1
  · subst b1
    have HC := Lib.hid (fun W => pdifference_any 0 a (by decide) ha W)
    rw [show (0 : Int) - a = a.tdiv (-1) by rw [Int.tdiv_neg, Int.tdiv_one]; omega] at HC
    unfold wV at *
    generalize wrap64 (a.tdiv (-1)) = n at *
    generalize decide (inR (a.tdiv (-1))) = V at *
    clear ha hb h0
    go_enter Tryz.func286, Tryz.ntmps286
    go_wp2_with fail
    refine (HC.out _).mono ?_
    rintro e w1 ⟨rfl, rfl⟩
    go_wp2
    all_goals go_returns
    all_goals exact ⟨rfl, rfl⟩
  have e0 : (b == 0) = false := by simpa using h0
  have e1 : (b == -1) = false := by simpa using b1
  have hd := tdiv_in ha h0 (fun e => b1 e.1)
  have hv : wV (a.tdiv b) = .tuple #[.int .i64 (wrap64 (a.tdiv b)), .bool true] := by unfold wV; rw [decide_eq_true hd]
  rw [hv]
  clear hv hd ha hb b1
  go_enter Tryz.func286, Tryz.ntmps286
  go_wp2
  all_goals go_returns
  all_goals exact ⟨rfl, rfl⟩
end Go.Proofs.YthhceggcdaljdaaGreat
/- the program's own reckon -/
namespace Go.Proofs.YthhceggcdaljdaaGreat
open Go.RowKit
set_option linter.unusedVariables false
set_option linter.unusedSimpArgs false

set_option maxHeartbeats 8000000 in
theorem preckon4 (a b : Int) (ha : inR a) (hb : inR b) (w : World) : Calls Tryz.prog 282 #[.int .i64 4, .int .i64 a, .int .i64 b] w (RetN (ofV2 (ofN 4 a b)) w) := by
  have hV : ofN 4 a b = roomN (a + b) := rfl
  rw [hV]
  clear hV
  have HC : Hid (∀ W, Calls Tryz.prog 283 #[.int .i64 a, .int .i64 b] W (RetN (wV (a + b)) W)) := fun W => (psum_any a b ha hb W).mono fun _ _ h => h.n
  by_cases hr : inR (a + b)
  · rw [roomN_in hr]
    unfold wV at HC
    rw [wrap_in hr, decide_eq_true hr] at HC
    clear hr ha hb
    cases hb0 : (b == 0)
    all_goals
      go_enter Tryz.func282, Tryz.ntmps282
      go_wp2_with fail
      refine (HC.out _).mono ?_
      rintro e w1 ⟨rfl, nd, rfl⟩
      go_wp2
      all_goals go_returns
      all_goals exact ⟨rfl, _, rfl⟩
  · rw [roomN_out hr]
    unfold wV at HC
    rw [decide_eq_false hr] at HC
    generalize wrap64 (a + b) = z at *
    clear hr ha hb
    cases hb0 : (b == 0)
    all_goals
      go_enter Tryz.func282, Tryz.ntmps282
      go_wp2_with fail
      refine (HC.out _).mono ?_
      rintro e w1 ⟨rfl, nd, rfl⟩
      go_wp2
      all_goals go_returns
      all_goals exact ⟨rfl, _, rfl⟩
set_option maxHeartbeats 8000000 in
theorem preckon5 (a b : Int) (ha : inR a) (hb : inR b) (w : World) : Calls Tryz.prog 282 #[.int .i64 5, .int .i64 a, .int .i64 b] w (RetN (ofV2 (ofN 5 a b)) w) := by
  have hV : ofN 5 a b = roomN (a - b) := rfl
  rw [hV]
  clear hV
  have HC : Hid (∀ W, Calls Tryz.prog 284 #[.int .i64 a, .int .i64 b] W (RetN (wV (a - b)) W)) := fun W => (pdifference_any a b ha hb W).mono fun _ _ h => h.n
  by_cases hr : inR (a - b)
  · rw [roomN_in hr]
    unfold wV at HC
    rw [wrap_in hr, decide_eq_true hr] at HC
    clear hr ha hb
    cases hb0 : (b == 0)
    all_goals
      go_enter Tryz.func282, Tryz.ntmps282
      go_wp2_with fail
      refine (HC.out _).mono ?_
      rintro e w1 ⟨rfl, nd, rfl⟩
      go_wp2
      all_goals go_returns
      all_goals exact ⟨rfl, _, rfl⟩
  · rw [roomN_out hr]
    unfold wV at HC
    rw [decide_eq_false hr] at HC
    generalize wrap64 (a - b) = z at *
    clear hr ha hb
    cases hb0 : (b == 0)
    all_goals
      go_enter Tryz.func282, Tryz.ntmps282
      go_wp2_with fail
      refine (HC.out _).mono ?_
      rintro e w1 ⟨rfl, nd, rfl⟩
      go_wp2
      all_goals go_returns
      all_goals exact ⟨rfl, _, rfl⟩
set_option maxHeartbeats 8000000 in
theorem preckon6 (a b : Int) (ha : inR a) (hb : inR b) (w : World) : Calls Tryz.prog 282 #[.int .i64 6, .int .i64 a, .int .i64 b] w (RetN (ofV2 (ofN 6 a b)) w) := by
  have hV : ofN 6 a b = roomN (a * b) := rfl
  rw [hV]
  clear hV
  have HC : Hid (∀ W, Calls Tryz.prog 285 #[.int .i64 a, .int .i64 b] W (RetN (wV (a * b)) W)) := fun W => pproduct_any a b ha hb W
  by_cases hr : inR (a * b)
  · rw [roomN_in hr]
    unfold wV at HC
    rw [wrap_in hr, decide_eq_true hr] at HC
    clear hr ha hb
    cases hb0 : (b == 0)
    all_goals
      go_enter Tryz.func282, Tryz.ntmps282
      go_wp2_with fail
      refine (HC.out _).mono ?_
      rintro e w1 ⟨rfl, nd, rfl⟩
      go_wp2
      all_goals go_returns
      all_goals exact ⟨rfl, _, rfl⟩
  · rw [roomN_out hr]
    unfold wV at HC
    rw [decide_eq_false hr] at HC
    generalize wrap64 (a * b) = z at *
    clear hr ha hb
    cases hb0 : (b == 0)
    all_goals
      go_enter Tryz.func282, Tryz.ntmps282
      go_wp2_with fail
      refine (HC.out _).mono ?_
      rintro e w1 ⟨rfl, nd, rfl⟩
      go_wp2
      all_goals go_returns
      all_goals exact ⟨rfl, _, rfl⟩
set_option maxHeartbeats 8000000 in
theorem preckon7 (a b : Int) (ha : inR a) (hb : inR b) (w : World) : Calls Tryz.prog 282 #[.int .i64 7, .int .i64 a, .int .i64 b] w (RetN (ofV2 (ofN 7 a b)) w) := by
  have hV : ofN 7 a b = if b = 0 then (0, 3) else roomN (a.tdiv b) := rfl
  rw [hV]
  clear hV
  by_cases hz : b = 0
  · subst hz
    rw [if_pos rfl]
    clear ha hb
    go_enter Tryz.func282, Tryz.ntmps282
    go_wp2
    all_goals go_returns
    all_goals exact ⟨rfl, 0, rfl⟩
  · rw [if_neg hz]
    have h0 := hz
    have hzb : (b == 0) = false := by simpa using hz
    have HC : Hid (∀ W, Calls Tryz.prog 286 #[.int .i64 a, .int .i64 b] W (RetN (wV (a.tdiv b)) W)) := fun W => (pquotient_any a b ha hb h0 W).mono fun _ _ h => h.n
    by_cases hr : inR (a.tdiv b)
    · rw [roomN_in hr]
      unfold wV at HC
      rw [wrap_in hr, decide_eq_true hr] at HC
      clear hr ha hb h0 hz
      skip
      all_goals
        go_enter Tryz.func282, Tryz.ntmps282
        go_wp2_with fail
        refine (HC.out _).mono ?_
        rintro e w1 ⟨rfl, nd, rfl⟩
        go_wp2
        all_goals go_returns
        all_goals exact ⟨rfl, _, rfl⟩
    · rw [roomN_out hr]
      unfold wV at HC
      rw [decide_eq_false hr] at HC
      generalize wrap64 (a.tdiv b) = z at *
      clear hr ha hb h0 hz
      skip
      all_goals
        go_enter Tryz.func282, Tryz.ntmps282
        go_wp2_with fail
        refine (HC.out _).mono ?_
        rintro e w1 ⟨rfl, nd, rfl⟩
        go_wp2
        all_goals go_returns
        all_goals exact ⟨rfl, _, rfl⟩
set_option maxHeartbeats 8000000 in
theorem preckon8 (a b : Int) (ha : inR a) (hb : inR b) (w : World) : Calls Tryz.prog 282 #[.int .i64 8, .int .i64 a, .int .i64 b] w (RetN (ofV2 (ofN 8 a b)) w) := by
  have hV : ofN 8 a b = if b = 0 then (0, 3) else (a.tmod b, 0) := rfl
  rw [hV]
  clear hV
  by_cases hz : b = 0
  · subst hz
    rw [if_pos rfl]
    clear ha hb
    go_enter Tryz.func282, Tryz.ntmps282
    go_wp2
    all_goals go_returns
    all_goals exact ⟨rfl, 0, rfl⟩
  · rw [if_neg hz]
    have hzb : (b == 0) = false := by simpa using hz
    have hw : wrap64 (a.tmod b) = a.tmod b := wrap_in (tmod_in ha hz)
    have HW := Lib.hid hw
    go_enter Tryz.func282, Tryz.ntmps282
    by_cases hb1 : b = -1
    · subst hb1
      rw [show a.tmod (-1) = 0 by rw [Int.tmod_neg, Int.tmod_one]]
      clear hw ha hb hz HW
      go_wp2
      all_goals go_returns
      all_goals exact ⟨rfl, 0, rfl⟩
    · have hbb : (b != -1) = true := by simpa using hb1
      have hbc : (b == -1) = false := by simpa using hb1
      clear hw ha hb
      go_wp2
      all_goals go_returns
      all_goals exact ⟨ret2i (by first | rfl | exact HW.out) rfl, 0, rfl⟩
set_option maxHeartbeats 8000000 in
theorem preckon9 (a b : Int) (ha : inR a) (hb : inR b) (w : World) : Calls Tryz.prog 282 #[.int .i64 9, .int .i64 a, .int .i64 b] w (RetN (ofV2 (ofN 9 a b)) w) := by
  have HC : Hid (∀ c W, Calls Tryz.prog 287 #[.bool c] W (RetW (.int .i64 (if c = true then 1 else 0)) W)) := fun c W => pnumber_any c W
  have hV : ofN 9 a b = ((if a < b then 1 else 0), 0) := rfl
  rw [hV]
  clear hV ha hb
  by_cases hlt : a < b
  · rw [if_pos hlt]
    have hd : decide (a < b) = true := decide_eq_true hlt
    clear hlt
    cases hb0 : (b == 0)
    all_goals
      go_enter Tryz.func282, Tryz.ntmps282
      go_wp2_with fail
      refine (HC.out _ _).mono ?_
      rintro e w1 ⟨rfl, rfl⟩
      go_wp2
      all_goals go_returns
      all_goals exact ⟨rfl, 0, rfl⟩
  · rw [if_neg hlt]
    have hd : decide (a < b) = false := decide_eq_false hlt
    clear hlt
    cases hb0 : (b == 0)
    all_goals
      go_enter Tryz.func282, Tryz.ntmps282
      go_wp2_with fail
      refine (HC.out _ _).mono ?_
      rintro e w1 ⟨rfl, rfl⟩
      go_wp2
      all_goals go_returns
      all_goals exact ⟨rfl, 0, rfl⟩
set_option maxHeartbeats 8000000 in
theorem preckon10 (a b : Int) (ha : inR a) (hb : inR b) (w : World) : Calls Tryz.prog 282 #[.int .i64 10, .int .i64 a, .int .i64 b] w (RetN (ofV2 (ofN 10 a b)) w) := by
  have HC : Hid (∀ c W, Calls Tryz.prog 287 #[.bool c] W (RetW (.int .i64 (if c = true then 1 else 0)) W)) := fun c W => pnumber_any c W
  have hV : ofN 10 a b = ((if a = b then 1 else 0), 0) := rfl
  rw [hV]
  clear hV ha hb
  by_cases hlt : a = b
  · rw [if_pos hlt]
    have hd : (a == b) = true := by simpa using hlt
    clear hlt
    cases hb0 : (b == 0)
    all_goals
      go_enter Tryz.func282, Tryz.ntmps282
      go_wp2_with fail
      refine (HC.out _ _).mono ?_
      rintro e w1 ⟨rfl, rfl⟩
      go_wp2
      all_goals go_returns
      all_goals exact ⟨rfl, 0, rfl⟩
  · rw [if_neg hlt]
    have hd : (a == b) = false := by simpa using hlt
    clear hlt
    cases hb0 : (b == 0)
    all_goals
      go_enter Tryz.func282, Tryz.ntmps282
      go_wp2_with fail
      refine (HC.out _ _).mono ?_
      rintro e w1 ⟨rfl, rfl⟩
      go_wp2
      all_goals go_returns
      all_goals exact ⟨rfl, 0, rfl⟩
theorem preckon_any (op a b : Int) (h4 : 4 ≤ op) (h10 : op ≤ 10) (ha : inR a) (hb : inR b) (w : World) : Calls Tryz.prog 282 #[.int .i64 op, .int .i64 a, .int .i64 b] w (RetN (ofV2 (ofN op a b)) w) := by
  rcases (by omega : op = 4 ∨ op = 5 ∨ op = 6 ∨ op = 7 ∨ op = 8 ∨ op = 9 ∨ op = 10) with rfl | rfl | rfl | rfl | rfl | rfl | rfl
  · exact preckon4 a b ha hb w
  · exact preckon5 a b ha hb w
  · exact preckon6 a b ha hb w
  · exact preckon7 a b ha hb w
  · exact preckon8 a b ha hb w
  · exact preckon9 a b ha hb w
  · exact preckon10 a b ha hb w
end Go.Proofs.YthhceggcdaljdaaGreat
/- the program's machine in memory (Mach); its own put, emit, take, needs -/
namespace Go.Proofs.YthhceggcdaljdaaGreat
open Go.RowKit
set_option linter.unusedVariables false
set_option linter.unusedSimpArgs false

/-- the machine lies in block bm; its stack and what it has emitted lie in rows of the run's own -/
structure Mach (B bm : Nat) (rk rv : Int) (w : World) (pc : Int) (sv ov : Value) (S : List Int) (O : List RV) : Prop where
  box : w.heap[bm]? = some (.cells #[.int .i64 rk, .int .i64 rv, .int .i64 pc, sv, ov] 272 (0, 0))
  hB : B ≤ bm
  st : R6.Own B w sv S
  out : RR.Own B w ov O
namespace Mach
variable {B bm : Nat} {rk rv : Int} {w w' : World} {pc : Int} {sv ov : Value} {S : List Int} {O : List RV}
theorem row (h : Mach B bm rk rv w pc sv ov S O) : rowOf w bm = some #[.int .i64 rk, .int .i64 rv, .int .i64 pc, sv, ov] := by
  unfold rowOf
  rw [h.box]
  rfl
theorem lt (h : Mach B bm rk rv w pc sv ov S O) : bm < w.heap.size := rowOf_lt h.row
theorem size (h : Mach B bm rk rv w pc sv ov S O) : B ≤ w.heap.size := Nat.le_trans h.hB (Nat.le_of_lt h.lt)
theorem apartS (h : Mach B bm rk rv w pc sv ov S O) {α : Type} {R : RowKind α} (hR : R.tE ≠ 272) {v : Value} {xs : List α} (ho : R.Own B w v xs) : v.ownBlock ≠ some bm := by
  intro e
  obtain ⟨_, ⟨rfl, _⟩ | ⟨g, cap, cur, rfl, _, hg, _⟩⟩ := ho
  · cases e
  have e1 : g = bm := Option.some.inj e
  subst e1
  have hb := h.box
  rw [hg] at hb
  simp only [Option.some.injEq, Obj.cells.injEq] at hb
  exact hR hb.2.1
theorem alloc (h : Mach B bm rk rv w pc sv ov S O) (o : Obj) : Mach B bm rk rv (w.alloc o) pc sv ov S O :=
  ⟨(Below.heap_alloc w o bm h.lt).trans h.box, h.hB, h.st.alloc o, h.out.alloc o⟩
theorem drewN (h : Mach B bm rk rv w pc sv ov S O) (n : Nat) : Mach B bm rk rv (w.drewN n) pc sv ov S O := ⟨h.box, h.hB, h.st, h.out⟩
theorem below (h : Mach B bm rk rv w pc sv ov S O) (hb : Below w.heap.size w w') : Mach B bm rk rv w' pc sv ov S O :=
  ⟨(hb.block bm h.lt).trans h.box, h.hB, h.st.below hb, h.out.below hb⟩
theorem keep (h : Mach B bm rk rv w pc sv ov S O) {α : Type} {R : RowKind α} (hR : R.tE ≠ 272) {v : Value} {xs : List α} (ho : R.Own B w v xs) (i : Nat) (u : Value) : R.Own B (w.setCell ⟨bm, i, none⟩ u) v xs :=
  ho.keepO fun l hl => Below.heap_setCell w ⟨bm, i, none⟩ u l (fun e => h.apartS hR ho (by rw [hl]; exact congrArg some e))
theorem setHeap (h : Mach B bm rk rv w pc sv ov S O) (i : Nat) (u : Value) : (w.setCell ⟨bm, i, none⟩ u).heap[bm]? = some (.cells (#[.int .i64 rk, .int .i64 rv, .int .i64 pc, sv, ov].setIfInBounds i u) 272 (0, 0)) := by
  unfold World.setCell
  simp only [Array.getElem?_modify, if_true, h.box]
  rfl
theorem setPc (h : Mach B bm rk rv w pc sv ov S O) (q : Int) : Mach B bm rk rv (w.setCell ⟨bm, 2, none⟩ (.int .i64 q)) q sv ov S O :=
  ⟨h.setHeap 2 _, h.hB, h.keep (by decide) h.st 2 _, h.keep (by decide) h.out 2 _⟩
theorem setSt (h : Mach B bm rk rv w pc sv ov S O) {v : Value} {xs : List Int} (ho : R6.Own B w v xs) : Mach B bm rk rv (w.setCell ⟨bm, 3, none⟩ v) pc v ov xs O :=
  ⟨h.setHeap 3 _, h.hB, h.keep (by decide) ho 3 _, h.keep (by decide) h.out 3 _⟩
theorem setOut (h : Mach B bm rk rv w pc sv ov S O) {v : Value} {xs : List RV} (ho : RR.Own B w v xs) : Mach B bm rk rv (w.setCell ⟨bm, 4, none⟩ v) pc sv v S xs :=
  ⟨h.setHeap 4 _, h.hB, h.keep (by decide) h.st 4 _, h.keep (by decide) ho 4 _⟩
/-- the stack's row has grown -/
theorem grownS (h : Mach B bm rk rv w pc sv ov S O) (hg : w.grownBy w' sv.ownBlock) {v : Value} {xs : List Int} (ho : R6.Own B w' v xs) : w'.heap[bm]? = w.heap[bm]? ∧ RR.Own B w' ov O := by
  have ha := h.st.apart h.out (by decide)
  exact ⟨hg.block bm h.lt (fun e => h.apartS (by decide) h.st e.symm), h.out.keepO fun l hl => hg.block l ((h.out.lt l hl).2) (fun e => ha l hl e.symm)⟩
theorem pushS (h : Mach B bm rk rv w pc sv ov S O) (hg : w.grownBy w' sv.ownBlock) {v : Value} {xs : List Int} (ho : R6.Own B w' v xs) : Mach B bm rk rv (w'.setCell ⟨bm, 3, none⟩ v) pc v ov xs O := by
  obtain ⟨hb, h2⟩ := h.grownS hg ho
  have hap : sv.ownBlock ≠ some bm := h.apartS (by decide) h.st
  have hbx := hb.trans h.box
  have keep : ∀ {α : Type} {R : RowKind α} (hR : R.tE ≠ 272) {v2 : Value} {ys : List α} (ho : R.Own B w' v2 ys), R.Own B (w'.setCell ⟨bm, 3, none⟩ v) v2 ys := by
    intro α R hR v2 ys ho
    refine ho.keepO fun l hl => Below.heap_setCell w' ⟨bm, 3, none⟩ v l (fun e => ?_)
    obtain ⟨_, ⟨rfl, _⟩ | ⟨g, cap, cur, rfl, _, hg, _⟩⟩ := ho
    · cases hl
    have e1 : g = l := Option.some.inj hl
    have e : l = bm := e
    subst e1
    subst e
    rw [hg] at hbx
    simp only [Option.some.injEq, Obj.cells.injEq] at hbx
    exact hR hbx.2.1
  refine ⟨?_, h.hB, keep (by decide) ho, keep (by decide) h2⟩
  unfold World.setCell
  simp only [Array.getElem?_modify, if_true, hbx]
  rfl
theorem pushO (h : Mach B bm rk rv w pc sv ov S O) (hg : w.grownBy w' ov.ownBlock) {v : Value} {xs : List RV} (ho : RR.Own B w' v xs) : Mach B bm rk rv (w'.setCell ⟨bm, 4, none⟩ v) pc sv v S xs := by
  have ha := h.out.apart h.st (by decide)
  have hb : w'.heap[bm]? = w.heap[bm]? := hg.block bm h.lt (fun e => h.apartS (by decide) h.out e.symm)
  have h2 : R6.Own B w' sv S := h.st.keepO fun l hl => hg.block l ((h.st.lt l hl).2) (fun e => ha l hl e.symm)
  have hbx := hb.trans h.box
  have keep : ∀ {α : Type} {R : RowKind α} (hR : R.tE ≠ 272) {v2 : Value} {ys : List α} (ho : R.Own B w' v2 ys), R.Own B (w'.setCell ⟨bm, 4, none⟩ v) v2 ys := by
    intro α R hR v2 ys ho
    refine ho.keepO fun l hl => Below.heap_setCell w' ⟨bm, 4, none⟩ v l (fun e => ?_)
    obtain ⟨_, ⟨rfl, _⟩ | ⟨g, cap, cur, rfl, _, hg, _⟩⟩ := ho
    · cases hl
    have e1 : g = l := Option.some.inj hl
    have e : l = bm := e
    subst e1
    subst e
    rw [hg] at hbx
    simp only [Option.some.injEq, Obj.cells.injEq] at hbx
    exact hR hbx.2.1
  refine ⟨?_, h.hB, keep (by decide) h2, keep (by decide) ho⟩
  unfold World.setCell
  simp only [Array.getElem?_modify, if_true, hbx]
  rfl
end Mach
set_option maxRecDepth 100000 in
set_option maxHeartbeats 4000000 in
theorem pput_any {B bm : Nat} {rk rv : Int} {w : World} {pc : Int} {sv ov : Value} {S : List Int} {O : List RV} (h : Mach B bm rk rv w pc sv ov S O) (lv : Value) (L : List Int) (hL : R6.App w lv L) (hlen : S.length + L.length ≤ 900000) :
    Calls Tryz.prog 276 #[.pointer (some ⟨bm, 0, none⟩), lv] w (fun e w' => e = .returned (.tuple #[]) ∧ Below B w w' ∧ ∃ sv', Mach B bm rk rv w' pc sv' ov (S ++ L) O) := by
  have H := Lib.hid h; have HL := Lib.hid hL
  have HLen : Hid (S.length + L.length ≤ 1000000) := by show _ ≤ _; omega
  have c3 : w.cell? ⟨bm, 3, none⟩ = some sv := rowOf_cell h.row 3
  clear h hL hlen
  go_enter Tryz.func276, Tryz.ntmps276
  go_wp2_with (at_builtin; refine RowKind.Own.append (R := R6) rfl _ _ rfl H.out.st rfl L rfl HL.out HLen.out H.out.size ?_; intro v' w' h1 h2; have HM := Lib.hid (H.out.pushS h2 h1); have hlt := H.out.st.lt; have HBw := Lib.hid (((Below.refl B w).grown h2 H.out.size (fun k hk => (hlt k hk).1)).setCell (p := ⟨bm, 3, none⟩) H.out.hB v'); have hrow := (rowOf_block (H.out.grownS h2 h1).1).trans H.out.row; have d3 : w'.cell? ⟨bm, 3, none⟩ = some sv := rowOf_cell hrow 3; have e3 := rowOf_frozen hrow 3; obtain ⟨p', c', rfl⟩ := h1.is.slice; clear hlt hrow h1 h2 c3; generalize (S ++ L).length = ln at *)
  go_returns
  exact ⟨rfl, HBw.out, _, HM.out⟩
set_option maxRecDepth 100000 in
set_option maxHeartbeats 4000000 in
theorem pemit_any {B bm : Nat} {rk rv : Int} {w : World} {pc : Int} {sv ov : Value} {S : List Int} {O : List RV} (h : Mach B bm rk rv w pc sv ov S O) (x y : Int) (hlen : O.length ≤ 8) :
    Calls Tryz.prog 277 #[.pointer (some ⟨bm, 0, none⟩), .int .i64 x, .int .i64 y] w (fun e w' => e = .returned (.int .i64 (if O.length = 8 then 5 else 0)) ∧ Below B w w' ∧ (O.length ≠ 8 → ∃ ov', Mach B bm rk rv w' pc sv ov' S (O ++ [⟨x, y⟩]))) := by
  obtain ⟨po, co, rfl⟩ := h.out.is.slice
  have H := Lib.hid h
  have c4 : w.cell? ⟨bm, 4, none⟩ = some (.slice po O.length co) := rowOf_cell h.row 4
  have HLen : Hid (O.length ≤ 900000) := by show _ ≤ _; omega
  have HOut := Lib.hid h.out
  clear h
  by_cases h8 : O.length = 8
  · rw [if_pos h8]
    have hn : ¬ O.length ≠ 8 := fun e => e h8
    have HN := Lib.hid hn
    clear hn
    rw [h8] at c4
    clear h8 hlen
    go_enter Tryz.func277, Tryz.ntmps277
    go_wp2
    go_returns
    exact ⟨rfl, Below.refl _ _, fun e => absurd e HN.out⟩
  · rw [if_neg h8]
    have HA : Hid (Mach B bm rk rv (w.alloc (.cells (RR.enc (⟨x, y⟩ : RV)).toArray 27)) pc sv (.slice po O.length co) S O) := H.out.alloc _
    have HAp : Hid (RR.App (w.alloc (.cells (RR.enc (⟨x, y⟩ : RV)).toArray 27)) (.slice (some ⟨w.heap.size, 0, none⟩) 1 1) [(⟨x, y⟩ : RV)]) := RowKind.Row.app (ys := [(⟨x, y⟩ : RV)]) (RowKind.Row.new (R := RR) w (⟨x, y⟩ : RV) 27)
    have HLen1 : Hid (O.length + 1 ≤ 1000000) := by show _ ≤ _; omega
    have HB0 := Lib.hid ((Below.refl B w).alloc H.out.size (.cells (RR.enc (⟨x, y⟩ : RV)).toArray 27))
    have hz : ((O.length : Int) == 8) = false := by simp; omega
    clear hlen h8
    go_enter Tryz.func277, Tryz.ntmps277
    go_wp2_with (at_builtin; refine RowKind.Own.append (R := RR) (w := w.alloc (.cells (RR.enc (⟨x, y⟩ : RV)).toArray 27)) rfl _ _ rfl HA.out.out rfl [(⟨x, y⟩ : RV)] rfl HAp.out HLen1.out HA.out.size ?_; intro v' w' h1 h2; have HM := Lib.hid (HA.out.pushO h2 h1); have hlt := HA.out.out.lt; have HBw := Lib.hid ((HB0.out.grown h2 HA.out.size (fun k hk => (hlt k hk).1)).setCell (p := ⟨bm, 4, none⟩) H.out.hB v'); have hrow := (rowOf_block (h2.block bm HA.out.lt (fun e => HA.out.apartS (by decide) HA.out.out e.symm))).trans HA.out.row; have d4 : w'.cell? ⟨bm, 4, none⟩ = some (.slice po O.length co) := rowOf_cell hrow 4; have e4 := rowOf_frozen hrow 4; obtain ⟨p', c', rfl⟩ := h1.is.slice; clear hlt hrow h1 h2 c4; generalize (O ++ [(⟨x, y⟩ : RV)]).length = ln at *)
    go_returns
    exact ⟨rfl, HBw.out, fun _ => ⟨_, HM.out⟩⟩
end Go.Proofs.YthhceggcdaljdaaGreat
