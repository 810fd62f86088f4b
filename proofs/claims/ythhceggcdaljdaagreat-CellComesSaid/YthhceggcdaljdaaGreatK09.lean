/- the program's own Run and Right answer as the document's: progC -/
import Derived.Test.YthhceggcdaljdaaGreatK08
import Derived.Test.YthhceggcdaljdaaGreatK03
import Derived.Test.YthhceggcdaljdaaGreatG04
import Derived.BigQuiet
namespace Go.Proofs.YthhceggcdaljdaaGreat
open Go.RowKit
set_option linter.unusedVariables false
set_option linter.unusedSimpArgs false

theorem machInit {rk rv : Int} (w : World) : Mach w.heap.size w.heap.size rk rv (w.alloc (.cells #[.int .i64 rk, .int .i64 rv, .int .i64 0, .slice none 0 0, .slice none 0 0] 272)) 0 (.slice none 0 0) (.slice none 0 0) [] [] :=
  ⟨heap_alloc_new w _, Nat.le_refl _, RowKind.Own.nil R6 _ _, RowKind.Own.nil RR _ _⟩
set_option maxRecDepth 100000 in
set_option maxHeartbeats 8000000 in
theorem pRun_row (p : List NV) (rk rv : Int) (b off cap : Nat) (w : World) (hl : p.length ≤ 900000) (h0 : p ≠ []) (hb : b < w.heap.size) (hr : RC.Row w b off p) (hpn : ∀ x ∈ p, inR x.n) (hrk : inR rk) (hrv : inR rv) :
    Calls Tryz.prog 220 #[.slice (some ⟨b, off, none⟩) p.length cap, .agg #[.int .i64 rk, .int .i64 rv]] w (RunR p ⟨rk, rv⟩ w) := by
  have hbox := Below.alloc (Below.refl w.heap.size w) (Nat.le_refl _) (.cells #[.int .i64 rk, .int .i64 rv] 27)
  have HRT := Lib.hid (fun W (hW : Below w.heap.size w W) => pright_any p (.slice (some ⟨b, off, none⟩) p.length cap) W hl (.inr ⟨h0, b, off, cap, rfl, Nat.lt_of_lt_of_le hb hW.size, hr.below hW hb⟩))
  have hno : rightC p = false → runC p ⟨rk, rv⟩ = ([], 0) := fun h => by unfold runC; rw [h]; rfl
  have hyes : rightC p = true → runP p ⟨rk, rv⟩ 256 [] [] 0 = runC p ⟨rk, rv⟩ := fun h => by unfold runC; rw [h]; rfl
  have hall : rightC p = true → ∀ j, j < p.length → NV.ok p.length p[j]! := fun h j hj => by
    unfold rightC at h
    rw [Bool.and_eq_true, List.all_eq_true] at h
    have := h.1 p[j]! (by rw [getElem!_pos p j hj]; exact List.getElem_mem hj)
    exact of_decide_eq_true this
  have h64 : rightC p = true → p.length ≤ 64 := fun h => by
    unfold rightC at h
    rw [Bool.and_eq_true] at h
    exact of_decide_eq_true h.2
  have hpn2 : ∀ j, j < p.length → inR p[j]!.n := fun j hj => hpn p[j]! (by rw [getElem!_pos p j hj]; exact List.getElem_mem hj)
  have hrun : rightC p = true → ∀ (W0 : World), Below w.heap.size w W0 → w.heap.size ≤ W0.heap.size → Calls Tryz.prog 247 #[.pointer (some ⟨W0.heap.size, 0, none⟩), .slice (some ⟨b, off, none⟩) p.length cap] (W0.alloc (.cells #[.int .i64 rk, .int .i64 rv, .int .i64 0, .slice none 0 0, .slice none 0 0] 272)) (fun e w' => e = .returned (.int .i64 (runC p ⟨rk, rv⟩).2) ∧ Below W0.heap.size (W0.alloc (.cells #[.int .i64 rk, .int .i64 rv, .int .i64 0, .slice none 0 0, .slice none 0 0] 272)) w' ∧ ((runC p ⟨rk, rv⟩).2 = 0 → ∃ pc sv' ov' S, Mach W0.heap.size W0.heap.size rk rv w' pc sv' ov' S (runC p ⟨rk, rv⟩).1)) := fun h W0 hW hz => by
    rw [← hyes h]
    exact prun_any p b off cap (machInit W0) (h64 h) (Nat.lt_of_lt_of_le hb hz) ((hr.below hW hb).below (Below.alloc (Below.refl W0.heap.size W0) (Nat.le_refl _) _) (Nat.lt_of_lt_of_le hb hz)) (hall h) hpn2 hrk hrv
  have herr : rightC p = true → (runC p ⟨rk, rv⟩).2 ≠ 0 → runC p ⟨rk, rv⟩ = errL ⟨rk, rv⟩ (runC p ⟨rk, rv⟩).2 := fun h => by
    rw [← hyes h]
    exact runP_err p ⟨rk, rv⟩ 256 [] [] 0
  have hrange : rightC p = true → 0 ≤ (runC p ⟨rk, rv⟩).2 ∧ (runC p ⟨rk, rv⟩).2 ≤ 5 := fun _ => by
    rcases runC_ends p ⟨rk, rv⟩ with ⟨h, _⟩ | ⟨_, e, h1, h2, h3⟩
    · rw [h]; exact ⟨by decide, by decide⟩
    · rw [h3]; exact ⟨by show 0 ≤ e; omega, h2⟩
  unfold RunR
  generalize runC p ⟨rk, rv⟩ = res at *
  generalize rightC p = ok at *
  obtain ⟨rp, re⟩ := res
  simp only at hrun herr hrange
  have HB0 := Lib.hid hbox; have HNo := Lib.hid hno; have HErr := Lib.hid herr; have HRun := Lib.hid hrun; have HRange := Lib.hid hrange
  have HRb : Hid (rowOf (w.alloc (.cells #[.int .i64 rk, .int .i64 rv] 27)) w.heap.size = some #[.int .i64 rk, .int .i64 rv]) := rowOf_alloc_at _ _ _ rfl
  clear hr hbox hno hyes hall hpn hpn2 h0 h64 hrun herr hrange
  generalize p.length = n at *
  go_enter Tryz.func220, Tryz.ntmps220
  go_wp2_with fail
  refine (HRT.out _ HB0.out).mono ?_
  rintro e w1 ⟨rfl, hb1⟩
  have HB1 := Lib.hid (HB0.out.trans (hb1.mono HB0.out.size))
  have HRb1 := Lib.hid (rowOf_below HRb.out hb1 (by first | (simp; done) | (simp; omega)))
  have hz1 : w.heap.size < w1.heap.size := rowOf_lt HRb1.out
  clear hb1 HRT HRb HB0
  cases ok
  · have hres := HNo.out rfl
    obtain ⟨q1, q2⟩ := Prod.mk.inj hres
    subst q1
    subst q2
    clear HNo HErr HRun HRange hres
    go_wp2
    go_returns
    exact ⟨_, rfl, RowKind.Own.nil RR _ _, HB1.out⟩
  have HErr2 := Lib.hid (HErr.out rfl); have HRun2 := Lib.hid (HRun.out rfl w1 HB1.out HB1.out.size)
  obtain ⟨hr0, hr5⟩ := HRange.out rfl
  clear HNo HErr HRun HRange
  have r0 : w1.cell? ⟨w.heap.size, 0, none⟩ = some (.int .i64 rk) := rowOf_cell HRb1.out 0
  have r1 : w1.cell? ⟨w.heap.size, 1, none⟩ = some (.int .i64 rv) := rowOf_cell HRb1.out 1
  go_wp2_with fail
  refine (HRun2.out).mono ?_
  rintro e w2 ⟨rfl, hb2, hM2⟩
  have HB2 := Lib.hid ((HB1.out.alloc HB1.out.size (.cells #[.int .i64 rk, .int .i64 rv, .int .i64 0, .slice none 0 0, .slice none 0 0] 272)).trans (hb2.mono (Nat.le_of_lt hz1)))
  have HRb2 := Lib.hid (rowOf_below (row_old (o := .cells #[.int .i64 rk, .int .i64 rv, .int .i64 0, .slice none 0 0, .slice none 0 0] 272) HRb1.out) hb2 hz1)
  have HM2 := Lib.hid hM2
  clear hb2 hM2 HRun2 HRb1 r0 r1
  by_cases he : re = 0
  · subst he
    obtain ⟨pc, sv', ov', S, hM⟩ := HM2.out rfl
    have HM := Lib.hid hM
    have c4 : w2.cell? ⟨w1.heap.size, 4, none⟩ = some ov' := rowOf_cell hM.row 4
    have HOw := Lib.hid (hM.out.mono (Nat.le_of_lt hz1))
    clear hM HM2 HErr2
    go_wp2
    go_returns
    exact ⟨_, rfl, HOw.out, HB2.out⟩
  · have heb : (re == 0) = false := by simpa using he
    have hen : (re != 0) = true := by simpa using he
    have hq := HErr2.out he
    obtain ⟨q1, _⟩ := Prod.mk.inj hq
    subst q1
    have k0 : w2.cell? ⟨w.heap.size, 0, none⟩ = some (.int .i64 rk) := rowOf_cell HRb2.out 0
    have HOw : Hid (RR.Own w.heap.size (w2.alloc (.cells #[.int .i64 rk, .int .i64 (-9223372036854775808 + re)] 27)) (.slice (some ⟨w2.heap.size, 0, none⟩) 1 1) [⟨rk, -9223372036854775808 + re⟩]) := World.ownsRow_lit w2 _ 1 HB2.out.size (by unfold maxLen; omega) rfl
    clear HErr2 HM2 hq he
    go_wp2
    all_goals go_returns
    all_goals exact ⟨_, rfl, HOw.out, HB2.out.alloc HB2.out.size _⟩
set_option maxRecDepth 100000 in
set_option maxHeartbeats 4000000 in
theorem pRun_nil (q : Option Addr) (cap : Nat) (rk rv : Int) (w : World) : Calls Tryz.prog 220 #[.slice q 0 cap, .agg #[.int .i64 rk, .int .i64 rv]] w (RunR [] ⟨rk, rv⟩ w) := by
  have hres : runC [] ⟨rk, rv⟩ = ([], 0) := rfl
  unfold RunR
  rw [hres]
  have hbox := Below.alloc (Below.refl w.heap.size w) (Nat.le_refl _) (.cells #[.int .i64 rk, .int .i64 rv] 27)
  have HRT : Hid (∀ W, Calls Tryz.prog 239 #[.slice q 0 cap] W (Ret (.bool true) W)) := fun W => pright_nil q cap W
  have HB0 := Lib.hid hbox
  have HRb : Hid (rowOf (w.alloc (.cells #[.int .i64 rk, .int .i64 rv] 27)) w.heap.size = some #[.int .i64 rk, .int .i64 rv]) := rowOf_alloc_at _ _ _ rfl
  clear hbox hres
  go_enter Tryz.func220, Tryz.ntmps220
  go_wp2_with fail
  refine (HRT.out _).mono ?_
  rintro e w1 ⟨rfl, hb1⟩
  have HB1 := Lib.hid (HB0.out.trans (hb1.mono HB0.out.size))
  have HRb1 := Lib.hid (rowOf_below HRb.out hb1 (by first | (simp; done) | (simp; omega)))
  have hz1 : w.heap.size < w1.heap.size := rowOf_lt HRb1.out
  clear hb1 HRT HRb HB0
  have r0 : w1.cell? ⟨w.heap.size, 0, none⟩ = some (.int .i64 rk) := rowOf_cell HRb1.out 0
  have r1 : w1.cell? ⟨w.heap.size, 1, none⟩ = some (.int .i64 rv) := rowOf_cell HRb1.out 1
  have HRun := Lib.hid (prun_nil (machInit (rk := rk) (rv := rv) w1) q cap)
  go_wp2_with fail
  refine (HRun.out).mono ?_
  rintro e w2 ⟨rfl, hb2, pc, sv', ov', S, hM⟩
  have HB2 := Lib.hid ((HB1.out.alloc HB1.out.size (.cells #[.int .i64 rk, .int .i64 rv, .int .i64 0, .slice none 0 0, .slice none 0 0] 272)).trans (hb2.mono (Nat.le_of_lt hz1)))
  have c4 : w2.cell? ⟨w1.heap.size, 4, none⟩ = some ov' := rowOf_cell hM.row 4
  have HOw := Lib.hid (hM.out.mono (Nat.le_of_lt hz1))
  clear hM hb2 HRun HRb1 r0 r1
  go_wp2
  go_returns
  exact ⟨_, rfl, HOw.out, HB2.out⟩
theorem pRun_any (p : List NV) (v : Value) (rk rv : Int) (w : World) (hl : p.length ≤ 900000) (h : RC.Is w v p) (hpn : ∀ x ∈ p, inR x.n) (hrk : inR rk) (hrv : inR rv) :
    Calls Tryz.prog 220 #[v, .agg #[.int .i64 rk, .int .i64 rv]] w (RunR p ⟨rk, rv⟩ w) := by
  rcases h with ⟨rfl, q, cap, rfl, _⟩ | ⟨h0, b, off, cap, rfl, hb, hr⟩
  · exact pRun_nil q cap rk rv w
  · exact pRun_row p rk rv b off cap w hl h0 hb hr hpn hrk hrv
theorem progC : ProgC :=
  ⟨fun p v rk rv w hl h hpn hrk hrv => pRun_any p v rk rv w (by omega) h hpn hrk hrv, fun p v w hl h => pright_any p v w (by omega) h⟩
end Go.Proofs.YthhceggcdaljdaaGreat
/- the program's over, sum, ofOne, there -/
namespace Go.Proofs.YthhceggcdaljdaaGreat
open Go.RowKit
set_option linter.unusedVariables false
set_option linter.unusedSimpArgs false

set_option maxRecDepth 100000 in
set_option maxHeartbeats 4000000 in
theorem over_any (k : Int) (w : World) : Calls Tryz.prog 248 #[.int .i64 k] w (Ret (.agg #[.int .i64 k, .int .i64 (-9223372036854775806)]) w) := by
  go_enter Tryz.func248, Tryz.ntmps248
  go_wp2
  go_returns
  exact ⟨rfl, by go_grown⟩
theorem wrap_out {a b : Int} (ha : inR a) (hb : inR b) (h : ¬ inR (a + b)) : (b < 0 → a ≤ wrap64 (a + b)) ∧ (0 ≤ b → wrap64 (a + b) < a) := by
  unfold inR at *
  unfold wrap64
  omega
theorem wrap_not {a b : Int} (ha : inR a) (hb : inR b) (h : inR (a + b)) : (b < 0 → wrap64 (a + b) < a) ∧ (0 ≤ b → a ≤ wrap64 (a + b)) := by
  rw [wrap_in h]
  omega
set_option maxRecDepth 100000 in
set_option maxHeartbeats 4000000 in
theorem sum_any (k a b : Int) (w : World) (ha : inR a) (hb : inR b) : Calls Tryz.prog 221 #[.int .i64 k, .int .i64 a, .int .i64 b] w (Ret ((sumO k a b).val) w) := by
  have HO := Lib.hid (fun W => over_any k W)
  by_cases h : inR (a + b)
  · have hv : sumO k a b = ⟨k, a + b⟩ := by unfold sumO; rw [if_pos h]
    have q := wrap_not ha hb h
    rw [wrap_in h] at q
    rw [hv]
    have hw' : wrap64 (a + b) = a + b := wrap_in h
    clear HO
    by_cases hb0 : b < 0
    · have h1 : decide (a + b < a) = true := decide_eq_true (q.1 hb0)
      have h2 : decide (b < 0) = true := decide_eq_true hb0
      clear ha hb hv h hb0 q
      go_enter Tryz.func221, Tryz.ntmps221
      go_wp2
      go_returns
      exact ⟨rfl, by go_grown⟩
    · have h1 : decide (a + b < a) = false := decide_eq_false (by have := q.2 (by omega); omega)
      have h2 : decide (b < 0) = false := decide_eq_false hb0
      clear ha hb hv h hb0 q
      go_enter Tryz.func221, Tryz.ntmps221
      go_wp2
      go_returns
      exact ⟨rfl, by go_grown⟩
  · have hv : sumO k a b = ⟨k, -9223372036854775806⟩ := by unfold sumO; rw [if_neg h]; rfl
    rw [hv]
    have q := wrap_out ha hb h
    generalize hx' : wrap64 (a + b) = x at q
    have rest : ∀ (h1 : decide (x < a) = !decide (b < 0)), Calls Tryz.prog 221 #[.int .i64 k, .int .i64 a, .int .i64 b] w (Ret (.agg #[.int .i64 k, .int .i64 (-9223372036854775806)]) w) := fun h1 => by
      clear q h hv ha hb
      have hbx := Boxed.new w #[.int .i64 0, .int .i64 0] 27
      generalize hd : decide (b < 0) = d at h1
      cases d
      all_goals
        simp only [Bool.not_true, Bool.not_false] at h1
        go_enter Tryz.func221, Tryz.ntmps221
        go_wp2_with fail
        refine (HO.out _).mono ?_
        rintro e w1 ⟨rfl, hb1⟩
        have HB := Lib.hid (bcall (B := w.heap.size) (a := w) (by go_grown) hb1 (by go_size))
        have hb2 := hbx.below hb1 (by simp)
        have c0 : w1.cell? ⟨w.heap.size, 0, none⟩ = some (.int .i64 0) := hb2.cell 0
        have c1 : w1.cell? ⟨w.heap.size, 1, none⟩ = some (.int .i64 0) := hb2.cell 1
        have f0 := hb2.frozen 0
        have f1 := hb2.frozen 1
        have L0 : w.heap.size < w1.heap.size := hb2.lt
        have s0 : ∀ v, (w1.setCell ⟨w.heap.size, 0, none⟩ v).cell? ⟨w.heap.size, 0, none⟩ = some v := fun v => World.cell?_setCell_same' _ _ _ (by rw [c0]; rfl)
        clear hb2 hb1 hbx HO
        go_wp2
        refine bodyPost_ret (v := .agg #[.int .i64 k, .int .i64 (-9223372036854775806)]) (by simp [results, go_sem, s0, c1]) rfl ⟨rfl, (HB.out.setCell (by simp) _).setCell (by simp) _⟩
    exact rest (by
      by_cases hb0 : b < 0
      · rw [decide_eq_true hb0, decide_eq_false (by have := q.1 hb0; omega)]; rfl
      · rw [decide_eq_false hb0, decide_eq_true (q.2 (by omega))]; rfl)
end Go.Proofs.YthhceggcdaljdaaGreat
/- the program's ofOne -/
namespace Go.Proofs.YthhceggcdaljdaaGreat
open Go.RowKit
set_option linter.unusedVariables false
set_option linter.unusedSimpArgs false

theorem one_lit (w : World) (k v : Int) (B : Nat) (hB : B ≤ w.heap.size) : RR.Own B (w.alloc (.cells #[.int .i64 k, .int .i64 v] 27)) (.slice (some ⟨w.heap.size, 0, none⟩) 1 1) [⟨k, v⟩] :=
  ⟨rfl, .inr ⟨w.heap.size, 1, #[.int .i64 k, .int .i64 v], rfl, hB, heap_alloc_new w _, Nat.le_refl 1, by decide, rfl, rfl⟩⟩
set_option maxRecDepth 100000 in
set_option maxHeartbeats 8000000 in
theorem pone_any (k s arg : Int) (q : Option Addr) (c : Nat) (p : List NV) (r : RV) (w : World) (hl : k = 2 → p.length ≤ 900000) (h : RC.Is w (.slice q p.length c) p) (hpn : ∀ x ∈ p, inR x.n) (hk : inR r.k) (hv : inR r.v) (ha : inR arg) :
    Calls Tryz.prog 182 #[.agg #[.int .i64 k, .int .i64 s, .int .i64 arg, .slice q p.length c], r.val] w (RR.Made (oneO k arg p r) w) := by
  have HR : Hid (k = 2 → ∀ W, Below w.heap.size w W → Calls Tryz.prog 220 #[.slice q p.length c, r.val] W (RunR p r W)) := fun hk2 W hW => pRun_any p _ r.k r.v W (hl hk2) (h.below hW) hpn hk hv
  have HS : Hid (∀ W, Calls Tryz.prog 221 #[.int .i64 r.k, .int .i64 r.v, .int .i64 arg] W (Ret ((sumO r.k r.v arg).val) W)) := fun W => sum_any _ _ _ W hv ha
  clear h hpn hk hv ha
  have HB0 := Lib.hid ((Below.refl w.heap.size w).alloc (Nat.le_refl _) (.cells #[.int .i64 k, .int .i64 s, .int .i64 arg, .slice q p.length c] 47))
  generalize hm : p.length = m at *
  clear hm hl
  have HN : Hid (∀ W, Below w.heap.size w W → RR.Made [] w (.returned (.slice none 0 0)) W) := fun W hW => ⟨_, rfl, RowKind.Own.nil RR _ _, hW⟩
  have HL : Hid (∀ W x y, Below w.heap.size w W → RR.Made [⟨x, y⟩] w (.returned (.slice (some ⟨W.heap.size, 0, none⟩) 1 1)) (W.alloc (.cells #[.int .i64 x, .int .i64 y] 27))) := fun W x y hW => ⟨_, rfl, one_lit W x y _ hW.size, hW.alloc hW.size _⟩
  have HL' : Hid (∀ W x y n, W.heap.size = n → Below w.heap.size w W → RR.Made [⟨x, y⟩] w (.returned (.slice (some ⟨n, 0, none⟩) 1 1)) (W.alloc (.cells #[.int .i64 x, .int .i64 y] 27))) := fun W x y n hn hW => by subst hn; exact HL.out W x y hW
  have HB1 : Hid (Below w.heap.size w ((w.alloc (.cells #[.int .i64 k, .int .i64 s, .int .i64 arg, .slice q m c] 47)).alloc (.cells #[.int .i64 r.k, .int .i64 r.v] 27))) := HB0.out.alloc HB0.out.size _
  obtain ⟨rk, rv⟩ := r
  by_cases h2 : k = 2
  · subst h2
    rw [show oneO 2 arg p ⟨rk, rv⟩ = (runC p ⟨rk, rv⟩).1 from if_pos rfl]
    go_enter Tryz.func182, Tryz.ntmps182
    go_wp2_with fail
    refine (HR.out (by first | trivial | rfl) _ HB1.out).mono ?_
    rintro e w1 ⟨v1, rfl, ho1, hb1⟩
    have HO := Lib.hid (ho1.mono HB1.out.size)
    have HB := Lib.hid (bstep HB1.out hb1 HB1.out.size)
    clear ho1 hb1 HR HS
    go_wp2
    go_returns
    exact ⟨v1, rfl, HO.out, HB.out⟩
  have k2 : (k == 2) = false := by simpa using h2
  by_cases h3 : k = 3
  · subst h3
    rw [show oneO 3 arg p ⟨rk, rv⟩ = [sumO rk rv arg] from rfl]
    generalize hsu : sumO rk rv arg = su at *
    obtain ⟨sk, sv⟩ := su
    clear hsu
    go_enter Tryz.func182, Tryz.ntmps182
    go_wp2_with fail
    refine (HS.out _).mono ?_
    rintro e w1 ⟨rfl, hb1⟩
    have HB := Lib.hid (bstep HB1.out hb1 HB1.out.size)
    clear hb1 HR HS
    go_wp2
    go_returns
    exact HL.out _ _ _ HB.out
  have k3 : (k == 3) = false := by simpa using h3
  by_cases h4 : k = 4
  · subst h4
    by_cases ha : arg < 1
    · rw [show oneO 4 arg p ⟨rk, rv⟩ = [] by unfold oneO; simp [ha]]
      clear HR HS
      go_enter Tryz.func182, Tryz.ntmps182
      go_wp2
      go_returns
      exact HN.out _ HB1.out
    · have hne : ¬ arg = 0 := by omega
      have hnb : (arg == 0) = false := by simpa using hne
      by_cases hd : rv.tmod arg = 0
      · rw [show oneO 4 arg p ⟨rk, rv⟩ = [⟨rk, rv⟩] by unfold oneO; simp [ha, hd]]
        clear HR HS
        go_enter Tryz.func182, Tryz.ntmps182
        go_wp2
        go_returns
        refine HL'.out _ rk rv _ ?_ HB1.out; rw [World.size_alloc, World.size_alloc]
      · rw [show oneO 4 arg p ⟨rk, rv⟩ = [] by unfold oneO; simp [hd]]
        have hdb : (rv.tmod arg != 0) = true := by simpa using hd
        clear HR HS
        go_enter Tryz.func182, Tryz.ntmps182
        go_wp2
        go_returns
        exact HN.out _ HB1.out
  · have k4 : (k == 4) = false := by simpa using h4
    rw [show oneO k arg p ⟨rk, rv⟩ = [⟨rk, rv⟩] by unfold oneO; rw [if_neg h2, if_neg h3, if_neg h4]]
    clear HR HS h2 h3 h4
    go_enter Tryz.func182, Tryz.ntmps182
    go_wp2
    go_returns
    refine HL'.out _ rk rv _ ?_ HB1.out; rw [World.size_alloc, World.size_alloc]
end Go.Proofs.YthhceggcdaljdaaGreat
/- the program's many, there -/
namespace Go.Proofs.YthhceggcdaljdaaGreat
open Go.RowKit
set_option linter.unusedVariables false
set_option linter.unusedSimpArgs false

theorem many_bd {xs : List IV} (h : ∀ c ∈ xs, 0 ≤ c.n ∧ c.n ≤ 2147483648) : 0 ≤ manyO xs ∧ manyO xs ≤ xs.length * 2147483648 := by
  induction xs with
  | nil => simp [manyO]
  | cons c xs ih =>
    have h1 := h c (by simp)
    have h2 := ih fun d hd => h d (by simp [hd])
    rw [manyO_cons, List.length_cons]
    omega
theorem many_next {xs : List IV} {k : Nat} (hk : k < xs.length) : manyO (xs.take (k + 1)) = manyO (xs.take k) + xs[k]!.n := by
  rw [take_getA xs k hk, manyO_append]
  simp [manyO]
theorem getA_mem {α : Type} [Inhabited α] {xs : List α} {k : Nat} (hk : k < xs.length) : xs[k]! ∈ xs := by
  rw [getElem!_pos xs k hk]
  exact List.getElem_mem hk
set_option maxRecDepth 100000 in
set_option maxHeartbeats 4000000 in
theorem many_row (xs : List IV) (b off cap : Nat) (w : World) (hl : xs.length ≤ 900000) (hb : b < w.heap.size) (hr : RI.Row w b off xs) (hq : ∀ c ∈ xs, 0 ≤ c.n ∧ c.n ≤ 2147483648) :
    Calls Tryz.prog 250 #[.slice (some ⟨b, off, none⟩) xs.length cap] w (Ret (.int .i64 (manyO xs)) w) := by
  have hrow : Hid (∀ (W : World), Below w.heap.size w W → ∀ j, j < xs.length → _) := fun W hW j hj => atI (hr.below hW hb) j hj
  have hstep : Hid (∀ k, k < xs.length → wrap64 (manyO (xs.take k) + xs[k]!.n) = manyO (xs.take (k + 1))) := fun k hk => by
    have h1 := many_bd (xs := xs.take k) fun c hc => hq c (List.mem_of_mem_take hc)
    have h2 := hq _ (getA_mem hk)
    rw [List.length_take, Nat.min_eq_left (by omega)] at h1
    rw [many_next hk]
    refine wrap_in ?_
    unfold inR
    omega
  have hfin : Hid (manyO (xs.take xs.length) = manyO xs) := by rw [List.take_length]; exact rfl
  have h0 : Hid (manyO (xs.take 0) = 0) := rfl
  generalize hres : manyO xs = res at hfin ⊢
  generalize hn : xs.length = n at hl hrow hstep hfin
  clear hr hq hres hn
  go_enter Tryz.func250, Tryz.ntmps250
  go_wp2
  go_loopg [3, 8] n (fun gg v i wr => ∃ k : Nat, k ≤ n ∧ n - k ≤ gg ∧ i = .int .i64 k ∧ v = .int .i64 (manyO (xs.take k)) ∧ Hid (Below w.heap.size w wr))
  case atStart => exact ⟨0, Nat.zero_le _, by omega, rfl, by rw [h0.out], Below.refl _ _⟩
  case round =>
    obtain ⟨k, hkn, hg, rfl, rfl, HB⟩ := hrel
    by_cases hlt : k < n
    · have hlz : (k : Int) < (n : Int) := by omega
      have hc := hrow.out wr HB.out k hlt
      have hs := hstep.out k hlt
      generalize manyO (xs.take k) = a at hs
      generalize hy : manyO (xs.take (k + 1)) = y at hs
      generalize xs[k]! = c at hc hs
      obtain ⟨t, m⟩ := c
      obtain ⟨e0, e1, e2⟩ := hc
      simp only at e0 e1 e2 hs
      have HBn := Lib.hid ((HB.out).alloc HB.out.size (.cells #[.int .i64 t.k, .int .i64 t.v, .int .i64 m] 57))
      have HY := Lib.hid hy
      clear hrow hstep hfin h0 hy
      go_wp2
      go_roundg (n - (k + 1))
      case measure => omega
      case rel => exact ⟨k + 1, by omega, by omega, by go_num, by rw [HY.out, hs], HBn.out⟩
    · have hlz : ¬ (k : Int) < (n : Int) := by omega
      have : k = n := by omega
      subst this
      have hf := hfin.out
      rw [hf]
      clear hrow hstep hfin h0 hf
      go_wp2
      go_returns
      exact ⟨rfl, HB.out⟩
set_option maxRecDepth 100000 in
set_option maxHeartbeats 4000000 in
theorem many_nil (p : Option Addr) (cap : Nat) (w : World) : Calls Tryz.prog 250 #[.slice p 0 cap] w (Ret (.int .i64 (manyO [])) w) := by
  rw [show manyO [] = 0 from rfl]
  go_enter Tryz.func250, Tryz.ntmps250
  go_wp2
  refine wp_loop_rounds 1 ?_
  rw [rounds_succ]
  go_wp2
  go_returns
  exact ⟨rfl, Below.refl _ _⟩
theorem many_any (xs : List IV) (v : Value) (w : World) (hl : xs.length ≤ 900000) (h : RI.Is w v xs) (hq : ∀ c ∈ xs, 0 ≤ c.n ∧ c.n ≤ 2147483648) : Calls Tryz.prog 250 #[v] w (Ret (.int .i64 (manyO xs)) w) := by
  rcases h with ⟨rfl, p, cap, rfl, _⟩ | ⟨h0, b, off, cap, rfl, hb, hr⟩
  · exact many_nil p cap w
  · exact many_row xs b off cap w hl hb hr hq
end Go.Proofs.YthhceggcdaljdaaGreat
