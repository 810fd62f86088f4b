import Derived.Test.YtcaolilhemamiaaCh
namespace Go.Proofs.Ytcaolilhemamiaa
open Go.RowKit
set_option linter.unusedVariables false
set_option linter.unusedSimpArgs false
attribute [local go_sem ↓] eqTime neTime

/- the fixed answer of the laws on chains -/
def tA : TV := ⟨2, 1, 2, 0, 0⟩
def tB : TV := ⟨2, 1, 3, 0, 0⟩
theorem of_ba : ofT [tB, tA] = [tA] := by
  have h : [tA, tB] = sortedT [tB, tA] := sortedT_eq (List.Perm.swap _ _ _) (by decide)
  unfold ofT
  rw [← h]
  decide
theorem cov_ab : cov [tA] tB = true := by decide
theorem own_ab : ofT [tA] = [tA] := by
  have h : [tA] = sortedT [tA] := sortedT_eq (List.Perm.refl _) (by decide)
  unfold ofT
  rw [← h]
  decide
theorem RowT.new2 (w : World) (x y : TV) (t : TypeId) : RowT (w.alloc (.cells #[.int .i64 x.d, .int .i64 x.c0, .int .i64 x.c1, .int .i64 x.c2, .int .i64 x.c3, .int .i64 y.d, .int .i64 y.c0, .int .i64 y.c1, .int .i64 y.c2, .int .i64 y.c3] t)) w.heap.size 0 [x, y] := by
  intro j hj i u hu
  have hj0 : j = 0 ∨ j = 1 := by simp at hj; omega
  have hi : i < 5 := by have := (List.getElem?_eq_some_iff.1 hu).1; rw [enc_len] at this; exact this
  have hi5 : i = 0 ∨ i = 1 ∨ i = 2 ∨ i = 3 ∨ i = 4 := by omega
  rcases hj0 with rfl | rfl <;> rcases hi5 with rfl | rfl | rfl | rfl | rfl <;> (simp [TV.enc] at hu; subst hu; simp)
set_option maxRecDepth 100000 in
set_option maxHeartbeats 8000000 in
theorem chainAwake (w : World) : Calls Try.prog 15 #[] w (Ret (.bool true) w) := by
  have HO : Hid (∀ (W : World) (v : Value), IsT W v [tB, tA] → Calls Try.prog 17 #[v] W (MadeT [tA] W)) := fun W v h => by
    have q := of_any [tB, tA] v W (by decide) h
    rw [of_ba] at q
    exact q
  go_enter Try.func15, Try.ntmps15
  have HC : Hid (∀ (W : World) (v : Value), IsT W v [tA] → Calls Try.prog 22 #[v, .agg #[.int .i64 2, .int .i64 1, .int .i64 3, .int .i64 0, .int .i64 0]] W (Ret (.bool true) W)) := fun W v h => by
    have q := covers_any [tA] tB v W (by decide) h
    rw [cov_ab] at q
    exact q
  have HR : Hid (∀ (W : World) (v : Value), IsT W v [tA] → Calls Try.prog 24 #[v] W (Ret (.bool true) W)) := fun W v h => by
    have q := chainRight_any [tA] v W (by decide) h
    rw [show decide ([tA] = ofT [tA]) = true from decide_eq_true own_ab.symm] at q
    exact q
  go_wp2_with fail
  have hN : ∀ (W : World) (o : Obj), Below W.heap.size W (W.alloc o) := fun W o => (Below.refl _ W).alloc (Nat.le_refl _) o
  have hrow := RowT.new2 ((w.alloc (.cells #[.int .i64 2, .int .i64 1, .int .i64 2, .int .i64 0, .int .i64 0] 26)).alloc (.cells #[.int .i64 2, .int .i64 1, .int .i64 3, .int .i64 0, .int .i64 0] 26)) tB tA 26
  have hA := ((BoxT.new w tA 26).below (hN _ (.cells #[.int .i64 2, .int .i64 1, .int .i64 3, .int .i64 0, .int .i64 0] 26))).below (hN _ (.cells #[.int .i64 2, .int .i64 1, .int .i64 3, .int .i64 0, .int .i64 0, .int .i64 2, .int .i64 1, .int .i64 2, .int .i64 0, .int .i64 0] 26))
  have hB := (BoxT.new (w.alloc (.cells #[.int .i64 2, .int .i64 1, .int .i64 2, .int .i64 0, .int .i64 0] 26)) tB 26).below (hN _ (.cells #[.int .i64 2, .int .i64 1, .int .i64 3, .int .i64 0, .int .i64 0, .int .i64 2, .int .i64 1, .int .i64 2, .int .i64 0, .int .i64 0] 26))
  simp only [World.size_alloc] at hrow hB
  have hW := ((hN w (.cells #[.int .i64 2, .int .i64 1, .int .i64 2, .int .i64 0, .int .i64 0] 26)).trans ((hN _ (.cells #[.int .i64 2, .int .i64 1, .int .i64 3, .int .i64 0, .int .i64 0] 26)).mono (by simp))).trans ((hN _ (.cells #[.int .i64 2, .int .i64 1, .int .i64 3, .int .i64 0, .int .i64 0, .int .i64 2, .int .i64 1, .int .i64 2, .int .i64 0, .int .i64 0] 26)).mono (by simp; omega))
  refine (HO.out _ _ (.inr ⟨by simp, w.heap.size + 1 + 1, 0, 2, rfl, by simp, hrow⟩)).mono ?_
  rintro e w1 ⟨u, rfl, hO, hB1⟩
  have HA : BoxT w1 w.heap.size ⟨2, 1, 2, 0, 0⟩ := hA.below hB1
  have HB : BoxT w1 (w.heap.size + 1) ⟨2, 1, 3, 0, 0⟩ := hB.below hB1
  have HW := Lib.hid (hW.trans (hB1.mono hW.size))
  have his := hO.is
  clear hN hrow hA hB hW hO hB1 HO
  rcases his with ⟨h, _⟩ | ⟨_, g, off, cap, rfl, hg, hr⟩
  · cases h
  have HI := Lib.hid (fun (p : Beh w1) => show IsT p.w (.slice (some ⟨g, off, none⟩) 1 cap) [tA] from .inr ⟨by simp, g, off, cap, rfl, Nat.lt_of_lt_of_le hg p.h.size, hr.below p.h hg⟩)
  have hr0 := hr.at 0 (by decide)
  have r0 := fun p => beh_cell hr0.1 p; have r1 := fun p => beh_cell hr0.2.1 p; have r2 := fun p => beh_cell hr0.2.2.1 p; have r3 := fun p => beh_cell hr0.2.2.2.1 p; have r4 := fun p => beh_cell hr0.2.2.2.2 p
  obtain ⟨⟨p0, p1, p2, p3, p4, q0, q1, q2, q3, q4⟩, hl⟩ := HA
  obtain ⟨⟨a0, a1, a2, a3, a4, b0, b1, b2, b3, b4⟩, hl2⟩ := HB
  clear hr hr0 q0 q1 q2 q3 q4 b0 b1 b2 b3 b4
  replace p0 := fun p => beh_cell p0 p
  replace p1 := fun p => beh_cell p1 p
  replace p2 := fun p => beh_cell p2 p
  replace p3 := fun p => beh_cell p3 p
  replace p4 := fun p => beh_cell p4 p
  replace a0 := fun p => beh_cell a0 p
  replace a1 := fun p => beh_cell a1 p
  replace a2 := fun p => beh_cell a2 p
  replace a3 := fun p => beh_cell a3 p
  replace a4 := fun p => beh_cell a4 p
  simp only [Nat.zero_mul, Nat.add_zero] at r0 r1 r2 r3 r4
  replace r0 : ∀ (p : Beh w1), p.w.cell? ⟨g, off, none⟩ = some (.int .i64 2) := r0
  replace r1 : ∀ (p : Beh w1), p.w.cell? ⟨g, off + 1, none⟩ = some (.int .i64 1) := r1
  replace r2 : ∀ (p : Beh w1), p.w.cell? ⟨g, off + 2, none⟩ = some (.int .i64 2) := r2
  replace r3 : ∀ (p : Beh w1), p.w.cell? ⟨g, off + 3, none⟩ = some (.int .i64 0) := r3
  replace r4 : ∀ (p : Beh w1), p.w.cell? ⟨g, off + 4, none⟩ = some (.int .i64 0) := r4
  have hq : eqT ⟨2, 1, 2, 0, 0⟩ ⟨2, 1, 2, 0, 0⟩ = true := by decide
  have HC2 := Lib.hid (fun (p : Beh w1) => HC.out _ _ (HI.out p))
  have HR2 := Lib.hid (fun (p : Beh w1) => HR.out _ _ (HI.out p))
  clear HC HR HI
  go_wp2_with fail
  refine wp_region_beh (by kernel_rfl) (by kernel_rfl) ?_
  repeat (first | go_big_quiet_step (first | (with_reducible exact Calls.beh (HC2.out _)) | (with_reducible exact Calls.beh (HR2.out _))) | quiet_step (first | (with_reducible exact Calls.beh (HC2.out _)) | (with_reducible exact Calls.beh (HR2.out _))))
  refine wpQuiet_nil ?_
  intro _ hw'
  obtain ⟨b, hw''⟩ := hw'
  subst hw''
  have HX := Lib.hid (HW.out.trans (b.h.mono HW.out.size))
  clear r0 r1 r2 r3 r4 p0 p1 p2 p3 p4 a0 a1 a2 a3 a4
  go_wp2
  go_returns
  exact ⟨rfl, HX.out⟩
end Go.Proofs.Ytcaolilhemamiaa
