/- the fixed answer of the laws on bags -/
import Derived.Test.YtmmojohjipmoaaaBh
import Derived.Test.YtmmojohjipmoaaaBl
namespace Go.Proofs.Ytmmojohjipmoaaa
open Go.RowKit
set_option linter.unusedVariables false
set_option linter.unusedSimpArgs false
attribute [local go_sem ↓] eqRec neRec eqItem neItem

theorem RowKind.Row.lit {α : Type} [Inhabited α] {R : RowKind α} (w : World) (xs : List α) (t : TypeId) : R.Row (w.alloc (.cells (R.cells xs).toArray t)) w.heap.size 0 xs := by
  intro j hj i u hu
  have hi : i < R.k := by have := (List.getElem?_eq_some_iff.1 hu).1; rw [R.len] at this; exact this
  unfold World.cell?
  rw [heap_alloc_new]
  simp only [Nat.zero_add]
  rw [List.getElem?_toArray, R.cells_get xs j hj i hi]
  exact hu
def rA : RV := ⟨1, 2⟩
def rB : RV := ⟨1, 1⟩
theorem of_aw : ofI [rA, rB, rA] = [⟨rB, 1⟩, ⟨rA, 2⟩] := by
  have O := ofI_is (xs := [rA, rB, rA]) (by decide)
  refine good_ext O.1 ((rightI_iff _).1 (by decide)) fun u => ?_
  rw [O.2.1]
  simp only [atS_cons, atS_nil, cntR_cons, cntR_nil]
  repeat' split
  all_goals omega
theorem there_aw : thereI [⟨rB, 1⟩, ⟨rA, 2⟩] = [⟨rB, 1⟩, ⟨rA, 2⟩] := by decide
theorem ok_aw : okL [⟨rB, 1⟩, ⟨rA, 2⟩] = true := by unfold okL; rw [there_aw]; decide
theorem list_aw : listL [⟨rB, 1⟩, ⟨rA, 2⟩] = [rB, rA, rA] := by unfold listL; rw [ok_aw, there_aw]; rfl
set_option maxRecDepth 100000 in
set_option maxHeartbeats 8000000 in
theorem bagAwake (w : World) : Calls Try.prog 7 #[] w (Ret (.bool true) w) := by
  have HO : Hid (∀ (W : World) (v : Value), RR.Is W v [rA, rB, rA] → Calls Try.prog 21 #[v] W (RI.Made [⟨rB, 1⟩, ⟨rA, 2⟩] W)) := fun W v h => by
    have q := bof_any [rA, rB, rA] v W (by decide) h
    rw [of_aw] at q
    exact q
  have HL : Hid (∀ (W : World) (v : Value), RI.Is W v [⟨rB, 1⟩, ⟨rA, 2⟩] → Calls Try.prog 23 #[v] W (fun e w' => ∃ u, e = .returned (.tuple #[u, .bool true]) ∧ RR.Own W.heap.size w' u [rB, rA, rA] ∧ Below W.heap.size W w')) := fun W v h => by
    have q := blist_any [⟨rB, 1⟩, ⟨rA, 2⟩] v W (by decide) h
    unfold MadeL at q
    rw [ok_aw, list_aw] at q
    exact q
  have HR := Lib.hid (fun W => bless_any rB rA W)
  rw [show rB.lt rA = true from by decide] at HR
  have HR : Hid (∀ W, Calls Try.prog 8 #[.agg #[.int .i64 1, .int .i64 1], .agg #[.int .i64 1, .int .i64 2]] W (Ret (.bool true) W)) := HR
  have hrow := Lib.hid (RowKind.Row.lit (R := RR) w [rA, rB, rA] 24)
  have hrow : Hid (RR.Row (w.alloc (.cells #[.int .i64 1, .int .i64 2, .int .i64 1, .int .i64 1, .int .i64 1, .int .i64 2] 24)) w.heap.size 0 [rA, rB, rA]) := hrow
  have HB0 := Lib.hid ((Below.refl w.heap.size w).alloc (Nat.le_refl _) (.cells #[.int .i64 1, .int .i64 2, .int .i64 1, .int .i64 1, .int .i64 1, .int .i64 2] 24))
  have hq : eqI ⟨⟨1, 2⟩, 2⟩ ⟨⟨1, 2⟩, 2⟩ = true := by decide
  go_enter Try.func7, Try.ntmps7
  go_wp2_with fail
  refine (HO.out _ _ (.inr ⟨by simp, w.heap.size, 0, 3, rfl, by simp, hrow.out⟩)).mono ?_
  rintro e w1 ⟨u, rfl, hO, hB1⟩
  have HW := Lib.hid (HB0.out.trans (hB1.mono HB0.out.size))
  have HI := Lib.hid hO.is
  clear hB1 hrow HO hO HB0
  rcases HI.out with ⟨h, _⟩ | ⟨_, g, off, cap, rfl, hg, hr⟩
  · cases h
  go_wp2_with fail
  refine (HL.out _ _ HI.out).mono ?_
  rintro e w2 ⟨u2, rfl, hO2, hB2⟩
  have hr0 := atI (hr.below hB2 hg) 1 (by decide)
  have hg2 := Nat.lt_of_lt_of_le hg hB2.size
  have HW2 := Lib.hid (HW.out.trans (hB2.mono HW.out.size))
  rcases hO2.is with ⟨h, _⟩ | ⟨_, g2, off2, cap2, rfl, hgl2, hr2⟩
  · cases h
  have hs0 := atR hr2 0 (by decide)
  have hs1 := atR hr2 1 (by decide)
  simp only [Nat.zero_mul, Nat.add_zero, Nat.one_mul] at hr0 hs0 hs1
  have r0 : ∀ p : Beh w2, p.w.cell? ⟨g, off + 3, none⟩ = some (.int .i64 1) := fun p => beh_cell hr0.1 p
  have r1 : ∀ p : Beh w2, p.w.cell? ⟨g, off + 3 + 1, none⟩ = some (.int .i64 2) := fun p => beh_cell hr0.2.1 p
  have r2 : ∀ p : Beh w2, p.w.cell? ⟨g, off + 3 + 2, none⟩ = some (.int .i64 2) := fun p => beh_cell hr0.2.2 p
  have s0 : ∀ p : Beh w2, p.w.cell? ⟨g2, off2, none⟩ = some (.int .i64 1) := fun p => beh_cell hs0.1 p
  have s1 : ∀ p : Beh w2, p.w.cell? ⟨g2, off2 + 1, none⟩ = some (.int .i64 1) := fun p => beh_cell hs0.2 p
  have s2 : ∀ p : Beh w2, p.w.cell? ⟨g2, off2 + 2, none⟩ = some (.int .i64 1) := fun p => beh_cell hs1.1 p
  have s3 : ∀ p : Beh w2, p.w.cell? ⟨g2, off2 + 2 + 1, none⟩ = some (.int .i64 2) := fun p => beh_cell hs1.2 p
  clear hr hr0 hr2 hs0 hs1 hB2 hO2 HL HI HW
  go_wp2_with fail
  refine wp_region_beh (by kernel_rfl) (by kernel_rfl) ?_
  repeat (first | go_big_quiet_step (first | (with_reducible exact Calls.beh (HR.out _))) | quiet_step (first | (with_reducible exact Calls.beh (HR.out _))))
  refine wpQuiet_nil ?_
  intro _ hw'
  obtain ⟨b, hw''⟩ := hw'
  subst hw''
  have HX := Lib.hid (HW2.out.trans (b.h.mono HW2.out.size))
  clear r0 r1 r2 s0 s1 s2 s3
  go_wp2
  go_returns
  exact ⟨rfl, HX.out⟩
end Go.Proofs.Ytmmojohjipmoaaa
