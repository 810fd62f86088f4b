import Derived.Test.YtcaolilhemamiaaFd
import Derived.Test.YtcaolilhemamiaaCe
import Derived.Deep.RegionHeldLaw
namespace Go.Proofs.Ytcaolilhemamiaa
open Go.RowKit
set_option linter.unusedVariables false
set_option linter.unusedSimpArgs false
attribute [local go_sem ↓] eqTime neTime

/- the fixed answer of the laws on counts -/
def fA : TV := ⟨2, 1, 2, 0, 0⟩
def fB : TV := ⟨2, 1, 3, 0, 0⟩
theorem add_1 : addC [] fB 1 = [⟨fB, 1⟩] := by unfold addC allC; rw [if_pos (by decide), nil_merged]
theorem add_2 : addC [⟨fB, 1⟩] fA 2 = [⟨fA, 2⟩, ⟨fB, 1⟩] := by unfold addC allC; rw [if_pos (by decide), merged_gt _ _ (by decide) (by decide), merged_nil]
theorem add_3 : addC [⟨fA, 2⟩, ⟨fB, 1⟩] fA (-2) = [⟨fB, 1⟩] := by unfold addC allC; rw [if_pos (by decide), merged_no _ _ (by decide) (by decide) (by decide), merged_nil]
theorem front_2 : frontC [⟨fA, 2⟩, ⟨fB, 1⟩] = [fA] := by
  have h : [fA, fB] = sortedT [fA, fB] := sortedT_eq (List.Perm.refl _) (by decide)
  have h2 : thereC [⟨fA, 2⟩, ⟨fB, 1⟩] = [fA, fB] := rfl
  unfold frontC
  rw [if_pos (by decide), h2]
  unfold ofT
  rw [← h]
  decide
theorem front_1 : frontC [⟨fB, 1⟩] = [fB] := by
  have h : [fB] = sortedT [fB] := sortedT_eq (List.Perm.refl _) (by decide)
  have h2 : thereC [⟨fB, 1⟩] = [fB] := rfl
  unfold frontC
  rw [if_pos (by decide), h2]
  unfold ofT
  rw [← h]
  decide
theorem at_2 : atR [⟨fA, 2⟩, ⟨fB, 1⟩] fA = 2 := by decide
theorem row1 {w : World} {b off : Nat} {x : TV} (h : RowT w b off [x]) : w.cell? ⟨b, off, none⟩ = some (.int .i64 x.d) ∧ w.cell? ⟨b, off + 1, none⟩ = some (.int .i64 x.c0) ∧ w.cell? ⟨b, off + 2, none⟩ = some (.int .i64 x.c1) ∧ w.cell? ⟨b, off + 3, none⟩ = some (.int .i64 x.c2) ∧ w.cell? ⟨b, off + 4, none⟩ = some (.int .i64 x.c3) := by
  have := h.at 0 (by simp)
  simpa using this
set_option maxRecDepth 100000 in
set_option maxHeartbeats 8000000 in
theorem frontAwake (w : World) : Calls Try.prog 25 #[] w (Ret (.bool true) w) := by
  go_enter Try.func25, Try.ntmps25
  have HA1 : Hid (∀ W, Calls Try.prog 29 #[.slice none 0 0, (.agg #[.int .i64 2, .int .i64 1, .int .i64 3, .int .i64 0, .int .i64 0]), .int .i64 1] W (AnsC [⟨fB, 1⟩] W)) := fun W => by
    have h := frontAdd_any [] fB 1 (.slice none 0 0) W (by decide) (fun p n c e => by cases e; exact Nat.le_refl _) (RowKind.Is.nil W)
    rw [add_1] at h
    exact h
  have HA2 : Hid (∀ W v, RC.Is W v [⟨fB, 1⟩] → capOk v → Calls Try.prog 29 #[v, (.agg #[.int .i64 2, .int .i64 1, .int .i64 2, .int .i64 0, .int .i64 0]), .int .i64 2] W (AnsC [⟨fA, 2⟩, ⟨fB, 1⟩] W)) := fun W v h1 h2 => by
    have h := frontAdd_any [⟨fB, 1⟩] fA 2 v W (by decide) h2 h1
    rw [add_2] at h
    exact h
  have HA3 : Hid (∀ W v, RC.Is W v [⟨fA, 2⟩, ⟨fB, 1⟩] → capOk v → Calls Try.prog 29 #[v, (.agg #[.int .i64 2, .int .i64 1, .int .i64 2, .int .i64 0, .int .i64 0]), .int .i64 (-2)] W (AnsC [⟨fB, 1⟩] W)) := fun W v h1 h2 => by
    have h := frontAdd_any [⟨fA, 2⟩, ⟨fB, 1⟩] fA (-2) v W (by decide) h2 h1
    rw [add_3] at h
    exact h
  have HF2 : Hid (∀ W v, RC.Is W v [⟨fA, 2⟩, ⟨fB, 1⟩] → Calls Try.prog 36 #[v] W (MadeT [fA] W)) := fun W v h1 => by
    have h := frontier_any [⟨fA, 2⟩, ⟨fB, 1⟩] v W (by decide) h1
    rw [front_2] at h
    exact h
  have HF1 : Hid (∀ W v, RC.Is W v [⟨fB, 1⟩] → Calls Try.prog 36 #[v] W (MadeT [fB] W)) := fun W v h1 => by
    have h := frontier_any [⟨fB, 1⟩] v W (by decide) h1
    rw [front_1] at h
    exact h
  have HAt : Hid (∀ W v, RC.Is W v [⟨fA, 2⟩, ⟨fB, 1⟩] → Calls Try.prog 33 #[v, (.agg #[.int .i64 2, .int .i64 1, .int .i64 2, .int .i64 0, .int .i64 0])] W (Ret (.int .i64 2) W)) := fun W v h1 => by
    have h := frontAt_any [⟨fA, 2⟩, ⟨fB, 1⟩] fA v W (by decide) h1
    rw [at_2] at h
    exact h
  go_wp2_with fail
  refine gen_world (fun W2 => Below w.heap.size w W2 ∧ BoxT W2 w.heap.size fA ∧ BoxT W2 (w.heap.size + 1) fB) ⟨by go_grown, (BoxT.new w fA 26).below ((Below.refl _ _).alloc (Nat.le_refl _) _), by have h := BoxT.new (w.alloc (.cells #[.int .i64 2, .int .i64 1, .int .i64 2, .int .i64 0, .int .i64 0] 26)) fB 26; rw [World.size_alloc] at h; exact h⟩ ?_
  rintro w2 ⟨hW2, hbA, hbB⟩
  have HK : Hid (∀ W, Below w2.heap.size w2 W → W.cell? ⟨w.heap.size, 0, none⟩ = some (.int .i64 2) ∧ W.cell? ⟨w.heap.size, 1, none⟩ = some (.int .i64 1) ∧ W.cell? ⟨w.heap.size, 2, none⟩ = some (.int .i64 2) ∧ W.cell? ⟨w.heap.size, 3, none⟩ = some (.int .i64 0) ∧ W.cell? ⟨w.heap.size, 4, none⟩ = some (.int .i64 0) ∧ W.cell? ⟨(w.heap.size + 1), 0, none⟩ = some (.int .i64 2) ∧ W.cell? ⟨(w.heap.size + 1), 1, none⟩ = some (.int .i64 1) ∧ W.cell? ⟨(w.heap.size + 1), 2, none⟩ = some (.int .i64 3) ∧ W.cell? ⟨(w.heap.size + 1), 3, none⟩ = some (.int .i64 0) ∧ W.cell? ⟨(w.heap.size + 1), 4, none⟩ = some (.int .i64 0)) := fun W hW => by
    obtain ⟨⟨p0, p1, p2, p3, p4, _, _, _, _, _⟩, _⟩ := hbA.below hW
    obtain ⟨⟨r0, r1, r2, r3, r4, _, _, _, _, _⟩, _⟩ := hbB.below hW
    exact ⟨p0, p1, p2, p3, p4, r0, r1, r2, r3, r4⟩
  have HW2 := Lib.hid hW2
  clear hW2 hbA hbB
  obtain ⟨p0, p1, p2, p3, p4, r0, r1, r2, r3, r4⟩ := HK.out w2 (Below.refl _ _)
  go_region_held_law (fun w' => w'.cell? ⟨w.heap.size, 0, none⟩ = some (.int .i64 2) ∧ w'.cell? ⟨w.heap.size, 1, none⟩ = some (.int .i64 1) ∧ w'.cell? ⟨w.heap.size, 2, none⟩ = some (.int .i64 2) ∧ w'.cell? ⟨w.heap.size, 3, none⟩ = some (.int .i64 0) ∧ w'.cell? ⟨w.heap.size, 4, none⟩ = some (.int .i64 0) ∧ w'.cell? ⟨(w.heap.size + 1), 0, none⟩ = some (.int .i64 2) ∧ w'.cell? ⟨(w.heap.size + 1), 1, none⟩ = some (.int .i64 1) ∧ w'.cell? ⟨(w.heap.size + 1), 2, none⟩ = some (.int .i64 3) ∧ w'.cell? ⟨(w.heap.size + 1), 3, none⟩ = some (.int .i64 0) ∧ w'.cell? ⟨(w.heap.size + 1), 4, none⟩ = some (.int .i64 0)) (first | (with_reducible exact HK.out _ (by assumption)) | go_keep) (first
    | (go_at_call 29; refine (HA2.out wa va hIa hCa).mono ?_; rintro e wb ⟨vb, rfl, hIb, hCb, hBb⟩; have hB2 : Below w2.heap.size w2 wb := bcall hB1 hBb hB1.size)
    | (go_at_call 29; refine (HA1.out _).mono ?_; rintro e wa ⟨va, rfl, hIa, hCa, hBa⟩; have hB1 : Below w2.heap.size w2 wa := bcall (Below.refl _ _).drew hBa (Nat.le_refl _)))
  try simp only [List.getElem_toArray, List.getElem_cons_succ, List.getElem_cons_zero, Act.put, List.setIfInBounds_toArray, List.set_cons_zero, List.set_cons_succ]
  obtain ⟨pf, cf, rfl⟩ := hIb.slice
  have HI2 := Lib.hid hIb; have HC2 := Lib.hid hCb; have HB2 := Lib.hid hB2
  clear p0 p1 p2 p3 p4 r0 r1 r2 r3 r4 hIa hCa hBa hB1 hIb hCb hBb hB2 HA1 HA2
  obtain ⟨p0, p1, p2, p3, p4, r0, r1, r2, r3, r4⟩ := HK.out wb HB2.out
  go_wp2_with fail
  refine (HA3.out wb _ HI2.out HC2.out).mono ?_
  rintro e wc ⟨vg, rfl, hIg, hCg, hBg⟩
  obtain ⟨pg, cg, rfl⟩ := hIg.slice
  have HIg := Lib.hid hIg; have HIf := Lib.hid (HI2.out.below hBg)
  have HBc := Lib.hid (HB2.out.trans (hBg.mono HB2.out.size))
  clear p0 p1 p2 p3 p4 r0 r1 r2 r3 r4 hIg hCg hBg HI2 HC2 HB2 HA3
  go_wp2_with fail
  refine (HF2.out wc _ HIf.out).mono ?_
  rintro e wd ⟨vl, rfl, hOl, hBl⟩
  obtain ⟨pl, cl, rfl⟩ := hOl.is.slice
  have HIl := Lib.hid hOl.is; have HIg2 := Lib.hid (HIg.out.below hBl); have HIf2 := Lib.hid (HIf.out.below hBl)
  have HBd := Lib.hid (HBc.out.trans (hBl.mono HBc.out.size))
  clear hOl hBl HIg HIf HBc HF2
  go_wp2_with fail
  refine (HF1.out wd _ HIg2.out).mono ?_
  rintro e we ⟨vm, rfl, hOm, hBm⟩
  obtain ⟨pm, cm, rfl⟩ := hOm.is.slice
  have HIm := Lib.hid hOm.is; have HIl2 := Lib.hid (HIl.out.below hBm); have HIf3 := Lib.hid (HIf2.out.below hBm)
  have HBe := Lib.hid (HBd.out.trans (hBm.mono HBd.out.size))
  clear hOm hBm HIl HIg2 HIf2 HBd HF1
  have HAt2 : Hid (∀ p : Beh we, Calls Try.prog 33 #[.slice pf 2 cf, .agg #[.int .i64 2, .int .i64 1, .int .i64 2, .int .i64 0, .int .i64 0]] p.w (Ret (.int .i64 2) p.w)) := fun p => HAt.out p.w _ (HIf3.out.below p.h)
  rcases HIl2.out with ⟨h, _⟩ | ⟨_, gl, ol, cl', el, hgl, hrl⟩
  · cases h
  rcases HIm.out with ⟨h, _⟩ | ⟨_, gm, om, cm', em, hgm, hrm⟩
  · cases h
  simp only [Value.slice.injEq] at el em
  obtain ⟨rfl, _, rfl⟩ := el
  obtain ⟨rfl, _, rfl⟩ := em
  have hl := row1 hrl
  have hm := row1 hrm
  have hk := HK.out we HBe.out
  have l0 : ∀ p : Beh we, p.w.cell? ⟨gl, ol, none⟩ = some (.int .i64 2) := fun p => beh_cell hl.1 p
  have l1 : ∀ p : Beh we, p.w.cell? ⟨gl, ol + 1, none⟩ = some (.int .i64 1) := fun p => beh_cell hl.2.1 p
  have l2 : ∀ p : Beh we, p.w.cell? ⟨gl, ol + 2, none⟩ = some (.int .i64 2) := fun p => beh_cell hl.2.2.1 p
  have l3 : ∀ p : Beh we, p.w.cell? ⟨gl, ol + 3, none⟩ = some (.int .i64 0) := fun p => beh_cell hl.2.2.2.1 p
  have l4 : ∀ p : Beh we, p.w.cell? ⟨gl, ol + 4, none⟩ = some (.int .i64 0) := fun p => beh_cell hl.2.2.2.2 p
  have m0 : ∀ p : Beh we, p.w.cell? ⟨gm, om, none⟩ = some (.int .i64 2) := fun p => beh_cell hm.1 p
  have m1 : ∀ p : Beh we, p.w.cell? ⟨gm, om + 1, none⟩ = some (.int .i64 1) := fun p => beh_cell hm.2.1 p
  have m2 : ∀ p : Beh we, p.w.cell? ⟨gm, om + 2, none⟩ = some (.int .i64 3) := fun p => beh_cell hm.2.2.1 p
  have m3 : ∀ p : Beh we, p.w.cell? ⟨gm, om + 3, none⟩ = some (.int .i64 0) := fun p => beh_cell hm.2.2.2.1 p
  have m4 : ∀ p : Beh we, p.w.cell? ⟨gm, om + 4, none⟩ = some (.int .i64 0) := fun p => beh_cell hm.2.2.2.2 p
  have a0 : ∀ p : Beh we, p.w.cell? ⟨w.heap.size, 0, none⟩ = some (.int .i64 2) := fun p => beh_cell hk.1 p
  have a1 : ∀ p : Beh we, p.w.cell? ⟨w.heap.size, 1, none⟩ = some (.int .i64 1) := fun p => beh_cell hk.2.1 p
  have a2 : ∀ p : Beh we, p.w.cell? ⟨w.heap.size, 2, none⟩ = some (.int .i64 2) := fun p => beh_cell hk.2.2.1 p
  have a3 : ∀ p : Beh we, p.w.cell? ⟨w.heap.size, 3, none⟩ = some (.int .i64 0) := fun p => beh_cell hk.2.2.2.1 p
  have a4 : ∀ p : Beh we, p.w.cell? ⟨w.heap.size, 4, none⟩ = some (.int .i64 0) := fun p => beh_cell hk.2.2.2.2.1 p
  have b0 : ∀ p : Beh we, p.w.cell? ⟨w.heap.size + 1, 0, none⟩ = some (.int .i64 2) := fun p => beh_cell hk.2.2.2.2.2.1 p
  have b1 : ∀ p : Beh we, p.w.cell? ⟨w.heap.size + 1, 1, none⟩ = some (.int .i64 1) := fun p => beh_cell hk.2.2.2.2.2.2.1 p
  have b2 : ∀ p : Beh we, p.w.cell? ⟨w.heap.size + 1, 2, none⟩ = some (.int .i64 3) := fun p => beh_cell hk.2.2.2.2.2.2.2.1 p
  have b3 : ∀ p : Beh we, p.w.cell? ⟨w.heap.size + 1, 3, none⟩ = some (.int .i64 0) := fun p => beh_cell hk.2.2.2.2.2.2.2.2.1 p
  have b4 : ∀ p : Beh we, p.w.cell? ⟨w.heap.size + 1, 4, none⟩ = some (.int .i64 0) := fun p => beh_cell hk.2.2.2.2.2.2.2.2.2 p
  have hqa : eqT ⟨2, 1, 2, 0, 0⟩ ⟨2, 1, 2, 0, 0⟩ = true := by decide
  have hqb : eqT ⟨2, 1, 3, 0, 0⟩ ⟨2, 1, 3, 0, 0⟩ = true := by decide
  have HX := Lib.hid (HW2.out.trans (HBe.out.mono HW2.out.size))
  clear hl hm hk hrl hrm hgl hgm HIl2 HIm HIf3 HAt HBe HK HW2
  go_wp2_with fail
  refine wp_region_beh (by kernel_rfl) (by kernel_rfl) ?_
  repeat (first | go_big_quiet_step (first | (with_reducible exact Calls.beh (HAt2.out _))) | quiet_step (first | (with_reducible exact Calls.beh (HAt2.out _))))
  refine wpQuiet_nil ?_
  intro _ hw'
  obtain ⟨bb, hw''⟩ := hw'
  subst hw''
  have HX2 := Lib.hid (HX.out.trans (bb.h.mono HX.out.size))
  clear l0 l1 l2 l3 l4 m0 m1 m2 m3 m4 a0 a1 a2 a3 a4 b0 b1 b2 b3 b4
  go_wp2
  go_returns
  exact ⟨rfl, HX2.out⟩
end Go.Proofs.Ytcaolilhemamiaa
