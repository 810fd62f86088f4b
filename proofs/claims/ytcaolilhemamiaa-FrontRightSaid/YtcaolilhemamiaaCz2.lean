/- the law ChainRight -/
import Derived.Test.YtcaolilhemamiaaCk
import Derived.Test.YtcaolilhemamiaaCg
import Derived.Test.YtcaolilhemamiaaCh
import Derived.Test.YtcaolilhemamiaaCy
import Derived.Test.YtcaolilhemamiaaFa
import Derived.Test.YtcaolilhemamiaaRowFresh
import Derived.Test.YtcaolilhemamiaaRowKeep
import Derived.Deep.CutRange
import Derived.Deep.RegionHeldLaw
namespace Go.Proofs.Ytcaolilhemamiaa
open Go.RowKit
set_option linter.unusedVariables false
set_option linter.unusedSimpArgs false
attribute [local go_sem ↓] run_imin

theorem refOf_any (xs : List TV) (v : Value) (w : World) (hl : xs.length ≤ 400000) (h : RT.Is w v xs) : Calls Try.prog 18 #[v] w (RT.Made (ofT xs) w) := by
  rcases h with ⟨rfl, p, cap, rfl, _⟩ | ⟨h0, b, off, cap, rfl, hb, hr⟩
  · rw [show ofT [] = [] from List.eq_nil_of_length_eq_zero (Nat.le_zero.1 (ofT_length []))]
    go_enter Try.func18, Try.ntmps18
    go_wp2
    refine wp_loop_rounds 1 ?_
    rw [rounds_succ]
    go_wp2
    go_returns
    exact ⟨_, rfl, RowKind.Own.nil RT _ _, Below.refl _ _⟩
  · exact refOf_row xs b off cap w hl hb hr
theorem is_new (W : World) (tt : TypeId) (d c0 c1 c2 c3 : Int) : RT.Is (W.alloc (.cells #[.int .i64 d, .int .i64 c0, .int .i64 c1, .int .i64 c2, .int .i64 c3] tt)) (.slice (some ⟨W.heap.size, 0, none⟩) 1 1) [(⟨d, c0, c1, c2, c3⟩ : TV)] :=
  .inr ⟨by simp, W.heap.size, 0, 1, rfl, by simp, RowKind.Row.new W (⟨d, c0, c1, c2, c3⟩ : TV) tt⟩
theorem is_after1 {W wn : World} {tt : TypeId} {d c0 c1 c2 c3 : Int} (hb : Below (W.alloc (.cells #[.int .i64 d, .int .i64 c0, .int .i64 c1, .int .i64 c2, .int .i64 c3] tt)).heap.size (W.alloc (.cells #[.int .i64 d, .int .i64 c0, .int .i64 c1, .int .i64 c2, .int .i64 c3] tt)) wn) : RT.Is wn (.slice (some ⟨W.heap.size, 0, none⟩) 1 1) [(⟨d, c0, c1, c2, c3⟩ : TV)] := (is_new W tt d c0 c1 c2 c3).below hb
theorem is_after2 {W wn : World} {o : Obj} {tt : TypeId} {d c0 c1 c2 c3 : Int} (hb : Below ((W.alloc (.cells #[.int .i64 d, .int .i64 c0, .int .i64 c1, .int .i64 c2, .int .i64 c3] tt)).alloc o).heap.size ((W.alloc (.cells #[.int .i64 d, .int .i64 c0, .int .i64 c1, .int .i64 c2, .int .i64 c3] tt)).alloc o) wn) : RT.Is wn (.slice (some ⟨W.heap.size, 0, none⟩) 1 1) [(⟨d, c0, c1, c2, c3⟩ : TV)] := (is_new W tt d c0 c1 c2 c3).below (bup1 hb)
theorem gen_q3 {Q : Exit → Act → World → Prop} {a : Act} {W : World} {e : Exit} (F : World → Prop) (hF : F W) (h : ∀ W2, F W2 → Q e a W2) : Q e a W := h W hF
theorem cutRow3 {α : Type} [Inhabited α] {R : RowKind α} {w : World} {v : Value} {xs : List α} (ha : R.Is w v xs) (ca : capOk v) (b : Nat) (hb : 0 < b) :
    ∃ (p : Option Addr) (n m c : Nat), v = .slice p n c ∧ imin (n : Int) (b : Int) = (m : Int) ∧ m ≤ n ∧ m ≤ c ∧ m ≤ b ∧ (xs.take m).length ≤ b ∧ R.Is w (.slice p m c) (xs.take m) := by
  obtain ⟨p1, c1, rfl⟩ := ha.slice
  have k1 := ca _ _ _ rfl
  have hc : ∃ m : Nat, imin (xs.length : Int) (b : Int) = (m : Int) ∧ m ≤ xs.length ∧ m ≤ b ∧ (m = 0 → xs.length = 0) := by
    unfold imin
    split
    · exact ⟨b, rfl, by omega, by omega, by omega⟩
    · exact ⟨xs.length, rfl, by omega, by omega, by omega⟩
  obtain ⟨m1, e1, l1, h1, z1⟩ := hc
  exact ⟨p1, xs.length, m1, c1, rfl, e1, l1, by omega, h1, by rw [List.length_take]; omega, ha.cut m1 l1 z1⟩
set_option maxRecDepth 100000 in
set_option maxHeartbeats 40000000 in
theorem chainRight_walk (xa xb : List TV) (t : TV) (va vb : Value) (w : World) (ha : IsT w va xa) (hb : IsT w vb xb) (ka : capOk va) (kb : capOk vb) :
    Calls Try.prog 4 #[va, vb, t.val] w (Ret (.bool true) w) := by
  obtain ⟨pa, na, ma, ca, rfl, ea, ja, da, oa, la, HA⟩ := cutRow3 (R := RT) ha ka 100 (by decide)
  obtain ⟨pb, nb, mb, cb, rfl, eb, jb, db, ob, lb, HB⟩ := cutRow3 (R := RT) hb kb 100 (by decide)
  have ea : imin (na : Int) 100 = (ma : Int) := ea
  have eb : imin (nb : Int) 100 = (mb : Int) := eb
  have HA := Lib.hid HA; have HB := Lib.hid HB
  clear ha hb ka kb ja jb
  generalize xa.take ma = A at *
  generalize xb.take mb = B at *
  obtain ⟨d, c0, c1, c2, c3⟩ := t
  have l1 := ofT_length A
  have l2 := ofT_length (A ++ [⟨d, c0, c1, c2, c3⟩])
  have l3 := ofT_length (A ++ B)
  rw [List.length_append] at l2 l3
  simp only [List.length_cons, List.length_nil] at l2
  have HOf0 : Hid (∀ W v, RT.Is W v A → Calls Try.prog 17 #[v] W (RT.Made (ofT A) W)) := fun W v h => of_any A v W (by omega) h
  have HrOf0 : Hid (∀ W, RT.Is W (.slice pa ma ca) A → Calls Try.prog 18 #[.slice pa ma ca] W (RT.Made (ofT A) W)) := fun W h => refOf_any A _ W (by omega) h
  have HrOf2 : Hid (∀ W v, RT.Is W v (A ++ [⟨d, c0, c1, c2, c3⟩]) → Calls Try.prog 18 #[v] W (RT.Made (ofT (A ++ [⟨d, c0, c1, c2, c3⟩])) W)) := fun W v h => refOf_any _ v W (by rw [List.length_append]; simp; omega) h
  have HrOf3 : Hid (∀ W v, RT.Is W v (A ++ B) → Calls Try.prog 18 #[v] W (RT.Made (ofT (A ++ B)) W)) := fun W v h => refOf_any _ v W (by rw [List.length_append]; omega) h
  have HPut0 : Hid (∀ W v, RT.Is W v A → Calls Try.prog 19 #[v, .agg #[.int .i64 d, .int .i64 c0, .int .i64 c1, .int .i64 c2, .int .i64 c3]] W (RT.Made (ofT (A ++ [⟨d, c0, c1, c2, c3⟩])) W)) := fun W v h => put_any A ⟨d, c0, c1, c2, c3⟩ v W (by omega) h
  have HAll0 : Hid (∀ W v, RT.Is W v A → RT.Is W (.slice pb mb cb) B → Calls Try.prog 20 #[v, .slice pb mb cb] W (RT.Made (ofT (A ++ B)) W)) := fun W v h k => all_any A B v _ W (by omega) (by omega) h k
  have HBoth0 : Hid (∀ W, RT.Is W (.slice pa ma ca) A → RT.Is W (.slice pb mb cb) B → Calls Try.prog 21 #[.slice pa ma ca, .slice pb mb cb] W (RT.Made (A ++ B) W)) := fun W h k => refBoth_any A B _ _ W (by omega) (by omega) h k
  have HSame : Hid (∀ W u v (R : List TV), R.length ≤ 900000 → RT.Is W u R → RT.Is W v R → Calls Try.prog 16 #[u, v] W (Ret (.bool true) W)) := fun W u v R hR h k => by
    have q := same_any R R u v W hR hR h k
    rw [decide_eq_true rfl] at q
    exact q
  have HCv0 : Hid (∀ W v, RT.Is W v A → Calls Try.prog 22 #[v, .agg #[.int .i64 d, .int .i64 c0, .int .i64 c1, .int .i64 c2, .int .i64 c3]] W (Ret (.bool (cov A ⟨d, c0, c1, c2, c3⟩)) W)) := fun W v h => covers_any A ⟨d, c0, c1, c2, c3⟩ v W (by omega) h
  have HrCv0 : Hid (∀ W, RT.Is W (.slice pa ma ca) A → Calls Try.prog 23 #[.slice pa ma ca, .agg #[.int .i64 d, .int .i64 c0, .int .i64 c1, .int .i64 c2, .int .i64 c3]] W (Ret (.bool (cov A ⟨d, c0, c1, c2, c3⟩)) W)) := fun W h => refCovers_any A ⟨d, c0, c1, c2, c3⟩ _ W (by omega) h
  have HRt0 : Hid (∀ W v, RT.Is W v A → Calls Try.prog 24 #[v] W (Ret (.bool (decide (A = ofT A))) W)) := fun W v h => chainRight_any A v W (by omega) h
  have HSmR0 : Hid (∀ W v, RT.Is W (.slice pa ma ca) A → RT.Is W v (ofT A) → Calls Try.prog 16 #[.slice pa ma ca, v] W (Ret (.bool (decide (A = ofT A))) W)) := fun W v h k => same_any A (ofT A) _ v W (by omega) (by omega) h k
  have LR1 : Hid ((ofT A).length ≤ 900000) := by show _ ≤ _; omega
  have LR2 : Hid ((ofT (A ++ [⟨d, c0, c1, c2, c3⟩])).length ≤ 900000) := by show _ ≤ _; omega
  have LR3 : Hid ((ofT (A ++ B)).length ≤ 900000) := by show _ ≤ _; omega
  have LA9 : Hid (A.length ≤ 900000) := by show _ ≤ _; omega
  have HL1 : Hid (([] : List TV).length + A.length ≤ 1000000) := by show _ ≤ _; simp; omega
  clear l1 l2 l3 la lb
  generalize decide (A = ofT A) = rb at *
  generalize cov A ⟨d, c0, c1, c2, c3⟩ = cv at *
  generalize ofT A = R1 at *
  generalize ofT (A ++ [⟨d, c0, c1, c2, c3⟩]) = R2 at *
  generalize ofT (A ++ B) = R3 at *
  have HAW := Lib.hid chainAwake
  show Calls _ _ #[_, _, .agg #[.int .i64 d, .int .i64 c0, .int .i64 c1, .int .i64 c2, .int .i64 c3]] _ _
  go_enter Try.func4, Try.ntmps4
  go_wp2_with fail
  refine (HAW.out _).mono ?_
  rintro e w1 ⟨rfl, hb1⟩
  have hB0 : Below w.heap.size w (w.alloc (.cells #[.int .i64 d, .int .i64 c0, .int .i64 c1, .int .i64 c2, .int .i64 c3] 26)) := (Below.refl _ w).alloc (Nat.le_refl _) _
  have X1 := (Boxed.new w #[.int .i64 d, .int .i64 c0, .int .i64 c1, .int .i64 c2, .int .i64 c3] 26).below hb1 (by simp)
  have HBx : Hid (∀ W, Below w1.heap.size w1 W → W.cell? ⟨w.heap.size, 0, none⟩ = some (.int .i64 d) ∧ W.cell? ⟨w.heap.size, 1, none⟩ = some (.int .i64 c0) ∧ W.cell? ⟨w.heap.size, 2, none⟩ = some (.int .i64 c1) ∧ W.cell? ⟨w.heap.size, 3, none⟩ = some (.int .i64 c2) ∧ W.cell? ⟨w.heap.size, 4, none⟩ = some (.int .i64 c3)) := fun W hW => ⟨(X1.below hW X1.lt).cell 0, (X1.below hW X1.lt).cell 1, (X1.below hW X1.lt).cell 2, (X1.below hW X1.lt).cell 3, (X1.below hW X1.lt).cell 4⟩
  have HA1 := Lib.hid ((HA.out.below hB0).below hb1)
  have HB1 := Lib.hid ((HB.out.below hB0).below hb1)
  have HW1 := Lib.hid (hB0.trans (hb1.mono hB0.size))
  have hlw : w.heap.size < w1.heap.size := X1.lt
  clear hb1 hB0 X1 HA HB HAW
  go_wp2_with fail
  go_quiet (fail)
  refine gen_q3 (fun W2 => Below w1.heap.size w1 W2) (below_drewN (Below.refl _ _) _) ?_
  rintro w2 hb2
  have HA2 := Lib.hid (HA1.out.below hb2); have HB2 := Lib.hid (HB1.out.below hb2)
  have HO0 := Lib.hid (show RT.Own w2.heap.size (w2.alloc (.cells #[] 26)) (.slice (some ⟨w2.heap.size, 0, none⟩) 0 0) [] from OwnT.empty w2)
  have HBe := Lib.hid ((Below.refl w2.heap.size w2).alloc (Nat.le_refl _) (.cells #[] 26))
  have HZe := Lib.hid HBe.out.size
  have HA3 := Lib.hid (HA2.out.below HBe.out)
  have HWa := Lib.hid hb2
  clear hb2 HA1 HB1
  go_upto_region 5 with (at_builtin; refine RowKind.Own.appendAny (R := RT) (ys := A) HO0.out HBe.out HZe.out rfl _ _ rfl rfl rfl HA3.out HL1.out ?_; intro v4 w4 hO4 hB4 hz4)
  have HM : Hid (RT.Is w4 v4 A) := hO4.is
  have HA4 := Lib.hid (HA2.out.below hB4); have HB4 := Lib.hid (HB2.out.below hB4)
  have HWb := Lib.hid (HWa.out.trans (hB4.mono HWa.out.size))
  have HOf := Lib.hid (fun W (h : Below w4.heap.size w4 W) => HOf0.out W v4 (HM.out.below h))
  have HrOf1 := Lib.hid (fun W (h : Below w4.heap.size w4 W) => HrOf0.out W (HA4.out.below h))
  have HPut := Lib.hid (fun W (h : Below w4.heap.size w4 W) => HPut0.out W v4 (HM.out.below h))
  have HAll := Lib.hid (fun W (h : Below w4.heap.size w4 W) => HAll0.out W v4 (HM.out.below h) (HB4.out.below h))
  have HBoth := Lib.hid (fun W (h : Below w4.heap.size w4 W) => HBoth0.out W (HA4.out.below h) (HB4.out.below h))
  have HCv := Lib.hid (fun W (h : Below w4.heap.size w4 W) => HCv0.out W v4 (HM.out.below h))
  have HrCv := Lib.hid (fun W (h : Below w4.heap.size w4 W) => HrCv0.out W (HA4.out.below h))
  have HRt := Lib.hid (fun W (h : Below w4.heap.size w4 W) => HRt0.out W v4 (HM.out.below h))
  have HSmR := Lib.hid (fun W v (h : Below w4.heap.size w4 W) (k : RT.Is W v R1) => HSmR0.out W v (HA4.out.below h) k)
  have HSmA := Lib.hid (fun W (h : Below w4.heap.size w4 W) => HSame.out W v4 (.slice pa ma ca) A LA9.out (HM.out.below h) (HA4.out.below h))
  have HB5 := Lib.hid (fun W (hW : Below w4.heap.size w4 W) => HBx.out W (HWb.out.trans (hW.mono HWb.out.size)))
  have hl4 : w.heap.size < w4.heap.size := Nat.lt_of_lt_of_le hlw HWb.out.size
  have hn4 : w.heap.size ≠ w4.heap.size := Nat.ne_of_lt hl4
  clear hO4 hB4 hz4 HO0 HBe HZe HA3 HA2 HB2 HL1 HBx HWa hlw HOf0 HrOf0 HPut0 HAll0 HBoth0 HCv0 HrCv0 HRt0 HSmR0
  go_cut [53] from 23 to 53 (fun c wx => c = .bool false ∧ Below w4.heap.size w4 wx)
  case first =>
    clear HCv HrCv HRt HSmR HSmA
    have hc : Below w4.heap.size w4 w4.drew := (Below.refl _ _).drew
    obtain ⟨r0, r1, r2, r3, r4⟩ := HB5.out w4 (Below.refl _ _)
    go_region_held_law (fun w' => w'.cell? ⟨w.heap.size, 0, none⟩ = some (.int .i64 d) ∧ w'.cell? ⟨w.heap.size, 1, none⟩ = some (.int .i64 c0) ∧ w'.cell? ⟨w.heap.size, 2, none⟩ = some (.int .i64 c1) ∧ w'.cell? ⟨w.heap.size, 3, none⟩ = some (.int .i64 c2) ∧ w'.cell? ⟨w.heap.size, 4, none⟩ = some (.int .i64 c3)) (first | exact HB5.out _ hc | exact HB5.out _ (balloc1 hc) | exact HB5.out _ (balloc2 hc) | go_keep) (first
    | (go_at_call 16; (first | (with_reducible refine Calls.mono (HSame.out _ _ _ R3 LR3.out hAl.is hO3.is) ?_)); rintro e wn ⟨rfl, hb⟩; (with_reducible first | (replace hc := hc.trans (hb.mono hc.size)) | (replace hc := hc.trans ((bup1 hb).mono hc.size)) | (replace hc := hc.trans ((bup2 hb).mono hc.size))); clear hb)
    | (go_at_call 16; (first | (with_reducible refine Calls.mono (HSame.out _ _ _ R2 LR2.out hPo.is hO2.is) ?_)); rintro e wn ⟨rfl, hb⟩; (try clear hPo hO2 hF hF2 hT hSep); (with_reducible first | (replace hc := hc.trans (hb.mono hc.size)) | (replace hc := hc.trans ((bup1 hb).mono hc.size)) | (replace hc := hc.trans ((bup2 hb).mono hc.size))); clear hb)
    | (go_at_call 16; (first | (with_reducible refine Calls.mono (HSame.out _ _ _ R1 LR1.out hI1.is hI2.is) ?_)); rintro e wn ⟨rfl, hb⟩; (try clear hI1 hI2); (with_reducible first | (replace hc := hc.trans (hb.mono hc.size)) | (replace hc := hc.trans ((bup1 hb).mono hc.size)) | (replace hc := hc.trans ((bup2 hb).mono hc.size))); clear hb)
    | (go_at_call 18; (first | (with_reducible refine Calls.mono (HrOf3.out _ _ hBo.is) ?_)); rintro e wn ⟨vO3, rfl, hO3, hb⟩; (try (with_reducible first | (replace hAl := hAl.below hb) | (replace hAl := hAl.below (bup1 hb)) | (replace hAl := hAl.below (bup2 hb)))); (with_reducible first | (replace hc := hc.trans (hb.mono hc.size)) | (replace hc := hc.trans ((bup1 hb).mono hc.size)) | (replace hc := hc.trans ((bup2 hb).mono hc.size))); clear hb)
    | (go_at_call 18; (first | (with_reducible refine Calls.mono (HrOf2.out _ _ hF2) ?_)); rintro e wn ⟨vO2, rfl, hO2, hb⟩; (try (with_reducible first | (replace hPo := hPo.below hb) | (replace hPo := hPo.below (bup1 hb)) | (replace hPo := hPo.below (bup2 hb)))); (with_reducible first | (replace hc := hc.trans (hb.mono hc.size)) | (replace hc := hc.trans ((bup1 hb).mono hc.size)) | (replace hc := hc.trans ((bup2 hb).mono hc.size))); clear hb)
    | (go_at_call 18; (first | (with_reducible refine Calls.mono (HrOf1.out _ hc) ?_) | (with_reducible refine Calls.mono (HrOf1.out _ (balloc1 hc)) ?_) | (with_reducible refine Calls.mono (HrOf1.out _ (balloc2 hc)) ?_)); rintro e wn ⟨vI2, rfl, hI2, hb⟩; (try (with_reducible first | (replace hI1 := hI1.below hb) | (replace hI1 := hI1.below (bup1 hb)) | (replace hI1 := hI1.below (bup2 hb)))); (with_reducible first | (replace hc := hc.trans (hb.mono hc.size)) | (replace hc := hc.trans ((bup1 hb).mono hc.size)) | (replace hc := hc.trans ((bup2 hb).mono hc.size))); clear hb)
    | (go_at_call 17; (first | (with_reducible refine Calls.mono (HOf.out _ hc) ?_) | (with_reducible refine Calls.mono (HOf.out _ (balloc1 hc)) ?_) | (with_reducible refine Calls.mono (HOf.out _ (balloc2 hc)) ?_)); rintro e wn ⟨vI1, rfl, hI1, hb⟩; (try (with_reducible first | (replace hI2 := hI2.below hb) | (replace hI2 := hI2.below (bup1 hb)) | (replace hI2 := hI2.below (bup2 hb)))); (with_reducible first | (replace hc := hc.trans (hb.mono hc.size)) | (replace hc := hc.trans ((bup1 hb).mono hc.size)) | (replace hc := hc.trans ((bup2 hb).mono hc.size))); clear hb)
    | (go_at_call 19; (first | (with_reducible refine Calls.mono (HPut.out _ hc) ?_) | (with_reducible refine Calls.mono (HPut.out _ (balloc1 hc)) ?_) | (with_reducible refine Calls.mono (HPut.out _ (balloc2 hc)) ?_)); rintro e wn ⟨vP, rfl, hPo, hb⟩; (try (have hSep := RowKind.sepA hF hPo (by first | exact Nat.le_refl _ | (simp; done) | (simp; omega)))); (try (with_reducible first | (replace hF := hF.below hb) | (replace hF := hF.below (bup1 hb)) | (replace hF := hF.below (bup2 hb)))); (try (with_reducible first | (replace hF2 := hF2.below hb) | (replace hF2 := hF2.below (bup1 hb)) | (replace hF2 := hF2.below (bup2 hb)))); (try (with_reducible first | (replace hT := hT.below hb) | (replace hT := hT.below (bup1 hb)) | (replace hT := hT.below (bup2 hb)))); (try (with_reducible first | (replace hO2 := hO2.below hb) | (replace hO2 := hO2.below (bup1 hb)) | (replace hO2 := hO2.below (bup2 hb)))); (try (with_reducible (have hT := is_after1 hb))); (try (with_reducible (have hT := is_after2 hb))); (try simp only [World.size_alloc] at hT); (with_reducible first | (replace hc := hc.trans (hb.mono hc.size)) | (replace hc := hc.trans ((bup1 hb).mono hc.size)) | (replace hc := hc.trans ((bup2 hb).mono hc.size))); clear hb)
    | (go_at_call 20; (first | (with_reducible refine Calls.mono (HAll.out _ hc) ?_) | (with_reducible refine Calls.mono (HAll.out _ (balloc1 hc)) ?_) | (with_reducible refine Calls.mono (HAll.out _ (balloc2 hc)) ?_)); rintro e wn ⟨vAl, rfl, hAl, hb⟩; (try (with_reducible first | (replace hBo := hBo.below hb) | (replace hBo := hBo.below (bup1 hb)) | (replace hBo := hBo.below (bup2 hb)))); (try (with_reducible first | (replace hO3 := hO3.below hb) | (replace hO3 := hO3.below (bup1 hb)) | (replace hO3 := hO3.below (bup2 hb)))); (with_reducible first | (replace hc := hc.trans (hb.mono hc.size)) | (replace hc := hc.trans ((bup1 hb).mono hc.size)) | (replace hc := hc.trans ((bup2 hb).mono hc.size))); clear hb)
    | (go_at_call 21; (first | (with_reducible refine Calls.mono (HBoth.out _ hc) ?_) | (with_reducible refine Calls.mono (HBoth.out _ (balloc1 hc)) ?_) | (with_reducible refine Calls.mono (HBoth.out _ (balloc2 hc)) ?_)); rintro e wn ⟨vBo, rfl, hBo, hb⟩; (try (with_reducible first | (replace hAl := hAl.below hb) | (replace hAl := hAl.below (bup1 hb)) | (replace hAl := hAl.below (bup2 hb)))); (with_reducible first | (replace hc := hc.trans (hb.mono hc.size)) | (replace hc := hc.trans ((bup1 hb).mono hc.size)) | (replace hc := hc.trans ((bup2 hb).mono hc.size))); clear hb)
    | (refine RowKind.freshR (R := RT) hF rfl _ _ rfl rfl rfl hT LA9.out hc (Nat.le_refl _) hc.size ?_; intro v6 w6 hF2 hcn hk; (try (replace hPo := hPo.keepK (fun l hl => hk l (hPo.lt l hl).2 (fun k hk2 hne => hSep hne k l hk2 hl)))); replace hc := hcn; clear hcn hk)
    | (refine RowKind.freshR (R := RT) (hF.alloc _) rfl _ _ rfl rfl rfl (is_new _ _ _ _ _ _ _) LA9.out (balloc1 hc) (Nat.le_refl _) (balloc1 hc).size ?_; intro v6 w6 hF2 hcn hk; (try (replace hPo := (hPo.alloc _).keepK (fun l hl => hk l ((hPo.alloc _).lt l hl).2 (fun k hk2 hne => hSep hne k l hk2 hl)))); replace hc := hcn; clear hcn hk)
    | (refine RowKind.emptyR (R := RT) rfl _ _ rfl rfl rfl (HA4.out.below hc) LA9.out ?_; intro v5 w5 hF hb; (try (have hSep := RowKind.sepB hPo hF (by first | exact Nat.le_refl _ | (simp; done) | (simp; omega)))); replace hF := hF.mono hc.size; (try (with_reducible first | (replace hPo := hPo.below hb) | (replace hPo := hPo.below (bup1 hb)) | (replace hPo := hPo.below (bup2 hb)))); (try (with_reducible first | (replace hT := hT.below hb) | (replace hT := hT.below (bup1 hb)) | (replace hT := hT.below (bup2 hb)))); (try (with_reducible (have hT := is_after1 hb))); (try (with_reducible (have hT := is_after2 hb))); (try simp only [World.size_alloc] at hT); (with_reducible first | (replace hc := hc.trans (hb.mono hc.size)) | (replace hc := hc.trans ((bup1 hb).mono hc.size)) | (replace hc := hc.trans ((bup2 hb).mono hc.size))); clear hb)
    | (refine RowKind.emptyR (R := RT) rfl _ _ rfl rfl rfl (HA4.out.below (balloc1 hc)) LA9.out ?_; intro v5 w5 hF hb; (try (have hSep := RowKind.sepB hPo hF (by first | exact Nat.le_refl _ | (simp; done) | (simp; omega)))); replace hF := hF.mono (balloc1 hc).size; (try (with_reducible first | (replace hPo := hPo.below hb) | (replace hPo := hPo.below (bup1 hb)) | (replace hPo := hPo.below (bup2 hb)))); (try (with_reducible first | (replace hT := hT.below hb) | (replace hT := hT.below (bup1 hb)) | (replace hT := hT.below (bup2 hb)))); (try (with_reducible (have hT := is_after1 hb))); (try (with_reducible (have hT := is_after2 hb))); (try simp only [World.size_alloc] at hT); (with_reducible first | (replace hc := hc.trans (hb.mono hc.size)) | (replace hc := hc.trans ((bup1 hb).mono hc.size)) | (replace hc := hc.trans ((bup2 hb).mono hc.size))); clear hb)
    | (refine RowKind.emptyR (R := RT) rfl _ _ rfl rfl rfl (HA4.out.below (balloc2 hc)) LA9.out ?_; intro v5 w5 hF hb; (try (have hSep := RowKind.sepB hPo hF (by first | exact Nat.le_refl _ | (simp; done) | (simp; omega)))); replace hF := hF.mono (balloc2 hc).size; (try (with_reducible first | (replace hPo := hPo.below hb) | (replace hPo := hPo.below (bup1 hb)) | (replace hPo := hPo.below (bup2 hb)))); (try (with_reducible first | (replace hT := hT.below hb) | (replace hT := hT.below (bup1 hb)) | (replace hT := hT.below (bup2 hb)))); (try (with_reducible (have hT := is_after1 hb))); (try (with_reducible (have hT := is_after2 hb))); (try simp only [World.size_alloc] at hT); (with_reducible first | (replace hc := hc.trans (hb.mono hc.size)) | (replace hc := hc.trans ((bup1 hb).mono hc.size)) | (replace hc := hc.trans ((bup2 hb).mono hc.size))); clear hb))
    all_goals
      try simp only [List.getElem_toArray, List.getElem_cons_succ, List.getElem_cons_zero, Act.put, List.setIfInBounds_toArray, List.set_cons_zero, List.set_cons_succ]
      go_wp2_with fail
      go_meet
      case rel => exact ⟨rfl, hc⟩
  case rest =>
    obtain ⟨rfl, hW⟩ := hcut
    clear HOf HPut HAll HBoth HrOf2 HrOf3
    have hc : Below w4.heap.size w4 wc.drew := hW.drew
    obtain ⟨r0, r1, r2, r3, r4⟩ := HB5.out wc hW
    have hlc : w.heap.size < wc.heap.size := Nat.lt_of_lt_of_le hl4 hW.size
    go_wp2_with fail
    go_region_held_law (fun w' => w'.cell? ⟨w.heap.size, 0, none⟩ = some (.int .i64 d) ∧ w'.cell? ⟨w.heap.size, 1, none⟩ = some (.int .i64 c0) ∧ w'.cell? ⟨w.heap.size, 2, none⟩ = some (.int .i64 c1) ∧ w'.cell? ⟨w.heap.size, 3, none⟩ = some (.int .i64 c2) ∧ w'.cell? ⟨w.heap.size, 4, none⟩ = some (.int .i64 c3)) (first | exact HB5.out _ hc | go_keep) (first
    | (go_at_call 22; (first | (with_reducible refine Calls.mono (HCv.out _ hc) ?_) | (with_reducible refine Calls.mono (HCv.out _ (balloc1 hc)) ?_) | (with_reducible refine Calls.mono (HCv.out _ (balloc2 hc)) ?_)); rintro e wn ⟨rfl, hb⟩; (try (with_reducible first | (replace hO4 := hO4.below hb) | (replace hO4 := hO4.below (bup1 hb)) | (replace hO4 := hO4.below (bup2 hb)))); (with_reducible first | (replace hc := hc.trans (hb.mono hc.size)) | (replace hc := hc.trans ((bup1 hb).mono hc.size)) | (replace hc := hc.trans ((bup2 hb).mono hc.size))); clear hb)
    | (go_at_call 23; (first | (with_reducible refine Calls.mono (HrCv.out _ hc) ?_) | (with_reducible refine Calls.mono (HrCv.out _ (balloc1 hc)) ?_) | (with_reducible refine Calls.mono (HrCv.out _ (balloc2 hc)) ?_)); rintro e wn ⟨rfl, hb⟩; (try (with_reducible first | (replace hO4 := hO4.below hb) | (replace hO4 := hO4.below (bup1 hb)) | (replace hO4 := hO4.below (bup2 hb)))); (with_reducible first | (replace hc := hc.trans (hb.mono hc.size)) | (replace hc := hc.trans ((bup1 hb).mono hc.size)) | (replace hc := hc.trans ((bup2 hb).mono hc.size))); clear hb)
    | (go_at_call 24; (first | (with_reducible refine Calls.mono (HRt.out _ hc) ?_) | (with_reducible refine Calls.mono (HRt.out _ (balloc1 hc)) ?_) | (with_reducible refine Calls.mono (HRt.out _ (balloc2 hc)) ?_)); rintro e wn ⟨rfl, hb⟩; (try (with_reducible first | (replace hO4 := hO4.below hb) | (replace hO4 := hO4.below (bup1 hb)) | (replace hO4 := hO4.below (bup2 hb)))); (with_reducible first | (replace hc := hc.trans (hb.mono hc.size)) | (replace hc := hc.trans ((bup1 hb).mono hc.size)) | (replace hc := hc.trans ((bup2 hb).mono hc.size))); clear hb)
    | (go_at_call 18; (first | (with_reducible refine Calls.mono (HrOf1.out _ hc) ?_) | (with_reducible refine Calls.mono (HrOf1.out _ (balloc1 hc)) ?_) | (with_reducible refine Calls.mono (HrOf1.out _ (balloc2 hc)) ?_)); rintro e wn ⟨vO4, rfl, hO4, hb⟩; (with_reducible first | (replace hc := hc.trans (hb.mono hc.size)) | (replace hc := hc.trans ((bup1 hb).mono hc.size)) | (replace hc := hc.trans ((bup2 hb).mono hc.size))); clear hb)
    | (go_at_call 16; (first | (with_reducible refine Calls.mono (HSmR.out _ _ hc hO4.is) ?_)); rintro e wn ⟨rfl, hb⟩; (with_reducible first | (replace hc := hc.trans (hb.mono hc.size)) | (replace hc := hc.trans ((bup1 hb).mono hc.size)) | (replace hc := hc.trans ((bup2 hb).mono hc.size))); clear hb)
    | (go_at_call 16; (first | (with_reducible refine Calls.mono (HSmA.out _ hc) ?_)); rintro e wn ⟨rfl, hb⟩; (with_reducible first | (replace hc := hc.trans (hb.mono hc.size)) | (replace hc := hc.trans ((bup1 hb).mono hc.size)) | (replace hc := hc.trans ((bup2 hb).mono hc.size))); clear hb))
    all_goals
      try simp only [List.getElem_toArray, List.getElem_cons_succ, List.getElem_cons_zero, Act.put, List.setIfInBounds_toArray, List.set_cons_zero, List.set_cons_succ]
      go_wp2
      go_returns
      exact ⟨by first | rfl | (cases cv <;> cases rb <;> rfl), HW1.out.trans ((HWb.out.trans (hc.mono HWb.out.size)).mono HW1.out.size)⟩
end Go.Proofs.Ytcaolilhemamiaa
