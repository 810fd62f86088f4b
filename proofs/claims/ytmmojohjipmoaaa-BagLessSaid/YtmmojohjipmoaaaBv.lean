/- the law BagLess -/
import Derived.Test.YtmmojohjipmoaaaBaw
import Derived.Test.YtmmojohjipmoaaaBd
import Derived.Test.YtmmojohjipmoaaaRowKeep
namespace Go.Proofs.Ytmmojohjipmoaaa
open Go.RowKit
set_option linter.unusedVariables false
set_option linter.unusedSimpArgs false
attribute [local go_sem ↓] eqRec neRec run_imin

set_option maxRecDepth 100000 in
set_option maxHeartbeats 6000000 in
theorem bagLess_walk (a b c : RV) (fs : List IV) (va : Value) (w : World) (ha : RI.Is w va fs) (ca : capOk va) (_hn : ∀ x ∈ fs, -9223372036854775808 ≤ x.n ∧ x.n ≤ 9223372036854775807) :
    Calls Try.prog 6 #[a.val, b.val, c.val, va] w (Ret (.bool true) w) := by
  obtain ⟨p1, c1, rfl⟩ := ha.slice
  have k1 := ca _ _ _ rfl
  clear ca
  generalize fs.length = n1 at *
  have HA := Lib.hid ha
  clear ha
  obtain ⟨m1, e1, l1, h1, z1⟩ := cutTo 60 n1 (by decide)
  have e1 : imin (n1 : Int) 60 = (m1 : Int) := e1
  have d1 : m1 ≤ c1 := by omega
  have hmn : (fs.take m1).length ≤ 60 := by rw [List.length_take]; omega
  have HA2 := Lib.hid (HA.out.cut m1 l1 z1)
  clear l1 z1 HA k1
  generalize fs.take m1 = F at *
  have HTh : Hid (∀ W v, RI.Is W v F → Calls Try.prog 19 #[v] W (RI.Made (thereI F) W)) := fun W v h => bthere_any F v W (by omega) h
  have hT := thereI_good F
  have hTl : (thereI F).length ≤ 60 := Nat.le_trans (thereI_len F) hmn
  have HTT : Hid (∀ W v, RI.Is W v (thereI F) → Calls Try.prog 19 #[v] W (RI.Made (thereI F) W)) := fun W v h => by
    have q := bthere_any (thereI F) v W (by omega) h
    rw [thereI_idem] at q
    exact q
  have HRt : Hid (∀ W v, RI.Is W v (thereI F) → Calls Try.prog 10 #[v] W (Ret (.bool true) W)) := fun W v h => by
    have q := bright_any (thereI F) v W (by omega) h
    rw [(rightI_iff _).2 hT] at q
    exact q
  have HSm : Hid (∀ W v u, RI.Is W v (thereI F) → RI.Is W u (thereI F) → Calls Try.prog 18 #[v, u] W (Ret (.bool true) W)) := fun W v u h k => by
    have q := bsame_any (thereI F) (thereI F) v u W (by omega) (by omega) h k
    rw [decide_eq_true rfl] at q
    exact q
  have HP1 : Hid (∀ W v, capOk v → RI.Is W v (thereI F) → Calls Try.prog 15 #[.slice none 0 0, v] W (AnsI (thereI F) W)) := fun W v h k => by
    have q := bplus_any [] (thereI F) (.slice none 0 0) v W (by simp) (by omega) (fun p n c e => by cases e; exact Nat.le_refl _) h (RowKind.Is.nil W) k
    rw [nil_plusI hT] at q
    exact q
  have HP2 : Hid (∀ W v, capOk v → RI.Is W v (thereI F) → Calls Try.prog 15 #[v, .slice none 0 0] W (AnsI (thereI F) W)) := fun W v h k => by
    have q := bplus_any (thereI F) [] v (.slice none 0 0) W (by omega) (by simp) h (fun p n c e => by cases e; exact Nat.le_refl _) k (RowKind.Is.nil W)
    rw [plusI_nil hT] at q
    exact q
  clear hT hTl hmn
  generalize thereI F = T at *
  obtain ⟨ak, av⟩ := a
  obtain ⟨bk, bv⟩ := b
  obtain ⟨ck, cv⟩ := c
  have HL1 : Hid (∀ W, Calls Try.prog 8 #[.agg #[.int .i64 ak, .int .i64 av], .agg #[.int .i64 bk, .int .i64 bv]] W (Ret (.bool (RV.lt ⟨ak, av⟩ ⟨bk, bv⟩)) W)) := fun W => bless_any ⟨ak, av⟩ ⟨bk, bv⟩ W
  have HL2 : Hid (∀ W, Calls Try.prog 8 #[.agg #[.int .i64 bk, .int .i64 bv], .agg #[.int .i64 ak, .int .i64 av]] W (Ret (.bool (RV.lt ⟨bk, bv⟩ ⟨ak, av⟩)) W)) := fun W => bless_any ⟨bk, bv⟩ ⟨ak, av⟩ W
  have HL3 : Hid (∀ W, Calls Try.prog 8 #[.agg #[.int .i64 bk, .int .i64 bv], .agg #[.int .i64 ck, .int .i64 cv]] W (Ret (.bool (RV.lt ⟨bk, bv⟩ ⟨ck, cv⟩)) W)) := fun W => bless_any ⟨bk, bv⟩ ⟨ck, cv⟩ W
  have HL4 : Hid (∀ W, Calls Try.prog 8 #[.agg #[.int .i64 ak, .int .i64 av], .agg #[.int .i64 ck, .int .i64 cv]] W (Ret (.bool (RV.lt ⟨ak, av⟩ ⟨ck, cv⟩)) W)) := fun W => bless_any ⟨ak, av⟩ ⟨ck, cv⟩ W
  have hw : (RV.lt ⟨ak, av⟩ ⟨bk, bv⟩ = true ∧ RV.lt ⟨bk, bv⟩ ⟨ak, av⟩ = false ∧ eqR ⟨ak, av⟩ ⟨bk, bv⟩ = false ∧ RV.lt ⟨bk, bv⟩ ⟨ck, cv⟩ = true ∧ RV.lt ⟨ak, av⟩ ⟨ck, cv⟩ = true) ∨ (RV.lt ⟨ak, av⟩ ⟨bk, bv⟩ = true ∧ RV.lt ⟨bk, bv⟩ ⟨ak, av⟩ = false ∧ eqR ⟨ak, av⟩ ⟨bk, bv⟩ = false ∧ RV.lt ⟨bk, bv⟩ ⟨ck, cv⟩ = false) ∨ (RV.lt ⟨ak, av⟩ ⟨bk, bv⟩ = false ∧ RV.lt ⟨bk, bv⟩ ⟨ak, av⟩ = true ∧ eqR ⟨ak, av⟩ ⟨bk, bv⟩ = false) ∨ (RV.lt ⟨ak, av⟩ ⟨bk, bv⟩ = false ∧ RV.lt ⟨bk, bv⟩ ⟨ak, av⟩ = false ∧ eqR ⟨ak, av⟩ ⟨bk, bv⟩ = true) := by
    cases h1 : RV.lt ⟨ak, av⟩ ⟨bk, bv⟩
    · cases h2 : RV.lt ⟨bk, bv⟩ ⟨ak, av⟩
      · exact .inr (.inr (.inr ⟨rfl, rfl, decide_eq_true (RV.tri h1 h2)⟩))
      · exact .inr (.inr (.inl ⟨rfl, rfl, decide_eq_false fun e => (by rw [e, RV.lt_irrefl] at h2; cases h2)⟩))
    · have h2 := RV.lt_asym h1
      have h3 : eqR ⟨ak, av⟩ ⟨bk, bv⟩ = false := decide_eq_false fun e => (by rw [e, RV.lt_irrefl] at h1; cases h1)
      cases h4 : RV.lt ⟨bk, bv⟩ ⟨ck, cv⟩
      · exact .inr (.inl ⟨rfl, h2, h3, rfl⟩)
      · exact .inl ⟨rfl, h2, h3, rfl, RV.lt_trans h1 h4⟩
  generalize RV.lt ⟨ak, av⟩ ⟨bk, bv⟩ = x at *
  generalize RV.lt ⟨bk, bv⟩ ⟨ak, av⟩ = y at *
  generalize RV.lt ⟨bk, bv⟩ ⟨ck, cv⟩ = z at *
  generalize RV.lt ⟨ak, av⟩ ⟨ck, cv⟩ = u at *
  have HWy := Lib.hid hw
  clear hw
  have HAW := Lib.hid bagAwake
  show Calls _ _ #[.agg #[.int .i64 ak, .int .i64 av], .agg #[.int .i64 bk, .int .i64 bv], .agg #[.int .i64 ck, .int .i64 cv], _] _ _
  go_enter Try.func6, Try.ntmps6
  go_wp2_with fail
  refine (HAW.out _).mono ?_
  rintro e w1 ⟨rfl, hb1⟩
  have hB0 : Below w.heap.size w (((w.alloc (.cells #[.int .i64 ak, .int .i64 av] 24)).alloc (.cells #[.int .i64 bk, .int .i64 bv] 24)).alloc (.cells #[.int .i64 ck, .int .i64 cv] 24)) := (((Below.refl _ w).alloc (Nat.le_refl _) _).alloc (by simp) _).alloc (by simp; omega) _
  have X1 := ((((Boxed.new w #[.int .i64 ak, .int .i64 av] 24).alloc (.cells #[.int .i64 bk, .int .i64 bv] 24)).alloc (.cells #[.int .i64 ck, .int .i64 cv] 24)).below hb1 (by simp; omega))
  have X2 := (((Boxed.new (w.alloc (.cells #[.int .i64 ak, .int .i64 av] 24)) #[.int .i64 bk, .int .i64 bv] 24).alloc (.cells #[.int .i64 ck, .int .i64 cv] 24)).below hb1 (by simp))
  have X3 := ((Boxed.new ((w.alloc (.cells #[.int .i64 ak, .int .i64 av] 24)).alloc (.cells #[.int .i64 bk, .int .i64 bv] 24)) #[.int .i64 ck, .int .i64 cv] 24).below hb1 (by simp))
  simp only [World.size_alloc] at X2 X3
  have HBx : Hid (∀ W, Below w1.heap.size w1 W → W.cell? ⟨w.heap.size, 0, none⟩ = some (.int .i64 ak) ∧ W.cell? ⟨w.heap.size, 1, none⟩ = some (.int .i64 av) ∧ W.cell? ⟨w.heap.size + 1, 0, none⟩ = some (.int .i64 bk) ∧ W.cell? ⟨w.heap.size + 1, 1, none⟩ = some (.int .i64 bv) ∧ W.cell? ⟨w.heap.size + 1 + 1, 0, none⟩ = some (.int .i64 ck) ∧ W.cell? ⟨w.heap.size + 1 + 1, 1, none⟩ = some (.int .i64 cv)) := fun W hW =>
    ⟨(X1.below hW X1.lt).two.1, (X1.below hW X1.lt).two.2, (X2.below hW X2.lt).two.1, (X2.below hW X2.lt).two.2, (X3.below hW X3.lt).two.1, (X3.below hW X3.lt).two.2⟩
  have HF := Lib.hid ((HA2.out.below hB0).below hb1)
  have HW1 := Lib.hid (hB0.trans (hb1.mono hB0.size))
  clear hb1 hB0 X1 X2 X3 HA2 HAW
  obtain ⟨r0, r1, s0, s1, t0, t1⟩ := HBx.out _ (Below.refl _ _)
  replace r0 := fun p => beh_cell r0 p
  replace r1 := fun p => beh_cell r1 p
  replace s0 := fun p => beh_cell s0 p
  replace s1 := fun p => beh_cell s1 p
  clear t0 t1
  go_wp2_with fail
  refine wp_region_beh (by kernel_rfl) (by kernel_rfl) ?_
  repeat (first | go_big_quiet_step (first | (with_reducible exact Calls.beh (HL1.out _)) | (with_reducible exact Calls.beh (HL2.out _))) | quiet_step (first | (with_reducible exact Calls.beh (HL1.out _)) | (with_reducible exact Calls.beh (HL2.out _))))
  refine wpQuiet_nil ?_
  intro _ hw'
  obtain ⟨g, hw''⟩ := hw'
  subst hw''
  have HW := Lib.hid g.h
  clear r0 r1 s0 s1
  generalize g.w = wq at *
  clear g
  obtain ⟨r0, r1, s0, s1, t0, t1⟩ := HBx.out _ HW.out
  rcases HWy.out with ⟨rfl, rfl, hq, rfl, rfl⟩ | ⟨rfl, rfl, hq, rfl⟩ | ⟨rfl, rfl, hq⟩ | ⟨rfl, rfl, hq⟩
  · go_wp2_with fail
    refine (HL3.out _).mono ?_
    rintro e w5 ⟨rfl, hb⟩
    have HW' := Lib.hid (HW.out.trans (hb.mono HW.out.size))
    clear HW
    have HW := HW'
    clear HW' hb
    obtain ⟨r0, r1, s0, s1, t0, t1⟩ := HBx.out _ HW.out
    go_wp2_with fail
    refine (HL4.out _).mono ?_
    rintro e w6 ⟨rfl, hb⟩
    have HW' := Lib.hid (HW.out.trans (hb.mono HW.out.size))
    clear HW
    have HW := HW'
    clear HW' hb
    obtain ⟨r0, r1, s0, s1, t0, t1⟩ := HBx.out _ HW.out
    go_wp2_with fail
    refine (HTh.out _ _ (HF.out.below HW.out)).mono ?_
    rintro e w7 ⟨vt, rfl, hO, hb⟩
    have HW7 := Lib.hid (HW.out.trans (hb.mono HW.out.size))
    have HI7 := Lib.hid hO.is
    have HCt := Lib.hid (ownCapI hO)
    obtain ⟨pt, ct, rfl⟩ := hO.is.slice
    clear hO hb HTh HW HF
    generalize hTl : T.length = nt at *
    clear hTl
    go_wp2_with fail
    refine (HTT.out _ _ HI7.out).mono ?_
    rintro e w8 ⟨v8, rfl, hO, hb⟩
    have HB8 := Lib.hid hb
    have HI8 := Lib.hid hO.is
    obtain ⟨p8, c8, rfl⟩ := hO.is.slice
    clear hO hb
    go_wp2_with fail
    refine (HSm.out _ _ _ HI8.out (HI7.out.below HB8.out)).mono ?_
    rintro e w9 ⟨rfl, hb⟩
    have HB9 := Lib.hid (HB8.out.trans (hb.mono HB8.out.size))
    clear hb HI8
    go_wp2_with fail
    refine (HRt.out _ _ (HI7.out.below HB9.out)).mono ?_
    rintro e w10 ⟨rfl, hb⟩
    have HB10 := Lib.hid (HB9.out.trans (hb.mono HB9.out.size))
    clear hb
    go_wp2_with fail
    refine (HP1.out _ _ HCt.out (HI7.out.below HB10.out)).mono ?_
    rintro e w11 ⟨v11, rfl, hI, hc, hb⟩
    have HB11 := Lib.hid (HB10.out.trans (hb.mono HB10.out.size))
    have HI11 := Lib.hid hI
    obtain ⟨p11, c11, rfl⟩ := hI.slice
    clear hI hc hb
    go_wp2_with fail
    refine (HSm.out _ _ _ HI11.out (HI7.out.below HB11.out)).mono ?_
    rintro e w12 ⟨rfl, hb⟩
    have HB12 := Lib.hid (HB11.out.trans (hb.mono HB11.out.size))
    clear hb HI11
    go_wp2_with fail
    refine (HP2.out _ _ HCt.out (HI7.out.below HB12.out)).mono ?_
    rintro e w13 ⟨v13, rfl, hI, hc, hb⟩
    have HB13 := Lib.hid (HB12.out.trans (hb.mono HB12.out.size))
    have HI13 := Lib.hid hI
    obtain ⟨p13, c13, rfl⟩ := hI.slice
    clear hI hc hb
    go_wp2_with fail
    refine (HSm.out _ _ _ HI13.out (HI7.out.below HB13.out)).mono ?_
    rintro e w14 ⟨rfl, hb⟩
    have HB14 := Lib.hid (HW7.out.trans ((HB13.out.trans (hb.mono HB13.out.size)).mono HW7.out.size))
    clear hb HI13
    go_wp2
    go_returns
    exact ⟨rfl, HW1.out.trans (HB14.out.mono HW1.out.size)⟩
  · go_wp2_with fail
    refine (HL3.out _).mono ?_
    rintro e w5 ⟨rfl, hb⟩
    have HW' := Lib.hid (HW.out.trans (hb.mono HW.out.size))
    clear HW
    have HW := HW'
    clear HW' hb
    obtain ⟨r0, r1, s0, s1, t0, t1⟩ := HBx.out _ HW.out
    go_wp2_with fail
    refine (HTh.out _ _ (HF.out.below HW.out)).mono ?_
    rintro e w7 ⟨vt, rfl, hO, hb⟩
    have HW7 := Lib.hid (HW.out.trans (hb.mono HW.out.size))
    have HI7 := Lib.hid hO.is
    have HCt := Lib.hid (ownCapI hO)
    obtain ⟨pt, ct, rfl⟩ := hO.is.slice
    clear hO hb HTh HW HF
    generalize hTl : T.length = nt at *
    clear hTl
    go_wp2_with fail
    refine (HTT.out _ _ HI7.out).mono ?_
    rintro e w8 ⟨v8, rfl, hO, hb⟩
    have HB8 := Lib.hid hb
    have HI8 := Lib.hid hO.is
    obtain ⟨p8, c8, rfl⟩ := hO.is.slice
    clear hO hb
    go_wp2_with fail
    refine (HSm.out _ _ _ HI8.out (HI7.out.below HB8.out)).mono ?_
    rintro e w9 ⟨rfl, hb⟩
    have HB9 := Lib.hid (HB8.out.trans (hb.mono HB8.out.size))
    clear hb HI8
    go_wp2_with fail
    refine (HRt.out _ _ (HI7.out.below HB9.out)).mono ?_
    rintro e w10 ⟨rfl, hb⟩
    have HB10 := Lib.hid (HB9.out.trans (hb.mono HB9.out.size))
    clear hb
    go_wp2_with fail
    refine (HP1.out _ _ HCt.out (HI7.out.below HB10.out)).mono ?_
    rintro e w11 ⟨v11, rfl, hI, hc, hb⟩
    have HB11 := Lib.hid (HB10.out.trans (hb.mono HB10.out.size))
    have HI11 := Lib.hid hI
    obtain ⟨p11, c11, rfl⟩ := hI.slice
    clear hI hc hb
    go_wp2_with fail
    refine (HSm.out _ _ _ HI11.out (HI7.out.below HB11.out)).mono ?_
    rintro e w12 ⟨rfl, hb⟩
    have HB12 := Lib.hid (HB11.out.trans (hb.mono HB11.out.size))
    clear hb HI11
    go_wp2_with fail
    refine (HP2.out _ _ HCt.out (HI7.out.below HB12.out)).mono ?_
    rintro e w13 ⟨v13, rfl, hI, hc, hb⟩
    have HB13 := Lib.hid (HB12.out.trans (hb.mono HB12.out.size))
    have HI13 := Lib.hid hI
    obtain ⟨p13, c13, rfl⟩ := hI.slice
    clear hI hc hb
    go_wp2_with fail
    refine (HSm.out _ _ _ HI13.out (HI7.out.below HB13.out)).mono ?_
    rintro e w14 ⟨rfl, hb⟩
    have HB14 := Lib.hid (HW7.out.trans ((HB13.out.trans (hb.mono HB13.out.size)).mono HW7.out.size))
    clear hb HI13
    go_wp2
    go_returns
    exact ⟨rfl, HW1.out.trans (HB14.out.mono HW1.out.size)⟩
  · go_wp2_with fail
    refine (HTh.out _ _ (HF.out.below HW.out)).mono ?_
    rintro e w7 ⟨vt, rfl, hO, hb⟩
    have HW7 := Lib.hid (HW.out.trans (hb.mono HW.out.size))
    have HI7 := Lib.hid hO.is
    have HCt := Lib.hid (ownCapI hO)
    obtain ⟨pt, ct, rfl⟩ := hO.is.slice
    clear hO hb HTh HW HF
    generalize hTl : T.length = nt at *
    clear hTl
    go_wp2_with fail
    refine (HTT.out _ _ HI7.out).mono ?_
    rintro e w8 ⟨v8, rfl, hO, hb⟩
    have HB8 := Lib.hid hb
    have HI8 := Lib.hid hO.is
    obtain ⟨p8, c8, rfl⟩ := hO.is.slice
    clear hO hb
    go_wp2_with fail
    refine (HSm.out _ _ _ HI8.out (HI7.out.below HB8.out)).mono ?_
    rintro e w9 ⟨rfl, hb⟩
    have HB9 := Lib.hid (HB8.out.trans (hb.mono HB8.out.size))
    clear hb HI8
    go_wp2_with fail
    refine (HRt.out _ _ (HI7.out.below HB9.out)).mono ?_
    rintro e w10 ⟨rfl, hb⟩
    have HB10 := Lib.hid (HB9.out.trans (hb.mono HB9.out.size))
    clear hb
    go_wp2_with fail
    refine (HP1.out _ _ HCt.out (HI7.out.below HB10.out)).mono ?_
    rintro e w11 ⟨v11, rfl, hI, hc, hb⟩
    have HB11 := Lib.hid (HB10.out.trans (hb.mono HB10.out.size))
    have HI11 := Lib.hid hI
    obtain ⟨p11, c11, rfl⟩ := hI.slice
    clear hI hc hb
    go_wp2_with fail
    refine (HSm.out _ _ _ HI11.out (HI7.out.below HB11.out)).mono ?_
    rintro e w12 ⟨rfl, hb⟩
    have HB12 := Lib.hid (HB11.out.trans (hb.mono HB11.out.size))
    clear hb HI11
    go_wp2_with fail
    refine (HP2.out _ _ HCt.out (HI7.out.below HB12.out)).mono ?_
    rintro e w13 ⟨v13, rfl, hI, hc, hb⟩
    have HB13 := Lib.hid (HB12.out.trans (hb.mono HB12.out.size))
    have HI13 := Lib.hid hI
    obtain ⟨p13, c13, rfl⟩ := hI.slice
    clear hI hc hb
    go_wp2_with fail
    refine (HSm.out _ _ _ HI13.out (HI7.out.below HB13.out)).mono ?_
    rintro e w14 ⟨rfl, hb⟩
    have HB14 := Lib.hid (HW7.out.trans ((HB13.out.trans (hb.mono HB13.out.size)).mono HW7.out.size))
    clear hb HI13
    go_wp2
    go_returns
    exact ⟨rfl, HW1.out.trans (HB14.out.mono HW1.out.size)⟩
  · go_wp2_with fail
    refine (HTh.out _ _ (HF.out.below HW.out)).mono ?_
    rintro e w7 ⟨vt, rfl, hO, hb⟩
    have HW7 := Lib.hid (HW.out.trans (hb.mono HW.out.size))
    have HI7 := Lib.hid hO.is
    have HCt := Lib.hid (ownCapI hO)
    obtain ⟨pt, ct, rfl⟩ := hO.is.slice
    clear hO hb HTh HW HF
    generalize hTl : T.length = nt at *
    clear hTl
    go_wp2_with fail
    refine (HTT.out _ _ HI7.out).mono ?_
    rintro e w8 ⟨v8, rfl, hO, hb⟩
    have HB8 := Lib.hid hb
    have HI8 := Lib.hid hO.is
    obtain ⟨p8, c8, rfl⟩ := hO.is.slice
    clear hO hb
    go_wp2_with fail
    refine (HSm.out _ _ _ HI8.out (HI7.out.below HB8.out)).mono ?_
    rintro e w9 ⟨rfl, hb⟩
    have HB9 := Lib.hid (HB8.out.trans (hb.mono HB8.out.size))
    clear hb HI8
    go_wp2_with fail
    refine (HRt.out _ _ (HI7.out.below HB9.out)).mono ?_
    rintro e w10 ⟨rfl, hb⟩
    have HB10 := Lib.hid (HB9.out.trans (hb.mono HB9.out.size))
    clear hb
    go_wp2_with fail
    refine (HP1.out _ _ HCt.out (HI7.out.below HB10.out)).mono ?_
    rintro e w11 ⟨v11, rfl, hI, hc, hb⟩
    have HB11 := Lib.hid (HB10.out.trans (hb.mono HB10.out.size))
    have HI11 := Lib.hid hI
    obtain ⟨p11, c11, rfl⟩ := hI.slice
    clear hI hc hb
    go_wp2_with fail
    refine (HSm.out _ _ _ HI11.out (HI7.out.below HB11.out)).mono ?_
    rintro e w12 ⟨rfl, hb⟩
    have HB12 := Lib.hid (HB11.out.trans (hb.mono HB11.out.size))
    clear hb HI11
    go_wp2_with fail
    refine (HP2.out _ _ HCt.out (HI7.out.below HB12.out)).mono ?_
    rintro e w13 ⟨v13, rfl, hI, hc, hb⟩
    have HB13 := Lib.hid (HB12.out.trans (hb.mono HB12.out.size))
    have HI13 := Lib.hid hI
    obtain ⟨p13, c13, rfl⟩ := hI.slice
    clear hI hc hb
    go_wp2_with fail
    refine (HSm.out _ _ _ HI13.out (HI7.out.below HB13.out)).mono ?_
    rintro e w14 ⟨rfl, hb⟩
    have HB14 := Lib.hid (HW7.out.trans ((HB13.out.trans (hb.mono HB13.out.size)).mono HW7.out.size))
    clear hb HI13
    go_wp2
    go_returns
    exact ⟨rfl, HW1.out.trans (HB14.out.mono HW1.out.size)⟩
end Go.Proofs.Ytmmojohjipmoaaa
