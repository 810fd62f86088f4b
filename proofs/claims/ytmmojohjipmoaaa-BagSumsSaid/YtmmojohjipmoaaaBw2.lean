/- the law BagSums -/
import Derived.Test.YtmmojohjipmoaaaBaw
import Derived.Test.YtmmojohjipmoaaaBi
import Derived.Deep.CutRange
import Derived.Deep.RegionHeldLaw
namespace Go.Proofs.Ytmmojohjipmoaaa
open Go.RowKit
set_option linter.unusedVariables false
set_option linter.unusedSimpArgs false
attribute [local go_sem ↓] eqRec neRec run_imin

/-- what is known behind the three bags -/
def SumCut (w1 : World) (X Y Z : List IV) (x y z : Value) (wx : World) : Prop := Below w1.heap.size w1 wx ∧ RI.Is wx x X ∧ RI.Is wx y Y ∧ RI.Is wx z Z ∧ capOk x ∧ capOk y ∧ capOk z
theorem cutRow {α : Type} [Inhabited α] {R : RowKind α} {w : World} {v : Value} {xs : List α} (ha : R.Is w v xs) (ca : capOk v) (b : Nat) (hb : 0 < b) :
    ∃ (p : Option Addr) (n m c : Nat), v = .slice p n c ∧ imin (n : Int) (b : Int) = (m : Int) ∧ m ≤ n ∧ m ≤ c ∧ m ≤ b ∧ (xs.take m).length ≤ b ∧ R.Is w (.slice p m c) (xs.take m) := by
  obtain ⟨p1, c1, rfl⟩ := ha.slice
  have k1 := ca _ _ _ rfl
  obtain ⟨m1, e1, l1, h1, z1⟩ := cutTo b xs.length hb
  exact ⟨p1, xs.length, m1, c1, rfl, e1, l1, by omega, h1, by rw [List.length_take]; omega, ha.cut m1 l1 z1⟩
set_option maxRecDepth 100000 in
set_option maxHeartbeats 8000000 in
theorem bagSums_walk (xa xb xc : List RV) (va vb vc : Value) (w : World) (ha : RR.Is w va xa) (hb : RR.Is w vb xb) (hc : RR.Is w vc xc) (ka : capOk va) (kb : capOk vb) (kc : capOk vc) :
    Calls Try.prog 5 #[va, vb, vc] w (Ret (.bool true) w) := by
  obtain ⟨pa, na, ma, ca, rfl, ea, ja, da, oa, la, HA⟩ := cutRow ha ka 100 (by decide)
  obtain ⟨pb, nb, mb, cb, rfl, eb, jb, db, ob, lb, HB⟩ := cutRow hb kb 100 (by decide)
  obtain ⟨pc, nc, mc, cc, rfl, ec, jc, dc, oc, lc, HC⟩ := cutRow hc kc 100 (by decide)
  have ea : imin (na : Int) 100 = (ma : Int) := ea
  have eb : imin (nb : Int) 100 = (mb : Int) := eb
  have ec : imin (nc : Int) 100 = (mc : Int) := ec
  have HA := Lib.hid HA; have HB := Lib.hid HB; have HC := Lib.hid HC
  clear ha hb hc ka kb kc ja jb jc
  have SP := Lib.hid (sum_is (A := xa.take ma) (B := xb.take mb) (C := xc.take mc) la lb lc)
  have gX := (ofI_is (xs := xa.take ma) (by omega)).1
  have gY := (ofI_is (xs := xb.take mb) (by omega)).1
  have gZ := (ofI_is (xs := xc.take mc) (by omega)).1
  have lX := (ofI_is (xs := xa.take ma) (by omega)).2.2
  have lY := (ofI_is (xs := xb.take mb) (by omega)).2.2
  have lZ := (ofI_is (xs := xc.take mc) (by omega)).2.2
  have HOA : Hid (∀ W, RR.Is W (.slice pa ma ca) (xa.take ma) → Calls Try.prog 21 #[.slice pa ma ca] W (RI.Made (ofI (xa.take ma)) W)) := fun W h => bof_any _ _ W (by omega) h
  have HOB : Hid (∀ W, RR.Is W (.slice pb mb cb) (xb.take mb) → Calls Try.prog 21 #[.slice pb mb cb] W (RI.Made (ofI (xb.take mb)) W)) := fun W h => bof_any _ _ W (by omega) h
  have HOC : Hid (∀ W, RR.Is W (.slice pc mc cc) (xc.take mc) → Calls Try.prog 21 #[.slice pc mc cc] W (RI.Made (ofI (xc.take mc)) W)) := fun W h => bof_any _ _ W (by omega) h
  have lna : (xa.take ma).length = ma := by obtain ⟨_, _, e⟩ := HA.out.slice; simp only [Value.slice.injEq] at e; exact e.2.1.symm
  have lnb : (xb.take mb).length = mb := by obtain ⟨_, _, e⟩ := HB.out.slice; simp only [Value.slice.injEq] at e; exact e.2.1.symm
  have lnc : (xc.take mc).length = mc := by obtain ⟨_, _, e⟩ := HC.out.slice; simp only [Value.slice.injEq] at e; exact e.2.1.symm
  generalize ofI (xa.take ma) = X at *
  generalize ofI (xb.take mb) = Y at *
  generalize ofI (xc.take mc) = Z at *
  generalize xa.take ma = A at *
  generalize xb.take mb = B at *
  generalize xc.take mc = C at *
  have hLn : (listL (plusI (plusI X Y) Z)).length = ma + mb + mc := by rw [SP.out.len, lna, lnb, lnc]
  have HLn := Lib.hid hLn
  have l1 := plusI_len X Y
  have l2 := plusI_len (plusI X Y) Z
  have l3 := plusI_len Z Y
  have g1 := (plusI_is gX gY).good
  have g2 := (plusI_is g1 gZ).good
  have m1 := (minus_is g2 gY).2.2
  have g6 := (minus_is gY gX).1
  have m6 := (minus_is gY gX).2.2
  have m5 := (minus_is gX gY).2.2
  have HPlus := Lib.hid (fun (W : World) (u v : Value) (L M : List IV) (h1 : L.length ≤ 400000) (h2 : M.length ≤ 400000) (c1 : capOk u) (c2 : capOk v) (i1 : RI.Is W u L) (i2 : RI.Is W v M) => bplus_any L M u v W h1 h2 c1 c2 i1 i2)
  have HMin := Lib.hid (fun (W : World) (u v : Value) (L M : List IV) (h1 : L.length ≤ 400000) (h2 : M.length ≤ 400000) (h3 : in64 M) (c1 : capOk u) (i1 : RI.Is W u L) (i2 : RI.Is W v M) => bminus_any L M u v W h1 h2 h3 c1 i1 i2)
  have HSame := Lib.hid (fun (W : World) (u v : Value) (L M : List IV) (h1 : L.length ≤ 900000) (h2 : M.length ≤ 900000) (i1 : RI.Is W u L) (i2 : RI.Is W v M) => bsame_any L M u v W h1 h2 i1 i2)
  have LX : Hid (X.length ≤ 400000) := by show _ ≤ _; omega
  have LY : Hid (Y.length ≤ 400000) := by show _ ≤ _; omega
  have LZ : Hid (Z.length ≤ 400000) := by show _ ≤ _; omega
  have LP : Hid ((plusI X Y).length ≤ 400000) := by show _ ≤ _; omega
  have LL : Hid ((plusI (plusI X Y) Z).length ≤ 400000) := by show _ ≤ _; omega
  have LQ : Hid ((plusI Z Y).length ≤ 400000) := by show _ ≤ _; omega
  have LG : Hid ((minusI (plusI (plusI X Y) Z) Y).length ≤ 400000) := by show _ ≤ _; omega
  have LD : Hid ((minusI X Y).length ≤ 400000) := by show _ ≤ _; omega
  have LE : Hid ((minusI Y X).length ≤ 400000) := by show _ ≤ _; omega
  have IX := Lib.hid (good_in64 gX); have IY := Lib.hid (good_in64 gY); have IE := Lib.hid (good_in64 g6)
  have LN : Hid ((listL (plusI (plusI X Y) Z)).length ≤ 900000) := by show _ ≤ _; omega
  clear lX lY lZ l1 l2 l3 g1 g2 m1 g6 m6 m5 gX gY gZ la lb lc lna lnb lnc hLn
  have HAW := Lib.hid bagAwake
  go_enter Try.func5, Try.ntmps5
  go_wp2_with fail
  refine (HAW.out _).mono ?_
  rintro e w1 ⟨rfl, hb1⟩
  have HA1 := Lib.hid (HA.out.below hb1); have HB1 := Lib.hid (HB.out.below hb1); have HC1 := Lib.hid (HC.out.below hb1)
  have HW1 := Lib.hid hb1
  clear hb1 HA HB HC HAW
  go_upto_region 3 with (fail)
  go_cut [7, 8, 9] from 17 to 34 (fun x y z wx => SumCut w1 X Y Z x y z wx)
  case first =>
    have hc : Below w1.heap.size w1 w1.drew := (Below.refl _ _).drew
    go_region_held_law (fun _ => True) (exact trivial) (first
      | (go_at_call 21; (with_reducible refine Calls.mono (HOA.out _ (HA1.out.below hc)) ?_); rintro e wa ⟨va, rfl, hOa, hba⟩; have hCa := ownCapI hOa; have hIa := hOa.is; (try replace hIb := hIb.below hba); (try replace hIc := hIc.below hba); replace hc := bcall hc hba hc.size; clear hOa hba)
      | (go_at_call 21; (with_reducible refine Calls.mono (HOB.out _ (HB1.out.below hc)) ?_); rintro e wb ⟨vb, rfl, hOb, hbb⟩; have hCb := ownCapI hOb; have hIb := hOb.is; (try replace hIa := hIa.below hbb); (try replace hIc := hIc.below hbb); replace hc := bcall hc hbb hc.size; clear hOb hbb)
      | (go_at_call 21; (with_reducible refine Calls.mono (HOC.out _ (HC1.out.below hc)) ?_); rintro e wc ⟨vc, rfl, hOc, hbc⟩; have hCc := ownCapI hOc; have hIc := hOc.is; (try replace hIa := hIa.below hbc); (try replace hIb := hIb.below hbc); replace hc := bcall hc hbc hc.size; clear hOc hbc))
    all_goals
      try simp only [List.getElem_toArray, List.getElem_cons_succ, List.getElem_cons_zero, Act.put, List.setIfInBounds_toArray, List.set_cons_zero, List.set_cons_succ]
      go_wp2_with fail
      go_meet
      case rel => exact ⟨hc, hIa, hIb, hIc, hCa, hCb, hCc⟩
  case rest =>
    obtain ⟨hW, hx, hy, hz, cx, cy, cz⟩ := hcut
    have HW := Lib.hid hW; have Ix := Lib.hid hx; have Iy := Lib.hid hy; have Iz := Lib.hid hz; have Cx := Lib.hid cx; have Cy := Lib.hid cy; have Cz := Lib.hid cz
    clear hW hx hy hz cx cy cz HOA HOB HOC HA1 HB1 HC1
    go_wp2_with fail
    refine (HPlus.out _ _ _ X Y LX.out LY.out Cx.out Cy.out Ix.out Iy.out).mono ?_
    rintro e w21 ⟨vp, rfl, hI, hC, hb⟩
    skip
    replace Ix := Lib.hid (Ix.out.below hb)
    replace Iy := Lib.hid (Iy.out.below hb)
    replace Iz := Lib.hid (Iz.out.below hb)
    replace HW := Lib.hid (HW.out.trans (hb.mono HW.out.size))
    have Ip := Lib.hid hI; have Cp := Lib.hid hC
    clear hI hC hb
    go_wp2_with fail
    refine (HPlus.out _ _ _ (plusI X Y) Z LP.out LZ.out Cp.out Cz.out Ip.out Iz.out).mono ?_
    rintro e w22 ⟨vl, rfl, hI, hC, hb⟩
    skip
    replace Ix := Lib.hid (Ix.out.below hb)
    replace Iy := Lib.hid (Iy.out.below hb)
    replace Iz := Lib.hid (Iz.out.below hb)
    replace Ip := Lib.hid (Ip.out.below hb)
    replace HW := Lib.hid (HW.out.trans (hb.mono HW.out.size))
    have Il := Lib.hid hI; have Cl := Lib.hid hC
    clear hI hC hb
    clear Ip
    go_wp2_with fail
    refine (HPlus.out _ _ _ Z Y LZ.out LY.out Cz.out Cy.out Iz.out Iy.out).mono ?_
    rintro e w23 ⟨vq, rfl, hI, hC, hb⟩
    skip
    replace Ix := Lib.hid (Ix.out.below hb)
    replace Iy := Lib.hid (Iy.out.below hb)
    replace Iz := Lib.hid (Iz.out.below hb)
    replace Il := Lib.hid (Il.out.below hb)
    replace HW := Lib.hid (HW.out.trans (hb.mono HW.out.size))
    have Iq := Lib.hid hI; have Cq := Lib.hid hC
    clear hI hC hb
    go_wp2_with fail
    refine (HPlus.out _ _ _ X (plusI Z Y) LX.out LQ.out Cx.out Cq.out Ix.out Iq.out).mono ?_
    rintro e w24 ⟨vr, rfl, hI, hC, hb⟩
    rw [SP.out.same] at hI
    replace Ix := Lib.hid (Ix.out.below hb)
    replace Iy := Lib.hid (Iy.out.below hb)
    replace Iz := Lib.hid (Iz.out.below hb)
    replace Il := Lib.hid (Il.out.below hb)
    replace Iq := Lib.hid (Iq.out.below hb)
    replace HW := Lib.hid (HW.out.trans (hb.mono HW.out.size))
    have Ir := Lib.hid hI; have Cr := Lib.hid hC
    clear hI hC hb
    clear Iq
    go_wp2_with fail
    refine (HMin.out _ _ _ (plusI (plusI X Y) Z) Y LL.out LY.out IY.out Cl.out Il.out Iy.out).mono ?_
    rintro e w25 ⟨vg, rfl, hI, hC, hb⟩
    skip
    replace Ix := Lib.hid (Ix.out.below hb)
    replace Iy := Lib.hid (Iy.out.below hb)
    replace Iz := Lib.hid (Iz.out.below hb)
    replace Il := Lib.hid (Il.out.below hb)
    replace Ir := Lib.hid (Ir.out.below hb)
    replace HW := Lib.hid (HW.out.trans (hb.mono HW.out.size))
    have Ig := Lib.hid hI; have Cg := Lib.hid hC
    clear hI hC hb
    go_wp2_with fail
    refine (HMin.out _ _ _ (minusI (plusI (plusI X Y) Z) Y) X LG.out LX.out IX.out Cg.out Ig.out Ix.out).mono ?_
    rintro e w26 ⟨vh, rfl, hI, hC, hb⟩
    rw [SP.out.gone] at hI
    replace Ix := Lib.hid (Ix.out.below hb)
    replace Iy := Lib.hid (Iy.out.below hb)
    replace Iz := Lib.hid (Iz.out.below hb)
    replace Il := Lib.hid (Il.out.below hb)
    replace Ir := Lib.hid (Ir.out.below hb)
    replace Ig := Lib.hid (Ig.out.below hb)
    replace HW := Lib.hid (HW.out.trans (hb.mono HW.out.size))
    have Ih := Lib.hid hI; have Ch := Lib.hid hC
    clear hI hC hb
    clear Ig
    have hcall := blist_any (plusI (plusI X Y) Z) vl _ (Nat.le_trans LL.out (by decide)) Il.out
    unfold MadeL at hcall
    rw [SP.out.ok] at hcall
    have HCall := Lib.hid hcall
    clear hcall
    go_wp2_with fail
    refine (HCall.out).mono ?_
    rintro e w27 ⟨vn, rfl, hO, hb⟩
    replace Ix := Lib.hid (Ix.out.below hb)
    replace Iy := Lib.hid (Iy.out.below hb)
    replace Iz := Lib.hid (Iz.out.below hb)
    replace Il := Lib.hid (Il.out.below hb)
    replace Ir := Lib.hid (Ir.out.below hb)
    replace Ih := Lib.hid (Ih.out.below hb)
    replace HW := Lib.hid (HW.out.trans (hb.mono HW.out.size))
    have In := Lib.hid hO.is
    have hsl := hO.is.slice
    rw [HLn.out] at hsl
    obtain ⟨pn, cn, rfl⟩ := hsl
    clear hO hb HCall
    have hcall := HSame.out _ vl vr (plusI (plusI X Y) Z) (plusI (plusI X Y) Z) (Nat.le_trans LL.out (by decide)) (Nat.le_trans LL.out (by decide)) Il.out Ir.out
    rw [decide_eq_true rfl] at hcall
    have HCall := Lib.hid hcall
    clear hcall
    go_wp2_with fail
    refine (HCall.out).mono ?_
    rintro e w28 ⟨rfl, hb⟩
    replace Ix := Lib.hid (Ix.out.below hb)
    replace Iy := Lib.hid (Iy.out.below hb)
    replace Iz := Lib.hid (Iz.out.below hb)
    replace Il := Lib.hid (Il.out.below hb)
    replace Ir := Lib.hid (Ir.out.below hb)
    replace Ih := Lib.hid (Ih.out.below hb)
    replace In := Lib.hid (In.out.below hb)
    replace HW := Lib.hid (HW.out.trans (hb.mono HW.out.size))
    clear hb HCall
    clear Ir
    have hcall := HSame.out _ vh _ Z Z (Nat.le_trans LZ.out (by decide)) (Nat.le_trans LZ.out (by decide)) Ih.out Iz.out
    rw [decide_eq_true rfl] at hcall
    have HCall := Lib.hid hcall
    clear hcall
    go_wp2_with fail
    refine (HCall.out).mono ?_
    rintro e w29 ⟨rfl, hb⟩
    replace Ix := Lib.hid (Ix.out.below hb)
    replace Iy := Lib.hid (Iy.out.below hb)
    replace Iz := Lib.hid (Iz.out.below hb)
    replace Il := Lib.hid (Il.out.below hb)
    replace Ih := Lib.hid (Ih.out.below hb)
    replace In := Lib.hid (In.out.below hb)
    replace HW := Lib.hid (HW.out.trans (hb.mono HW.out.size))
    clear hb HCall
    clear Ih Iz
    go_wp2_with fail
    refine (HMin.out _ _ _ X X LX.out LX.out IX.out Cx.out Ix.out Ix.out).mono ?_
    rintro e w30 ⟨v0, rfl, hI, hC, hb⟩
    replace Ix := Lib.hid (Ix.out.below hb)
    replace Iy := Lib.hid (Iy.out.below hb)
    replace Il := Lib.hid (Il.out.below hb)
    replace In := Lib.hid (In.out.below hb)
    replace HW := Lib.hid (HW.out.trans (hb.mono HW.out.size))
    rw [SP.out.none] at hI
    obtain ⟨p0, c0, rfl⟩ := hI.slice
    simp only [List.length_nil]
    clear hI hC hb
    have hcall := bright_any (plusI (plusI X Y) Z) vl _ (Nat.le_trans LL.out (by decide)) Il.out
    rw [SP.out.right] at hcall
    have HCall := Lib.hid hcall
    clear hcall
    go_wp2_with fail
    refine (HCall.out).mono ?_
    rintro e w31 ⟨rfl, hb⟩
    replace Ix := Lib.hid (Ix.out.below hb)
    replace Iy := Lib.hid (Iy.out.below hb)
    replace Il := Lib.hid (Il.out.below hb)
    replace In := Lib.hid (In.out.below hb)
    replace HW := Lib.hid (HW.out.trans (hb.mono HW.out.size))
    clear hb HCall
    have hcall := bof_any (listL (plusI (plusI X Y) Z)) (.slice pn (ma + mb + mc) cn) _ LN.out In.out
    rw [SP.out.back] at hcall
    have HCall := Lib.hid hcall
    clear hcall
    go_wp2_with fail
    refine (HCall.out).mono ?_
    rintro e w32 ⟨vo, rfl, hO, hb⟩
    replace Ix := Lib.hid (Ix.out.below hb)
    replace Iy := Lib.hid (Iy.out.below hb)
    replace Il := Lib.hid (Il.out.below hb)
    replace In := Lib.hid (In.out.below hb)
    replace HW := Lib.hid (HW.out.trans (hb.mono HW.out.size))
    have Io := Lib.hid hO.is
    clear hO hb HCall
    clear In
    have hcall := HSame.out _ vo vl (plusI (plusI X Y) Z) (plusI (plusI X Y) Z) (Nat.le_trans LL.out (by decide)) (Nat.le_trans LL.out (by decide)) Io.out Il.out
    rw [decide_eq_true rfl] at hcall
    have HCall := Lib.hid hcall
    clear hcall
    go_wp2_with fail
    refine (HCall.out).mono ?_
    rintro e w33 ⟨rfl, hb⟩
    replace Ix := Lib.hid (Ix.out.below hb)
    replace Iy := Lib.hid (Iy.out.below hb)
    replace Il := Lib.hid (Il.out.below hb)
    replace Io := Lib.hid (Io.out.below hb)
    replace HW := Lib.hid (HW.out.trans (hb.mono HW.out.size))
    clear hb HCall
    clear Io Il
    go_wp2_with fail
    refine (HMin.out _ _ _ X Y LX.out LY.out IY.out Cx.out Ix.out Iy.out).mono ?_
    rintro e w34 ⟨vd, rfl, hI, hC, hb⟩
    skip
    replace Ix := Lib.hid (Ix.out.below hb)
    replace Iy := Lib.hid (Iy.out.below hb)
    replace HW := Lib.hid (HW.out.trans (hb.mono HW.out.size))
    have Id := Lib.hid hI; have Cd := Lib.hid hC
    clear hI hC hb
    go_wp2_with fail
    refine (HMin.out _ _ _ Y X LY.out LX.out IX.out Cy.out Iy.out Ix.out).mono ?_
    rintro e w35 ⟨ve, rfl, hI, hC, hb⟩
    skip
    replace Ix := Lib.hid (Ix.out.below hb)
    replace Iy := Lib.hid (Iy.out.below hb)
    replace Id := Lib.hid (Id.out.below hb)
    replace HW := Lib.hid (HW.out.trans (hb.mono HW.out.size))
    have Ie := Lib.hid hI; have Ce := Lib.hid hC
    clear hI hC hb
    clear Ix Iy
    go_wp2_with fail
    refine (HMin.out _ (.slice none 0 0) _ [] (minusI Y X) (by decide) LE.out IE.out (fun p n c e => by cases e; exact Nat.le_refl _) (RowKind.Is.nil _) Ie.out).mono ?_
    rintro e w36 ⟨vf, rfl, hI, hC, hb⟩
    rw [SP.out.turn] at hI
    replace Id := Lib.hid (Id.out.below hb)
    replace Ie := Lib.hid (Ie.out.below hb)
    replace HW := Lib.hid (HW.out.trans (hb.mono HW.out.size))
    have If := Lib.hid hI; have Cf := Lib.hid hC
    clear hI hC hb
    have hcall := HSame.out _ vd vf (minusI X Y) (minusI X Y) (Nat.le_trans LD.out (by decide)) (Nat.le_trans LD.out (by decide)) Id.out If.out
    rw [decide_eq_true rfl] at hcall
    have HCall := Lib.hid hcall
    clear hcall
    go_wp2_with fail
    refine (HCall.out).mono ?_
    rintro e w37 ⟨rfl, hb⟩
    replace Id := Lib.hid (Id.out.below hb)
    replace Ie := Lib.hid (Ie.out.below hb)
    replace If := Lib.hid (If.out.below hb)
    replace HW := Lib.hid (HW.out.trans (hb.mono HW.out.size))
    clear hb HCall
    go_wp2
    go_returns
    exact ⟨rfl, HW1.out.trans (HW.out.mono HW1.out.size)⟩
end Go.Proofs.Ytmmojohjipmoaaa
