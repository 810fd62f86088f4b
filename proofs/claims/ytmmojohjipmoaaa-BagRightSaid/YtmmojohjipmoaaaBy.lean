/- the law BagRight -/
import Derived.Test.YtmmojohjipmoaaaBaw
import Derived.Test.YtmmojohjipmoaaaBre
import Derived.Test.YtmmojohjipmoaaaBx
import Derived.Deep.CutRange
import Derived.Deep.RegionHeldLaw
namespace Go.Proofs.Ytmmojohjipmoaaa
open Go.RowKit
set_option linter.unusedVariables false
set_option linter.unusedSimpArgs false
attribute [local go_sem ↓] run_imin

set_option maxRecDepth 100000 in
set_option maxHeartbeats 8000000 in
theorem bagRight_walk (xa xb : List IV) (r s : RV) (n : Int) (n1 : -9223372036854775808 ≤ n) (n2 : n ≤ 9223372036854775807) (va vb : Value) (w : World) (ha : RI.Is w va xa) (hb : RI.Is w vb xb) (ka : capOk va) (kb : capOk vb)
    (_hn : ∀ x ∈ xa, -9223372036854775808 ≤ x.n ∧ x.n ≤ 9223372036854775807) (hn : ∀ x ∈ xb, -9223372036854775808 ≤ x.n ∧ x.n ≤ 9223372036854775807) :
    Calls Try.prog 3 #[va, vb, r.val, s.val, .int .i64 n] w (Ret (.bool true) w) := by
  obtain ⟨pa, na, ma, ca, rfl, ea, ja, da, oa, la, HA⟩ := cutRow2 ha ka 60 (by decide)
  obtain ⟨pb, nb, mb, cb, rfl, eb, jb, db, ob, lb, HB⟩ := cutRow2 hb kb 60 (by decide)
  have ea : imin (na : Int) 60 = (ma : Int) := ea
  have eb : imin (nb : Int) 60 = (mb : Int) := eb
  have hB64 : in64 (xb.take mb) := fun c hc => hn c (List.mem_of_mem_take hc)
  have HA := Lib.hid HA; have HB := Lib.hid HB
  clear ha hb ka kb ja jb _hn hn
  generalize xa.take ma = A at *
  generalize xb.take mb = B at *
  obtain ⟨rk, rv⟩ := r
  obtain ⟨sk, sv⟩ := s
  have HLs : Hid (∀ W, Calls Try.prog 8 #[.agg #[.int .i64 rk, .int .i64 rv], .agg #[.int .i64 sk, .int .i64 sv]] W (Ret (.bool (RV.lt ⟨rk, rv⟩ ⟨sk, sv⟩)) W)) := fun W => bless_any ⟨rk, rv⟩ ⟨sk, sv⟩ W
  have HrLs : Hid (∀ W, Calls Try.prog 9 #[.agg #[.int .i64 rk, .int .i64 rv], .agg #[.int .i64 sk, .int .i64 sv]] W (Ret (.bool (RV.lt ⟨rk, rv⟩ ⟨sk, sv⟩)) W)) := fun W => rless_any ⟨rk, rv⟩ ⟨sk, sv⟩ W
  have HRt0 := Lib.hid (fun W v (h : RI.Is W v A) => bright_any A v W (by omega) h)
  have HrRt := Lib.hid (fun W (h : RI.Is W (.slice pa ma ca) A) => rright_any A (.slice pa ma ca) W (by omega) h)
  have HAd0 : Hid (∀ W v, capOk v → RI.Is W v A → Calls Try.prog 13 #[v, .agg #[.int .i64 rk, .int .i64 rv], .int .i64 n] W (AnsI (addI A ⟨rk, rv⟩ n) W)) := fun W v h k => badd_any A ⟨rk, rv⟩ n v W (by omega) h k
  have HrAd : Hid (∀ W, RI.Is W (.slice pa ma ca) A → Calls Try.prog 14 #[.slice pa ma ca, .agg #[.int .i64 rk, .int .i64 rv], .int .i64 n] W (RI.Made (addI A ⟨rk, rv⟩ n) W)) := fun W h => radd_any A ⟨rk, rv⟩ n _ W (by omega) ⟨n1, n2⟩ h
  have lAd := addI_len A ⟨rk, rv⟩ n
  have lP := plusI_len A B
  have lM : (minusI A B).length ≤ A.length + B.length := by have q := plusI_len A (B.map negI); rw [List.length_map] at q; exact q
  have lT := thereI_len A
  have sm : ∀ L : List IV, L.length ≤ 900000 → Hid (∀ W u v, RI.Is W u L → RI.Is W v L → Calls Try.prog 12 #[u, v] W (Ret (.bool true) W)) := fun L hL W u v h k => by
    have q := rsame_any L L u v W hL hL h k
    rw [decide_eq_true rfl] at q
    exact q
  have HSm1 := sm (addI A ⟨rk, rv⟩ n) (by omega)
  have HSmP := sm (plusI A B) (by omega)
  have HSmM := sm (minusI A B) (by omega)
  have HSmT := sm (thereI A) (by omega)
  have HSmA := sm A (by omega)
  clear sm
  have HPl := Lib.hid (fun W u v (c1 : capOk u) (c2 : capOk v) (h : RI.Is W u A) (k : RI.Is W v B) => bplus_any A B u v W (by omega) (by omega) c1 c2 h k)
  have HJ1 := Lib.hid (fun W u v (h : RI.Is W u A) (k : RI.Is W v B) => rjoin_any A B 1 (.inl rfl) u v W (by omega) (by omega) h k)
  have HMi := Lib.hid (fun W u v (c1 : capOk u) (h : RI.Is W u A) (k : RI.Is W v B) => bminus_any A B u v W (by omega) (by omega) hB64 c1 h k)
  have HJ2 := Lib.hid (fun W u v (h : RI.Is W u A) (k : RI.Is W v B) => rjoin_any A B (-1) (.inr rfl) u v W (by omega) (by omega) h k)
  rw [join_plus] at HJ1
  rw [join_minus hB64] at HJ2
  have HS := Lib.hid (fun W u v (h : RI.Is W u A) (k : RI.Is W v B) => bsame_any A B u v W (by omega) (by omega) h k)
  have HrS := Lib.hid (fun W u v (h : RI.Is W u A) (k : RI.Is W v B) => rsame_any A B u v W (by omega) (by omega) h k)
  have HTh := Lib.hid (fun W u (h : RI.Is W u A) => bthere_any A u W (by omega) h)
  have HrTh := Lib.hid (fun W u (h : RI.Is W u A) => rthere_any A u W (by omega) h)
  have HL1 : Hid (([] : List IV).length + A.length ≤ 1000000) := by show _ ≤ _; simp; omega
  clear lAd lP lM lT hB64 la lb n1 n2
  generalize addI A ⟨rk, rv⟩ n = R1 at *
  generalize plusI A B = R2 at *
  generalize minusI A B = R3 at *
  generalize thereI A = R4 at *
  generalize decide (A = B) = sb at *
  generalize rightI A = q at *
  generalize RV.lt ⟨rk, rv⟩ ⟨sk, sv⟩ = x at *
  have HAW := Lib.hid bagAwake
  show Calls _ _ #[_, _, .agg #[.int .i64 rk, .int .i64 rv], .agg #[.int .i64 sk, .int .i64 sv], _] _ _
  go_enter Try.func3, Try.ntmps3
  go_wp2_with fail
  refine (HAW.out _).mono ?_
  rintro e w1 ⟨rfl, hb1⟩
  have hB0 : Below w.heap.size w ((w.alloc (.cells #[.int .i64 rk, .int .i64 rv] 24)).alloc (.cells #[.int .i64 sk, .int .i64 sv] 24)) := ((Below.refl _ w).alloc (Nat.le_refl _) _).alloc (by simp) _
  have X1 := (((Boxed.new w #[.int .i64 rk, .int .i64 rv] 24).alloc (.cells #[.int .i64 sk, .int .i64 sv] 24)).below hb1 (by simp; omega))
  have X2 := ((Boxed.new (w.alloc (.cells #[.int .i64 rk, .int .i64 rv] 24)) #[.int .i64 sk, .int .i64 sv] 24).below hb1 (by simp))
  simp only [World.size_alloc] at X2
  have HBx : Hid (∀ W, Below w1.heap.size w1 W → W.cell? ⟨w.heap.size, 0, none⟩ = some (.int .i64 rk) ∧ W.cell? ⟨w.heap.size, 1, none⟩ = some (.int .i64 rv) ∧ W.cell? ⟨w.heap.size + 1, 0, none⟩ = some (.int .i64 sk) ∧ W.cell? ⟨w.heap.size + 1, 1, none⟩ = some (.int .i64 sv)) := fun W hW => ⟨(X1.below hW X1.lt).two.1, (X1.below hW X1.lt).two.2, (X2.below hW X2.lt).two.1, (X2.below hW X2.lt).two.2⟩
  have HA1 := Lib.hid ((HA.out.below hB0).below hb1)
  have HB1 := Lib.hid ((HB.out.below hB0).below hb1)
  have HW1 := Lib.hid (hB0.trans (hb1.mono hB0.size))
  clear hb1 hB0 X1 X2 HA HB HAW
  go_wp2_with fail
  go_quiet (fail)
  refine gen_q (fun W2 => Below w1.heap.size w1 W2) (below_drewN (Below.refl _ _) _) ?_
  rintro w2 hb2
  have HA2 := Lib.hid (HA1.out.below hb2); have HB2 := Lib.hid (HB1.out.below hb2)
  have HO0 := Lib.hid (show RI.Own w2.heap.size (w2.alloc (.cells #[] 43)) (.slice (some ⟨w2.heap.size, 0, none⟩) 0 0) [] from World.ownsRow_made w2 #[] 0 (Nat.le_refl _) (Nat.zero_le _) rfl)
  have HBe := Lib.hid ((Below.refl w2.heap.size w2).alloc (Nat.le_refl _) (.cells #[] 43))
  have HZe := Lib.hid HBe.out.size
  have HA3 := Lib.hid (HA2.out.below HBe.out)
  have HWa := Lib.hid hb2
  clear hb2 HA1 HB1
  go_upto_region 5 with (at_builtin; refine RowKind.Own.appendAny (R := RI) (ys := A) HO0.out HBe.out HZe.out rfl _ _ rfl rfl rfl HA3.out HL1.out ?_; intro v4 w4 hO4 hB4 hz4)
  have HM : Hid (RI.Is w4 v4 A) := hO4.is
  have HCm : Hid (capOk v4) := ownCapI hO4
  have HA4 := Lib.hid (HA2.out.below hB4); have HB4 := Lib.hid (HB2.out.below hB4)
  have HWb := Lib.hid (HWa.out.trans (hB4.mono HWa.out.size))
  have HRt := Lib.hid (fun W (h : RI.Is W v4 A) => HRt0.out W v4 h)
  have HAd := Lib.hid (fun W (h : RI.Is W v4 A) => HAd0.out W v4 HCm.out h)
  have HB5 := Lib.hid (fun W (hW : Below w4.heap.size w4 W) => HBx.out W (HWb.out.trans (hW.mono HWb.out.size)))
  clear hO4 hB4 hz4 HO0 HBe HZe HA3 HA2 HB2 HL1 HRt0 HAd0 HBx HWa
  go_cut [52] from 27 to 52 (fun c wx => c = .bool false ∧ Below w4.heap.size w4 wx)
  case first =>
    have hc : Below w4.heap.size w4 w4.drew := (Below.refl _ _).drew
    obtain ⟨r0, r1, s0, s1⟩ := HB5.out w4 (Below.refl _ _)
    go_region_held_law (fun w' => w'.cell? ⟨w.heap.size, 0, none⟩ = some (.int .i64 rk) ∧ w'.cell? ⟨w.heap.size, 1, none⟩ = some (.int .i64 rv) ∧ w'.cell? ⟨w.heap.size + 1, 0, none⟩ = some (.int .i64 sk) ∧ w'.cell? ⟨w.heap.size + 1, 1, none⟩ = some (.int .i64 sv)) (first | exact HB5.out _ hc | go_keep) (first
    | (go_at_call 12; (with_reducible refine Calls.mono (HSm1.out _ _ _ hI1 hI2) ?_); rintro e wn ⟨rfl, hb⟩; (try replace hI1 := hI1.below hb); (try replace hI2 := hI2.below hb); replace hc := bcall hc hb hc.size; clear hb)
    | (go_at_call 8; (with_reducible refine Calls.mono (HLs.out _) ?_); rintro e wn ⟨rfl, hb⟩; (try replace hI1 := hI1.below hb); (try replace hI2 := hI2.below hb); replace hc := bcall hc hb hc.size; clear hb)
    | (go_at_call 9; (with_reducible refine Calls.mono (HrLs.out _) ?_); rintro e wn ⟨rfl, hb⟩; (try replace hI1 := hI1.below hb); (try replace hI2 := hI2.below hb); replace hc := bcall hc hb hc.size; clear hb)
    | (go_at_call 10; (with_reducible refine Calls.mono (HRt.out _ (HM.out.below hc)) ?_); rintro e wn ⟨rfl, hb⟩; (try replace hI1 := hI1.below hb); (try replace hI2 := hI2.below hb); replace hc := bcall hc hb hc.size; clear hb)
    | (go_at_call 11; (with_reducible refine Calls.mono (HrRt.out _ (HA4.out.below hc)) ?_); rintro e wn ⟨rfl, hb⟩; (try replace hI1 := hI1.below hb); (try replace hI2 := hI2.below hb); replace hc := bcall hc hb hc.size; clear hb)
    | (go_at_call 13; (with_reducible refine Calls.mono (HAd.out _ (HM.out.below hc)) ?_); rintro e wn ⟨v1, rfl, hJ, _, hb⟩; (try replace hI1 := hI1.below hb); (try replace hI2 := hI2.below hb); have hI1 := hJ; clear hJ; replace hc := bcall hc hb hc.size; clear hb)
    | (go_at_call 14; (with_reducible refine Calls.mono (HrAd.out _ (HA4.out.below hc)) ?_); rintro e wn ⟨v2, rfl, hJ, hb⟩; (try replace hI1 := hI1.below hb); (try replace hI2 := hI2.below hb); have hI2 := hJ.is; clear hJ; replace hc := bcall hc hb hc.size; clear hb))
    all_goals
      try simp only [List.getElem_toArray, List.getElem_cons_succ, List.getElem_cons_zero, Act.put, List.setIfInBounds_toArray, List.set_cons_zero, List.set_cons_succ]
      go_wp2_with fail
      go_meet
      case rel => exact ⟨rfl, hc⟩
  case rest =>
    obtain ⟨rfl, hW⟩ := hcut
    have Im := Lib.hid (HM.out.below hW); have Ia := Lib.hid (HA4.out.below hW); have Ib := Lib.hid (HB4.out.below hW)
    have HW := Lib.hid hW
    have Cb : Hid (capOk (.slice pb mb cb)) := fun p n c e => by cases e; exact db
    clear hW HM HA4 HB4 HRt HAd HrRt HrAd HLs HrLs HSm1 HB5
    go_wp2_with fail
    refine (HPl.out _ _ _ HCm.out Cb.out Im.out Ib.out).mono ?_
    rintro e w21 ⟨vp, rfl, hJ, _, hb⟩
    replace Im := Lib.hid (Im.out.below hb)
    replace Ia := Lib.hid (Ia.out.below hb)
    replace Ib := Lib.hid (Ib.out.below hb)
    replace HW := Lib.hid (HW.out.trans (hb.mono HW.out.size))
    have Ip := Lib.hid hJ
    clear hJ hb
    go_wp2_with fail
    refine (HJ1.out _ _ _ Ia.out Ib.out).mono ?_
    rintro e w22 ⟨vq, rfl, hJ, hb⟩
    replace Im := Lib.hid (Im.out.below hb)
    replace Ia := Lib.hid (Ia.out.below hb)
    replace Ib := Lib.hid (Ib.out.below hb)
    replace Ip := Lib.hid (Ip.out.below hb)
    replace HW := Lib.hid (HW.out.trans (hb.mono HW.out.size))
    have Iq := Lib.hid hJ.is
    clear hJ hb
    go_wp2_with fail
    refine (HSmP.out _ _ _ Ip.out Iq.out).mono ?_
    rintro e w23 ⟨rfl, hb⟩
    replace Im := Lib.hid (Im.out.below hb)
    replace Ia := Lib.hid (Ia.out.below hb)
    replace Ib := Lib.hid (Ib.out.below hb)
    replace Ip := Lib.hid (Ip.out.below hb)
    replace Iq := Lib.hid (Iq.out.below hb)
    replace HW := Lib.hid (HW.out.trans (hb.mono HW.out.size))
    clear hb
    clear Ip Iq
    go_wp2_with fail
    refine (HMi.out _ _ _ HCm.out Im.out Ib.out).mono ?_
    rintro e w24 ⟨vp, rfl, hJ, _, hb⟩
    replace Im := Lib.hid (Im.out.below hb)
    replace Ia := Lib.hid (Ia.out.below hb)
    replace Ib := Lib.hid (Ib.out.below hb)
    replace HW := Lib.hid (HW.out.trans (hb.mono HW.out.size))
    have Ip := Lib.hid hJ
    clear hJ hb
    go_wp2_with fail
    refine (HJ2.out _ _ _ Ia.out Ib.out).mono ?_
    rintro e w25 ⟨vq, rfl, hJ, hb⟩
    replace Im := Lib.hid (Im.out.below hb)
    replace Ia := Lib.hid (Ia.out.below hb)
    replace Ib := Lib.hid (Ib.out.below hb)
    replace Ip := Lib.hid (Ip.out.below hb)
    replace HW := Lib.hid (HW.out.trans (hb.mono HW.out.size))
    have Iq := Lib.hid hJ.is
    clear hJ hb
    go_wp2_with fail
    refine (HSmM.out _ _ _ Ip.out Iq.out).mono ?_
    rintro e w26 ⟨rfl, hb⟩
    replace Im := Lib.hid (Im.out.below hb)
    replace Ia := Lib.hid (Ia.out.below hb)
    replace Ib := Lib.hid (Ib.out.below hb)
    replace Ip := Lib.hid (Ip.out.below hb)
    replace Iq := Lib.hid (Iq.out.below hb)
    replace HW := Lib.hid (HW.out.trans (hb.mono HW.out.size))
    clear hb
    clear Ip Iq
    go_wp2_with fail
    refine (HS.out _ _ _ Im.out Ib.out).mono ?_
    rintro e w27 ⟨rfl, hb⟩
    replace Im := Lib.hid (Im.out.below hb)
    replace Ia := Lib.hid (Ia.out.below hb)
    replace Ib := Lib.hid (Ib.out.below hb)
    replace HW := Lib.hid (HW.out.trans (hb.mono HW.out.size))
    clear hb
    go_wp2_with fail
    refine (HrS.out _ _ _ Ia.out Ib.out).mono ?_
    rintro e w28 ⟨rfl, hb⟩
    replace Im := Lib.hid (Im.out.below hb)
    replace Ia := Lib.hid (Ia.out.below hb)
    replace Ib := Lib.hid (Ib.out.below hb)
    replace HW := Lib.hid (HW.out.trans (hb.mono HW.out.size))
    clear hb
    go_wp2_with fail
    refine (HTh.out _ _ Im.out).mono ?_
    rintro e w29 ⟨vp, rfl, hJ, hb⟩
    replace Im := Lib.hid (Im.out.below hb)
    replace Ia := Lib.hid (Ia.out.below hb)
    replace Ib := Lib.hid (Ib.out.below hb)
    replace HW := Lib.hid (HW.out.trans (hb.mono HW.out.size))
    have Ip := Lib.hid hJ.is
    clear hJ hb
    go_wp2_with fail
    refine (HrTh.out _ _ Ia.out).mono ?_
    rintro e w30 ⟨vq, rfl, hJ, hb⟩
    replace Im := Lib.hid (Im.out.below hb)
    replace Ia := Lib.hid (Ia.out.below hb)
    replace Ib := Lib.hid (Ib.out.below hb)
    replace Ip := Lib.hid (Ip.out.below hb)
    replace HW := Lib.hid (HW.out.trans (hb.mono HW.out.size))
    have Iq := Lib.hid hJ.is
    clear hJ hb
    go_wp2_with fail
    refine (HSmT.out _ _ _ Ip.out Iq.out).mono ?_
    rintro e w31 ⟨rfl, hb⟩
    replace Im := Lib.hid (Im.out.below hb)
    replace Ia := Lib.hid (Ia.out.below hb)
    replace Ib := Lib.hid (Ib.out.below hb)
    replace Ip := Lib.hid (Ip.out.below hb)
    replace Iq := Lib.hid (Iq.out.below hb)
    replace HW := Lib.hid (HW.out.trans (hb.mono HW.out.size))
    clear hb
    clear Ip Iq
    go_wp2_with fail
    refine (HSmA.out _ _ _ Im.out Ia.out).mono ?_
    rintro e w32 ⟨rfl, hb⟩
    replace Im := Lib.hid (Im.out.below hb)
    replace Ia := Lib.hid (Ia.out.below hb)
    replace Ib := Lib.hid (Ib.out.below hb)
    replace HW := Lib.hid (HW.out.trans (hb.mono HW.out.size))
    clear hb
    go_wp2
    go_returns
    exact ⟨rfl, HW1.out.trans ((HWb.out.trans (HW.out.mono HWb.out.size)).mono HW1.out.size)⟩
end Go.Proofs.Ytmmojohjipmoaaa
