/- OpsParts: the law's walk -/
import Derived.Test.YtgmpgemgoplafaaNbd
import Derived.Deep.RegionLaw
import Derived.Deep.RegionHeldLaw
import Derived.Deep.CutRange
namespace Go.Proofs.Ytgmpgemgoplafaa
open Go.RowKit
set_option linter.unusedVariables false
set_option linter.unusedSimpArgs false
attribute [local go_sem ↓] run_imin

set_option maxRecDepth 100000 in
set_option maxHeartbeats 8000000 in
theorem opsParts_walk (k s arg : Int) (q : Option Addr) (c : Nat) (p : List NV) (xa xb : List RV) (va vb : Value) (w : World) (hI : RC.Is w (.slice q p.length c) p) (hR : inR arg) (hP : ∀ x ∈ p, inR x.n) (ha : RR.Is w va xa) (hb : RR.Is w vb xb) (ka : capOk va) (kb : capOk vb)
    (hna : ∀ x ∈ xa, inR x.k ∧ inR x.v) (hnb : ∀ x ∈ xb, inR x.k ∧ inR x.v) :
    Calls Try.prog 3 #[.agg #[.int .i64 k, .int .i64 s, .int .i64 arg, .slice q p.length c], va, vb] w (Ret (.bool true) w) := by
  obtain ⟨pa, na, ma, ca, rfl, ea, ja, da, oa, la, HA⟩ := cutRowO ha ka 60 (by decide)
  have ea : imin (na : Int) 60 = (ma : Int) := ea
  have HA := Lib.hid HA
  obtain ⟨pb, nb, mb, cb, rfl, eb, jb, db, ob, lb, HB⟩ := cutRowO hb kb 60 (by decide)
  have eb : imin (nb : Int) 60 = (mb : Int) := eb
  have HB := Lib.hid HB
  clear ha ka hb kb
  have HAW : Hid (∀ W, Calls Try.prog 7 #[] W (Ret (.bool true) W)) := fun W => awake_any W
  by_cases hlin : linearO k = true
  · have HLI : Hid (∀ W, Calls Try.prog 8 #[.int .i64 k] W (Ret (.bool true) W)) := fun W => by
      have h := plinear_any k W
      rw [hlin] at h
      exact h
    by_cases hlen : p.length ≤ 100
    · have hlz : ¬ (100 : Int) < (p.length : Int) := by omega
      have hNA : NodeA w q c arg p := ⟨hI, by omega, hP, hR⟩
      have hQa := bagQ_of la (fun x hx => hna x (List.mem_of_mem_take hx))
      have hQb := bagQ_of lb (fun x hx => hnb x (List.mem_of_mem_take hx))
      have hPl := bagQ_plus hQa hQb (by decide)
      have LP := linear_parts hlin arg p hQa.g hQb.g hQa.p hQb.p hQa.m hQb.m
      have HAPa := Lib.hid (apply_bag (k := k) (s := s) hNA hQa (by decide) LP.2.2.2.1)
      have HAPb := Lib.hid (apply_bag (k := k) (s := s) hNA hQb (by decide) LP.2.2.2.2.1)
      have HAPp := Lib.hid (apply_bag (k := k) (s := s) hNA hPl (by decide) LP.2.2.1)
      have lX := apply_len k arg p hQa
      have lY := apply_len k arg p hQb
      rw [LP.2.2.2.2.2] at HAPp
      have HOA : Hid (∀ W, RR.Is W (.slice pa ma ca) (xa.take ma) → Calls Try.prog 9 #[.slice pa ma ca] W (RI.Made (ofI (xa.take ma)) W)) := fun W h => bof_any _ _ W (by omega) h
      have lA : (ofI (xa.take ma)).length ≤ 400000 := by have := hQa.len; omega
      have HOB : Hid (∀ W, RR.Is W (.slice pb mb cb) (xb.take mb) → Calls Try.prog 9 #[.slice pb mb cb] W (RI.Made (ofI (xb.take mb)) W)) := fun W h => bof_any _ _ W (by omega) h
      have lB : (ofI (xb.take mb)).length ≤ 400000 := by have := hQb.len; omega
      have HPL : Hid (∀ W u v, capOk u → capOk v → RI.Is W u (ofI (xa.take ma)) → RI.Is W v (ofI (xb.take mb)) → Calls Try.prog 11 #[u, v] W (AnsI (plusI (ofI (xa.take ma)) (ofI (xb.take mb))) W)) := fun W u v c1 c2 i1 i2 => bplus_any _ _ u v W lA lB c1 c2 i1 i2
      generalize plusI (ofI (xa.take ma)) (ofI (xb.take mb)) = P at *
      generalize (applyO k arg p (ofI (xa.take ma)) []).1 = X at *
      generalize (applyO k arg p (ofI (xb.take mb)) []).1 = Y at *
      have lZ : (plusI X Y).length ≤ 900000 := by have := plusI_len X Y; omega
      have HPZ : Hid (∀ W u v, capOk u → capOk v → RI.Is W u X → RI.Is W v Y → Calls Try.prog 11 #[u, v] W (AnsI (plusI X Y) W)) := fun W u v c1 c2 i1 i2 => bplus_any X Y u v W (by omega) (by omega) c1 c2 i1 i2
      generalize plusI X Y = Z at *
      have HSM : Hid (∀ W u v, RI.Is W u Z → RI.Is W v Z → Calls Try.prog 12 #[u, v] W (Ret (.bool true) W)) := fun W u v hu hv => by
        have h := bsame_any Z Z u v W lZ lZ hu hv
        simpa using h
      generalize ofI (xa.take ma) = CA at *
      generalize xa.take ma = LA at *
      generalize ofI (xb.take mb) = CB at *
      generalize xb.take mb = LB at *
      clear hNA hQa hPl LP lX lZ lA hna hI hR hP hQb hnb lY lB
      go_enter Try.func3, Try.ntmps3
      go_wp2_with fail
      refine (HAW.out _).mono ?_
      rintro e w1 ⟨rfl, hb1⟩
      have HW : Hid (Below w.heap.size w w1) := bcall (by go_grown) hb1 (by go_size)
      have HNK : Hid (∀ V, Below w1.heap.size w1 V → V.cell? ⟨w.heap.size, 0, none⟩ = some (.int .i64 k) ∧ V.cell? ⟨w.heap.size, 1, none⟩ = some (.int .i64 s) ∧ V.cell? ⟨w.heap.size, 2, none⟩ = some (.int .i64 arg) ∧ V.cell? ⟨w.heap.size, 3, none⟩ = some (.slice q p.length c)) := fun V hV => node_kept w _ _ _ _ V (hb1.trans (hV.mono hb1.size))
      obtain ⟨n0, n1, n2, n3⟩ := HNK.out w1 (Below.refl _ _)
      have HU := Lib.hid (Below.refl w1.heap.size w1)
      have IA := Lib.hid (HA.out.below HW.out)
      have IB := Lib.hid (HB.out.below HW.out)
      clear HAW hb1 HA HB
      go_wp2_with fail
      refine (HLI.out _).mono ?_
      rintro e w2 ⟨rfl, hb⟩
      skip
      have hu := hb
      replace IA := Lib.hid (IA.out.below hu)
      replace IB := Lib.hid (IB.out.below hu)
      replace HW := Lib.hid (bcall HW.out hu HW.out.size)
      replace HU := Lib.hid (bcall HU.out hu HU.out.size)
      (try clear n0 n1 n2 n3)
      obtain ⟨n0, n1, n2, n3⟩ := HNK.out w2 HU.out
      clear hu hb
      clear HLI
      go_upto_region 5 with (fail)
      go_cut [7, 8] from 27 to 38 (fun x y wx => ∃ px cx py cy, x = .slice px CA.length cx ∧ y = .slice py CB.length cy ∧ Hid (Below w2.heap.size w2 wx) ∧ Hid (RI.Is wx (.slice px CA.length cx) CA) ∧ Hid (RI.Is wx (.slice py CB.length cy) CB) ∧ Hid (capOk (.slice px CA.length cx) ∧ capOk (.slice py CB.length cy)))
      case first =>
        have hc : Below w2.heap.size w2 w2.drew := (Below.refl _ _).drew
        go_region_held_law (fun _ => True) (exact trivial) (first
          | (go_at_call 9; (with_reducible refine Calls.mono (HOA.out _ (IA.out.below hc)) ?_); rintro e wa ⟨va, rfl, hOa, hba⟩; have hCa := own_cap hOa; have hIa := hOa.is; obtain ⟨px, cx, rfl⟩ := hIa.slice; (try replace hIb := hIb.below hba); replace hc := bcall hc hba hc.size; clear hOa hba)
          | (go_at_call 9; (with_reducible refine Calls.mono (HOB.out _ (IB.out.below hc)) ?_); rintro e wb ⟨vb, rfl, hOb, hbb⟩; have hCb := own_cap hOb; have hIb := hOb.is; obtain ⟨py, cy, rfl⟩ := hIb.slice; (try replace hIa := hIa.below hbb); replace hc := bcall hc hbb hc.size; clear hOb hbb))
        all_goals
          try simp only [List.getElem_toArray, List.getElem_cons_succ, List.getElem_cons_zero, Act.put, List.setIfInBounds_toArray, List.set_cons_zero, List.set_cons_succ]
          go_wp2_with fail
          go_meet
          case rel => exact ⟨_, _, _, _, rfl, rfl, hc, hIa, hIb, hCa, hCb⟩
      case rest =>
        obtain ⟨px, cx, py, cy, rfl, rfl, HX, Ix, Iy, HCC⟩ := hcut
        have hu := HX.out
        clear IA IB HOA HOB HX
        obtain ⟨w3, hw3⟩ : ∃ w3, w3 = wc := ⟨_, rfl⟩
        subst hw3
        replace HW := Lib.hid (bcall HW.out hu HW.out.size)
        replace HU := Lib.hid (bcall HU.out hu HU.out.size)
        (try clear n0 n1 n2 n3)
        obtain ⟨n0, n1, n2, n3⟩ := HNK.out w3 HU.out
        clear hu
        go_upto_region 6 with (fail)
        go_cut [9, 10] from 39 to 47 (fun x y wx => ∃ pz cz, x = .slice pz Z.length cz ∧ y = .bool true ∧ Hid (Below w3.heap.size w3 wx) ∧ Hid (RI.Is wx (.slice pz Z.length cz) Z) ∧ Hid (capOk (.slice pz Z.length cz)))
        case first =>
          clear n0 n1 n2 n3
          obtain ⟨n0, n1, n2, n3⟩ := HNK.out _ HU.out.drew
          go_region_law (first
            | (go_simp; go_at_call 11; (with_reducible refine Calls.mono (HPL.out _ _ _ (HCC.out.1) (HCC.out.2) (Ix.out.below (Below.refl _ _).drew) (Iy.out.below (Below.refl _ _).drew)) ?_); rintro e wp ⟨vp, rfl, hIp, hCp, hbp⟩; obtain ⟨pp, cp, rfl⟩ := hIp.slice; have hup := bcall (Below.refl w3.heap.size w3).drew hbp (Nat.le_refl _); obtain ⟨y0, y1, y2, y3⟩ := HNK.out wp (bcall HU.out hup HU.out.size); have hal : Below wp.heap.size wp (wp.alloc (.cells #[.slice pp P.length cp] 28)) := (Below.refl _ _).alloc (Nat.le_refl _) _; have el := World.alloc_heap_new wp (.cells #[.slice pp P.length cp] 28); have huq := bcall hup hal hup.size; obtain ⟨z0, z1, z2, z3⟩ := HNK.out (wp.alloc (.cells #[.slice pp P.length cp] 28)) (bcall HU.out huq HU.out.size); have HAPQ := Lib.hid (HAPp.out (wp.alloc (.cells #[.slice pp P.length cp] 28)) wp.heap.size _ (bcall HW.out huq HW.out.size) (hIp.below hal) (cells_of el rfl)))
            | (go_simp; go_at_call 10; (with_reducible refine Calls.mono HAPQ.out ?_); rintro e wz ⟨vz, rfl, hOz, hbz⟩; obtain ⟨pz, cz, rfl⟩ := hOz.is.slice; have hIz := hOz.is; have hCz := own_cap hOz; have huz := bcall huq hbz huq.size))
          all_goals try simp only [List.getElem_toArray, List.getElem_cons_succ, List.getElem_cons_zero, Act.put, List.setIfInBounds_toArray, List.set_cons_zero, List.set_cons_succ]
          all_goals go_wp2_with fail
          all_goals go_meet
          all_goals exact ⟨_, _, rfl, rfl, huz, hIz, hCz⟩
        case rest =>
          obtain ⟨pz, cz, rfl, rfl, HX, Iz, Cz⟩ := hcut
          have hu := HX.out
          clear HX HPL HAPp
          obtain ⟨w4, hw4⟩ : ∃ w4, w4 = wc := ⟨_, rfl⟩
          subst hw4
          replace Ix := Lib.hid (Ix.out.below hu)
          replace Iy := Lib.hid (Iy.out.below hu)
          replace HW := Lib.hid (bcall HW.out hu HW.out.size)
          replace HU := Lib.hid (bcall HU.out hu HU.out.size)
          (try clear n0 n1 n2 n3)
          obtain ⟨n0, n1, n2, n3⟩ := HNK.out w4 HU.out
          clear hu
          go_wp2_with fail
          have el := World.alloc_heap_new w4 (.cells #[.slice px CA.length cx] 28)
          have hal : Below w4.heap.size w4 (w4.alloc (.cells #[.slice px CA.length cx] 28)) := (Below.refl _ _).alloc (Nat.le_refl _) _
          refine (HAPa.out _ _ _ (bcall HW.out hal HW.out.size) (Ix.out.below hal) (cells_of el rfl)).mono ?_
          rintro e w5 ⟨vm, rfl, hO, hb⟩
          have hC := own_cap hO
          have hI := hO.is
          obtain ⟨pm, cm, rfl⟩ := hI.slice
          have hu := bcall hal hb hal.size
          replace Ix := Lib.hid (Ix.out.below hu)
          replace Iy := Lib.hid (Iy.out.below hu)
          replace Iz := Lib.hid (Iz.out.below hu)
          replace HW := Lib.hid (bcall HW.out hu HW.out.size)
          replace HU := Lib.hid (bcall HU.out hu HU.out.size)
          (try clear n0 n1 n2 n3)
          obtain ⟨n0, n1, n2, n3⟩ := HNK.out w5 HU.out
          have Im := Lib.hid hI; have Cm := Lib.hid hC
          clear hI hC hb hu hO hal el
          go_wp2_with fail
          have el := World.alloc_heap_new w5 (.cells #[.slice py CB.length cy] 28)
          have hal : Below w5.heap.size w5 (w5.alloc (.cells #[.slice py CB.length cy] 28)) := (Below.refl _ _).alloc (Nat.le_refl _) _
          refine (HAPb.out _ _ _ (bcall HW.out hal HW.out.size) (Iy.out.below hal) (cells_of el rfl)).mono ?_
          rintro e w6 ⟨vn, rfl, hO, hb⟩
          have hC := own_cap hO
          have hI := hO.is
          obtain ⟨pn, cn, rfl⟩ := hI.slice
          have hu := bcall hal hb hal.size
          replace Ix := Lib.hid (Ix.out.below hu)
          replace Iy := Lib.hid (Iy.out.below hu)
          replace Iz := Lib.hid (Iz.out.below hu)
          replace Im := Lib.hid (Im.out.below hu)
          replace HW := Lib.hid (bcall HW.out hu HW.out.size)
          replace HU := Lib.hid (bcall HU.out hu HU.out.size)
          (try clear n0 n1 n2 n3)
          obtain ⟨n0, n1, n2, n3⟩ := HNK.out w6 HU.out
          have In := Lib.hid hI; have Cn := Lib.hid hC
          clear hI hC hb hu hO hal el
          go_wp2_with fail
          refine (HPZ.out _ _ _ Cm.out Cn.out Im.out In.out).mono ?_
          rintro e w7 ⟨vr, rfl, hI, hC, hb⟩
          skip
          have hu := hb
          replace Ix := Lib.hid (Ix.out.below hu)
          replace Iy := Lib.hid (Iy.out.below hu)
          replace Iz := Lib.hid (Iz.out.below hu)
          replace Im := Lib.hid (Im.out.below hu)
          replace In := Lib.hid (In.out.below hu)
          replace HW := Lib.hid (bcall HW.out hu HW.out.size)
          replace HU := Lib.hid (bcall HU.out hu HU.out.size)
          (try clear n0 n1 n2 n3)
          obtain ⟨n0, n1, n2, n3⟩ := HNK.out w7 HU.out
          clear hu hb
          have Ir := Lib.hid hI
          clear hI hC
          go_wp2_with fail
          refine (HSM.out _ _ _ Iz.out Ir.out).mono ?_
          rintro e w8 ⟨rfl, hb⟩
          skip
          have hu := hb
          replace Ix := Lib.hid (Ix.out.below hu)
          replace Iy := Lib.hid (Iy.out.below hu)
          replace Iz := Lib.hid (Iz.out.below hu)
          replace Im := Lib.hid (Im.out.below hu)
          replace In := Lib.hid (In.out.below hu)
          replace Ir := Lib.hid (Ir.out.below hu)
          replace HW := Lib.hid (bcall HW.out hu HW.out.size)
          replace HU := Lib.hid (bcall HU.out hu HU.out.size)
          (try clear n0 n1 n2 n3)
          obtain ⟨n0, n1, n2, n3⟩ := HNK.out w8 HU.out
          clear hu hb
          go_wp2
          go_returns
          exact ⟨rfl, HW.out⟩
    · have hlz : (100 : Int) < (p.length : Int) := by omega
      clear hna hnb HA HB
      clear hI hR hP
      go_enter Try.func3, Try.ntmps3
      go_wp2_with fail
      refine (HAW.out _).mono ?_
      rintro e w1 ⟨rfl, hb1⟩
      have HW : Hid (Below w.heap.size w w1) := bcall (by go_grown) hb1 (by go_size)
      have hnk : ∀ V, Below w1.heap.size w1 V → _ := fun V hV => node_kept w k s arg (.slice q p.length c) V (hb1.trans (hV.mono hb1.size))
      obtain ⟨n0, n1, n2, n3⟩ := hnk w1 (Below.refl _ _)
      clear HAW hb1
      go_wp2_with fail
      refine (HLI.out _).mono ?_
      rintro e w2 ⟨rfl, hb2⟩
      have HW2 : Hid (Below w.heap.size w w2) := bcall HW.out hb2 HW.out.size
      obtain ⟨m0, m1, m2, m3⟩ := hnk w2 hb2
      clear hb2 hnk
      go_wp2
      go_returns
      exact ⟨rfl, HW2.out⟩
  · have HLI : Hid (∀ W, Calls Try.prog 8 #[.int .i64 k] W (Ret (.bool false) W)) := fun W => by
      have h := plinear_any k W
      rw [Bool.eq_false_iff.2 hlin] at h
      exact h
    clear hna hnb HA HB
    clear hI hR hP
    go_enter Try.func3, Try.ntmps3
    go_wp2_with fail
    refine (HAW.out _).mono ?_
    rintro e w1 ⟨rfl, hb1⟩
    have HW : Hid (Below w.heap.size w w1) := bcall (by go_grown) hb1 (by go_size)
    have hnk : ∀ V, Below w1.heap.size w1 V → _ := fun V hV => node_kept w k s arg (.slice q p.length c) V (hb1.trans (hV.mono hb1.size))
    obtain ⟨n0, n1, n2, n3⟩ := hnk w1 (Below.refl _ _)
    clear HAW hb1
    go_wp2_with fail
    refine (HLI.out _).mono ?_
    rintro e w2 ⟨rfl, hb2⟩
    have HW2 : Hid (Below w.heap.size w w2) := bcall HW.out hb2 HW.out.size
    obtain ⟨m0, m1, m2, m3⟩ := hnk w2 hb2
    clear hb2 hnk
    go_wp2
    go_returns
    exact ⟨rfl, HW2.out⟩
end Go.Proofs.Ytgmpgemgoplafaa
