/- OpsKeys: the law's walk -/
import Derived.Test.YtgmpgemgoplafaaNbh
import Derived.Deep.RegionLaw
import Derived.Deep.RegionHeldLaw
import Derived.Deep.CutRange
namespace Go.Proofs.Ytgmpgemgoplafaa
open Go.RowKit
set_option linter.unusedVariables false
set_option linter.unusedSimpArgs false
attribute [local go_sem ↓] run_imin

/-- Apply of two bags with these answers -/
theorem apply_bags {k s arg : Int} {q : Option Addr} {c : Nat} {p : List NV} {w : World} (hN : NodeA k w q c arg p) {C D : List IV} {m : Int} (hC : BagQ C m) (hD : BagQ D m) (hm : m ≤ 65536) (hok : (applyO k arg p C D).2 = true) :
    ∀ W g u v, Below w.heap.size w W → RI.Is W u C → RI.Is W v D → W.cell? ⟨g, 0, none⟩ = some u → W.cell? ⟨g, 1, none⟩ = some v → Calls Try.prog 10 #[.agg #[.int .i64 k, .int .i64 s, .int .i64 arg, .slice q p.length c], .slice (some ⟨g, 0, none⟩) 2 2] W
      (fun e W' => ∃ v, e = .returned (.tuple #[v, .bool true]) ∧ RI.Own W.heap.size W' v (applyO k arg p C D).1 ∧ Below W.heap.size W W') := fun W g u v hW hu hv hg0 hg1 => by
  have h := apply_two (k := k) (s := s) (hN.below hW) (hC.port hm hu) (hD.port hm hv) hg0 hg1
  refine h.mono ?_
  rintro e W' ⟨v, rfl, hO, hb⟩
  rw [hC.there, hD.there] at hO ⊢
  rw [hok]
  exact ⟨v, rfl, hO, hb⟩
theorem recsQ_res {L : List RV} (n j : Int) (hq : ∀ x ∈ L, inR x.k ∧ inR x.v) : ∀ x ∈ L.filter (fun r => decide (r.k % n = j)), inR x.k ∧ inR x.v := fun x hx => hq x (List.mem_filter.1 hx).1
set_option maxRecDepth 100000 in
set_option maxHeartbeats 8000000 in
theorem opsKeys_walk (k s arg : Int) (q : Option Addr) (c : Nat) (p : List NV) (xa xb : List RV) (md : Int) (hm0 : 0 ≤ md) (hm1 : md ≤ 255) (va vb : Value) (w : World) (hI : RC.Is w (.slice q p.length c) p) (hR : inR arg) (hP : ∀ x ∈ p, inR x.n) (ha : RR.Is w va xa) (hb : RR.Is w vb xb) (ka : capOk va) (kb : capOk vb)
    (hna : ∀ x ∈ xa, inR x.k ∧ inR x.v) (hnb : ∀ x ∈ xb, inR x.k ∧ inR x.v) :
    Calls Try.prog 4 #[.agg #[.int .i64 k, .int .i64 s, .int .i64 arg, .slice q p.length c], va, vb, .int .u8 md] w (Ret (.bool true) w) := by
  obtain ⟨pa, na, ma, ca, rfl, ea, ja, da, oa, la, HA⟩ := cutRowO ha ka 60 (by decide)
  have ea : imin (na : Int) 60 = (ma : Int) := ea
  have HA := Lib.hid HA
  obtain ⟨pb, nb, mb, cb, rfl, eb, jb, db, ob, lb, HB⟩ := cutRowO hb kb 60 (by decide)
  have eb : imin (nb : Int) 60 = (mb : Int) := eb
  have HB := Lib.hid HB
  clear ha ka hb kb
  have HAW : Hid (∀ W, Calls Try.prog 7 #[] W (Ret (.bool true) W)) := fun W => awake_any W
  by_cases hk : keyed k = true
  · have hQa := bagQ_of la (fun x hx => hna x (List.mem_of_mem_take hx))
    have hQb := bagQ_of lb (fun x hx => hnb x (List.mem_of_mem_take hx))
    have hk' : k = 6 ∨ k = 7 ∨ k = 8 ∨ k = 9 ∨ k = 14 := of_decide_eq_true hk
    have hNA : NodeA k w q c arg p := ⟨hI, fun h => by omega, hP, hR⟩
    have hPt := fun n j => keyed_part hk arg p n j hQa hQb
    have hAll := (hPt 1 0).1
    have HAPw := Lib.hid (apply_bags (k := k) (s := s) hNA hQa hQb (by decide) hAll)
    have HAPr : Hid (∀ n j, _) := fun n j => apply_bags (k := k) (s := s) hNA (bagQ_res n j hQa) (bagQ_res n j hQb) (by decide) (hPt n j).2.1
    have hRi := applyO_right (k := k) (arg := arg) (p := p) hQa.p hQb.p
    have HOA : Hid (∀ W, RR.Is W (.slice pa ma ca) (xa.take ma) → Calls Try.prog 9 #[.slice pa ma ca] W (RI.Made (ofI (xa.take ma)) W)) := fun W h => bof_any _ _ W (by omega) h
    have HOB : Hid (∀ W, RR.Is W (.slice pb mb cb) (xb.take mb) → Calls Try.prog 9 #[.slice pb mb cb] W (RI.Made (ofI (xb.take mb)) W)) := fun W h => bof_any _ _ W (by omega) h
    have HSA : Hid (∀ n j W, 1 ≤ n → n ≤ 5 → RR.Is W (.slice pa ma ca) (xa.take ma) → Calls Try.prog 13 #[.slice pa ma ca, .int .i64 n, .int .i64 j] W (RR.Made ((xa.take ma).filter fun r => decide (r.k % n = j)) W)) := fun n j W h1 h2 h => some_any _ n j _ W la h1 h2 h
    have HSB : Hid (∀ n j W, 1 ≤ n → n ≤ 5 → RR.Is W (.slice pb mb cb) (xb.take mb) → Calls Try.prog 13 #[.slice pb mb cb, .int .i64 n, .int .i64 j] W (RR.Made ((xb.take mb).filter fun r => decide (r.k % n = j)) W)) := fun n j W h1 h2 h => some_any _ n j _ W lb h1 h2 h
    have HFA : Hid (∀ n j W v, RR.Is W v ((xa.take ma).filter fun r => decide (r.k % n = j)) → Calls Try.prog 9 #[v] W (RI.Made (resK n j (ofI (xa.take ma))) W)) := fun n j W v h => by
      have h2 := bof_any _ v W (by have := List.length_filter_le (fun r : RV => decide (r.k % n = j)) (xa.take ma); omega) h
      rw [ofI_res n j la] at h2
      exact h2
    have HFB : Hid (∀ n j W v, RR.Is W v ((xb.take mb).filter fun r => decide (r.k % n = j)) → Calls Try.prog 9 #[v] W (RI.Made (resK n j (ofI (xb.take mb))) W)) := fun n j W v h => by
      have h2 := bof_any _ v W (by have := List.length_filter_le (fun r : RV => decide (r.k % n = j)) (xb.take mb); omega) h
      rw [ofI_res n j lb] at h2
      exact h2
    have hgo : ∀ n j, (applyO k arg p (resK n j (ofI (xa.take ma))) (resK n j (ofI (xb.take mb)))).1 = resK n j (applyO k arg p (ofI (xa.take ma)) (ofI (xb.take mb))).1 := fun n j => (hPt n j).2.2
    simp only [hgo] at HAPr
    have hZl : (applyO k arg p (ofI (xa.take ma)) (ofI (xb.take mb))).1.length ≤ 65536 := by have := manyO_len hRi.2.1; omega
    generalize (applyO k arg p (ofI (xa.take ma)) (ofI (xb.take mb))).1 = Z at *
    have HPL : Hid (∀ n j W u v, capOk u → capOk v → RI.Is W u (lowK n j Z) → RI.Is W v (resK n j Z) → Calls Try.prog 11 #[u, v] W (AnsI (lowK n (j + 1) Z) W)) := fun n j W u v c1 c2 i1 i2 => by
      have h := bplus_any _ _ u v W (by have := low_len n j Z; omega) (by have := res_len n j Z; omega) c1 c2 i1 i2
      rw [lowK_succ hRi.1 hRi.2.1 hRi.2.2.1] at h
      exact h
    have HSM : Hid (∀ W u v, RI.Is W u Z → RI.Is W v Z → Calls Try.prog 12 #[u, v] W (Ret (.bool true) W)) := fun W u v hu hv => by
      have h := bsame_any Z Z u v W (by omega) (by omega) hu hv
      simpa using h
    clear hNA hPt hAll hRi hZl hgo hQa hQb hna hnb hI hR hP hk
    generalize ofI (xa.take ma) = CA at *
    generalize ofI (xb.take mb) = CB at *
    generalize xa.take ma = LA at *
    generalize xb.take mb = LB at *
    go_enter Try.func4, Try.ntmps4
    go_wp2_with fail
    refine (HAW.out _).mono ?_
    rintro e w1 ⟨rfl, hb1⟩
    have HW : Hid (Below w.heap.size w w1) := bcall (by go_grown) hb1 (by go_size)
    have HNK : Hid (∀ V, Below w1.heap.size w1 V → V.cell? ⟨w.heap.size, 0, none⟩ = some (.int .i64 k) ∧ V.cell? ⟨w.heap.size, 1, none⟩ = some (.int .i64 s) ∧ V.cell? ⟨w.heap.size, 2, none⟩ = some (.int .i64 arg) ∧ V.cell? ⟨w.heap.size, 3, none⟩ = some (.slice q p.length c)) := fun V hV => node_kept w _ _ _ _ V (hb1.trans (hV.mono hb1.size))
    obtain ⟨n0, n1, n2, n3⟩ := HNK.out w1 (Below.refl _ _)
    have IA := Lib.hid (HA.out.below HW.out)
    have IB := Lib.hid (HB.out.below HW.out)
    clear HAW hb1 HA HB
    go_upto_region 3 with (fail)
    go_cut [30] from 18 to 29 (fun v wx => v = .bool false ∧ w1 = wx)
    case first =>
      have h6 : ¬ k < 6 := by omega
      by_cases h9 : 9 < k
      · have h14 : k = 14 := by omega
        subst h14
        go_wp2_with fail
        go_meet
        exact ⟨rfl, rfl⟩
      · go_wp2_with fail
        go_meet
        exact ⟨rfl, rfl⟩
    case rest =>
      obtain ⟨rfl, rfl⟩ := hcut
      go_upto_region 5 with (fail)
      go_cut [1, 2] from 31 to 40 (fun x y wx => x = .slice pa ma ca ∧ y = .slice pb mb cb ∧ Hid (Below w1.heap.size w1 wx))
      case first =>
        go_quiet (fail)
        go_wp2_with fail
        go_meet
        exact ⟨rfl, rfl, below_drewN (Below.refl _ _) _⟩
      case rest =>
        obtain ⟨rfl, rfl, HU⟩ := hcut
        obtain ⟨w2, hw2⟩ : ∃ w2, w2 = wc := ⟨_, rfl⟩
        subst hw2
        replace IA := Lib.hid (IA.out.below HU.out)
        replace IB := Lib.hid (IB.out.below HU.out)
        replace HW := Lib.hid (bcall HW.out HU.out HW.out.size)
        clear n0 n1 n2 n3 ea eb ja da oa la jb db ob lb
        obtain ⟨n0, n1, n2, n3⟩ := HNK.out w2 HU.out
        go_upto_region 7 with (fail)
        obtain ⟨N, hN⟩ : ∃ N : Nat, md % 5 + 1 = (N : Int) := ⟨(md % 5 + 1).toNat, by omega⟩
        have hN5 : 1 ≤ N ∧ N ≤ 5 := by omega
        rw [hN]
        clear hN hm0 hm1
        go_cut [10, 11] from 45 to 54 (fun x y wx => ∃ pz cz, x = .slice pz Z.length cz ∧ y = .bool true ∧ Hid (Below w2.heap.size w2 wx) ∧ Hid (RI.Is wx (.slice pz Z.length cz) Z))
        case first =>
          clear n0 n1 n2 n3
          obtain ⟨n0, n1, n2, n3⟩ := HNK.out _ HU.out.drew
          have hc : Below w2.heap.size w2 w2.drew := (Below.refl _ _).drew
          go_region_law (first
            | ((have := hIfb); go_simp; go_at_call 9; (with_reducible refine Calls.mono (HOA.out _ (IA.out.below hc)) ?_); rintro e wfa ⟨vfa, rfl, hOfa, hbfa⟩; obtain ⟨pfa, cfa, rfl⟩ := hOfa.is.slice; have hIfa := hOfa.is; replace hIfb := hIfb.below hbfa; replace hc := bcall hc hbfa hc.size; obtain ⟨yfa0, yfa1, yfa2, yfa3⟩ := HNK.out wfa (bcall HU.out hc HU.out.size); have hal : Below wfa.heap.size wfa (wfa.alloc (.cells #[.slice pfa CA.length cfa, .slice pfb CB.length cfb] 28)) := (Below.refl _ _).alloc (Nat.le_refl _) _; have el := World.alloc_heap_new wfa (.cells #[.slice pfa CA.length cfa, .slice pfb CB.length cfb] 28); have hcq := bcall hc hal hc.size; obtain ⟨yq0, yq1, yq2, yq3⟩ := HNK.out (wfa.alloc (.cells #[.slice pfa CA.length cfa, .slice pfb CB.length cfb] 28)) (bcall HU.out hcq HU.out.size); have HAPQ := Lib.hid (HAPw.out (wfa.alloc (.cells #[.slice pfa CA.length cfa, .slice pfb CB.length cfb] 28)) wfa.heap.size _ _ (bcall HW.out hcq HW.out.size) (hIfa.below hal) (hIfb.below hal) (cells_of el rfl) (cells_of el rfl)))
            | ((have := hIfa); go_simp; go_at_call 9; (with_reducible refine Calls.mono (HOB.out _ (IB.out.below hc)) ?_); rintro e wfb ⟨vfb, rfl, hOfb, hbfb⟩; obtain ⟨pfb, cfb, rfl⟩ := hOfb.is.slice; have hIfb := hOfb.is; replace hIfa := hIfa.below hbfb; replace hc := bcall hc hbfb hc.size; obtain ⟨yfb0, yfb1, yfb2, yfb3⟩ := HNK.out wfb (bcall HU.out hc HU.out.size); have hal : Below wfb.heap.size wfb (wfb.alloc (.cells #[.slice pfa CA.length cfa, .slice pfb CB.length cfb] 28)) := (Below.refl _ _).alloc (Nat.le_refl _) _; have el := World.alloc_heap_new wfb (.cells #[.slice pfa CA.length cfa, .slice pfb CB.length cfb] 28); have hcq := bcall hc hal hc.size; obtain ⟨yq0, yq1, yq2, yq3⟩ := HNK.out (wfb.alloc (.cells #[.slice pfa CA.length cfa, .slice pfb CB.length cfb] 28)) (bcall HU.out hcq HU.out.size); have HAPQ := Lib.hid (HAPw.out (wfb.alloc (.cells #[.slice pfa CA.length cfa, .slice pfb CB.length cfb] 28)) wfb.heap.size _ _ (bcall HW.out hcq HW.out.size) (hIfa.below hal) (hIfb.below hal) (cells_of el rfl) (cells_of el rfl)))
            | ((fail_if_success (have := hIfb)); go_simp; go_at_call 9; (with_reducible refine Calls.mono (HOA.out _ (IA.out.below hc)) ?_); rintro e wfa ⟨vfa, rfl, hOfa, hbfa⟩; obtain ⟨pfa, cfa, rfl⟩ := hOfa.is.slice; have hIfa := hOfa.is; (try replace hIsb := hIsb.below hbfa); replace hc := bcall hc hbfa hc.size; obtain ⟨yfa0, yfa1, yfa2, yfa3⟩ := HNK.out wfa (bcall HU.out hc HU.out.size))
            | ((fail_if_success (have := hIfa)); go_simp; go_at_call 9; (with_reducible refine Calls.mono (HOB.out _ (IB.out.below hc)) ?_); rintro e wfb ⟨vfb, rfl, hOfb, hbfb⟩; obtain ⟨pfb, cfb, rfl⟩ := hOfb.is.slice; have hIfb := hOfb.is; (try replace hIsa := hIsa.below hbfb); replace hc := bcall hc hbfb hc.size; obtain ⟨yfb0, yfb1, yfb2, yfb3⟩ := HNK.out wfb (bcall HU.out hc HU.out.size))
            | (go_simp; go_at_call 10; (with_reducible refine Calls.mono HAPQ.out ?_); rintro e wz ⟨vz, rfl, hOz, hbz⟩; obtain ⟨pz, cz, rfl⟩ := hOz.is.slice; have hIz := hOz.is; have hCz := own_cap hOz; replace hc := bcall hcq hbz hcq.size))
          all_goals try simp only [List.getElem_toArray, List.getElem_cons_succ, List.getElem_cons_zero, Act.put, List.setIfInBounds_toArray, List.set_cons_zero, List.set_cons_succ]
          all_goals go_wp2_with fail
          all_goals go_meet
          all_goals exact ⟨_, _, rfl, rfl, hc, hIz⟩
        case rest =>
          obtain ⟨pz, cz, rfl, rfl, HX, IZ⟩ := hcut
          obtain ⟨w3, hw3⟩ : ∃ w3, w3 = wc := ⟨_, rfl⟩
          subst hw3
          replace IA := Lib.hid (IA.out.below HX.out)
          replace IB := Lib.hid (IB.out.below HX.out)
          replace HW := Lib.hid (bcall HW.out HX.out HW.out.size)
          replace HU := Lib.hid (bcall HU.out HX.out HU.out.size)
          clear n0 n1 n2 n3 HX HAPw HOA HOB
          have HL0 : Hid (RI.Is w3 (.slice none 0 0) (lowK N 0 Z)) := by rw [lowK_zero (by omega)]; exact .inl ⟨rfl, none, 0, rfl, fun _ => rfl⟩
          have HLE : Hid (lowK N 0 Z = []) := lowK_zero (by omega) Z
          have HLN : Hid (lowK N N Z = Z) := lowK_all (by omega) Z
          go_wp2_with fail
          go_loopg [12, 13] N (fun gg sv kv wr => ∃ m : Nat, m ≤ N ∧ N - m ≤ gg ∧ kv = .int .i64 m ∧ Hid (RI.Is wr sv (lowK N m Z)) ∧ Hid (capOk sv) ∧ Hid (Below w3.heap.size w3 wr))
          case atStart => exact ⟨0, Nat.zero_le _, by omega, rfl, HL0.out, fun _ _ _ e => by cases e; exact Nat.le_refl _, Below.refl _ _⟩
          case round =>
            obtain ⟨m, hm, hg, rfl, HIS, HCS, HB3⟩ := hrel
            obtain ⟨ps, cs, rfl⟩ := HIS.out.slice
            by_cases hlt : m < N
            · have hlz : (m : Int) < (N : Int) := by omega
              have HWr : Hid (Below w.heap.size w wr) := bcall HW.out HB3.out HW.out.size
              have HUr : Hid (Below w1.heap.size w1 wr) := bcall HU.out HB3.out HU.out.size
              have IAr := Lib.hid (IA.out.below HB3.out)
              have IBr := Lib.hid (IB.out.below HB3.out)
              have hNz : (1 : Int) ≤ (N : Int) ∧ (N : Int) ≤ 5 := by omega
              go_upto_region 12 with (fail)
              go_cut [14, 15] from 60 to 75 (fun x y wx => ∃ pz cz, x = .slice pz (resK N m Z).length cz ∧ y = .bool true ∧ Hid (Below wr.heap.size wr wx) ∧ Hid (RI.Is wx (.slice pz (resK N m Z).length cz) (resK N m Z)) ∧ Hid (capOk (.slice pz (resK N m Z).length cz)))
              case first =>
                obtain ⟨n0, n1, n2, n3⟩ := HNK.out _ HUr.out.drew
                have hc : Below wr.heap.size wr wr.drew := (Below.refl _ _).drew
                clear HIS HCS HPL HSM IA IB
                go_region_law (first
                  | (go_simp; go_at_call 13; (with_reducible refine Calls.mono (HSA.out _ _ _ hNz.1 hNz.2 (IAr.out.below hc)) ?_); rintro e wsa ⟨vsa, rfl, hOsa, hbsa⟩; obtain ⟨psa, csa, rfl⟩ := hOsa.is.slice; have hIsa := hOsa.is; (try replace hIsb := hIsb.below hbsa); (try replace hIfb := hIfb.below hbsa); replace hc := bcall hc hbsa hc.size; obtain ⟨ysa0, ysa1, ysa2, ysa3⟩ := HNK.out wsa (bcall HUr.out hc HUr.out.size))
                  | (go_simp; go_at_call 13; (with_reducible refine Calls.mono (HSB.out _ _ _ hNz.1 hNz.2 (IBr.out.below hc)) ?_); rintro e wsb ⟨vsb, rfl, hOsb, hbsb⟩; obtain ⟨psb, csb, rfl⟩ := hOsb.is.slice; have hIsb := hOsb.is; (try replace hIsa := hIsa.below hbsb); (try replace hIfa := hIfa.below hbsb); replace hc := bcall hc hbsb hc.size; obtain ⟨ysb0, ysb1, ysb2, ysb3⟩ := HNK.out wsb (bcall HUr.out hc HUr.out.size))
                  | ((have := hIfb); go_simp; go_at_call 9; (with_reducible refine Calls.mono (HFA.out _ _ _ _ hIsa) ?_); rintro e wfa ⟨vfa, rfl, hOfa, hbfa⟩; obtain ⟨pfa, cfa, rfl⟩ := hOfa.is.slice; have hIfa := hOfa.is; replace hIfb := hIfb.below hbfa; replace hc := bcall hc hbfa hc.size; obtain ⟨yfa0, yfa1, yfa2, yfa3⟩ := HNK.out wfa (bcall HUr.out hc HUr.out.size); have hal : Below wfa.heap.size wfa (wfa.alloc (.cells #[.slice pfa (resK N m CA).length cfa, .slice pfb (resK N m CB).length cfb] 28)) := (Below.refl _ _).alloc (Nat.le_refl _) _; have el := World.alloc_heap_new wfa (.cells #[.slice pfa (resK N m CA).length cfa, .slice pfb (resK N m CB).length cfb] 28); have hcq := bcall hc hal hc.size; obtain ⟨yq0, yq1, yq2, yq3⟩ := HNK.out (wfa.alloc (.cells #[.slice pfa (resK N m CA).length cfa, .slice pfb (resK N m CB).length cfb] 28)) (bcall HUr.out hcq HUr.out.size); have HAPQ := Lib.hid (HAPr.out N m (wfa.alloc (.cells #[.slice pfa (resK N m CA).length cfa, .slice pfb (resK N m CB).length cfb] 28)) wfa.heap.size _ _ (bcall HWr.out hcq HWr.out.size) (hIfa.below hal) (hIfb.below hal) (cells_of el rfl) (cells_of el rfl)))
                  | ((have := hIfa); go_simp; go_at_call 9; (with_reducible refine Calls.mono (HFB.out _ _ _ _ hIsb) ?_); rintro e wfb ⟨vfb, rfl, hOfb, hbfb⟩; obtain ⟨pfb, cfb, rfl⟩ := hOfb.is.slice; have hIfb := hOfb.is; replace hIfa := hIfa.below hbfb; replace hc := bcall hc hbfb hc.size; obtain ⟨yfb0, yfb1, yfb2, yfb3⟩ := HNK.out wfb (bcall HUr.out hc HUr.out.size); have hal : Below wfb.heap.size wfb (wfb.alloc (.cells #[.slice pfa (resK N m CA).length cfa, .slice pfb (resK N m CB).length cfb] 28)) := (Below.refl _ _).alloc (Nat.le_refl _) _; have el := World.alloc_heap_new wfb (.cells #[.slice pfa (resK N m CA).length cfa, .slice pfb (resK N m CB).length cfb] 28); have hcq := bcall hc hal hc.size; obtain ⟨yq0, yq1, yq2, yq3⟩ := HNK.out (wfb.alloc (.cells #[.slice pfa (resK N m CA).length cfa, .slice pfb (resK N m CB).length cfb] 28)) (bcall HUr.out hcq HUr.out.size); have HAPQ := Lib.hid (HAPr.out N m (wfb.alloc (.cells #[.slice pfa (resK N m CA).length cfa, .slice pfb (resK N m CB).length cfb] 28)) wfb.heap.size _ _ (bcall HWr.out hcq HWr.out.size) (hIfa.below hal) (hIfb.below hal) (cells_of el rfl) (cells_of el rfl)))
                  | ((fail_if_success (have := hIfb)); go_simp; go_at_call 9; (with_reducible refine Calls.mono (HFA.out _ _ _ _ hIsa) ?_); rintro e wfa ⟨vfa, rfl, hOfa, hbfa⟩; obtain ⟨pfa, cfa, rfl⟩ := hOfa.is.slice; have hIfa := hOfa.is; (try replace hIsb := hIsb.below hbfa); replace hc := bcall hc hbfa hc.size; obtain ⟨yfa0, yfa1, yfa2, yfa3⟩ := HNK.out wfa (bcall HUr.out hc HUr.out.size))
                  | ((fail_if_success (have := hIfa)); go_simp; go_at_call 9; (with_reducible refine Calls.mono (HFB.out _ _ _ _ hIsb) ?_); rintro e wfb ⟨vfb, rfl, hOfb, hbfb⟩; obtain ⟨pfb, cfb, rfl⟩ := hOfb.is.slice; have hIfb := hOfb.is; (try replace hIsa := hIsa.below hbfb); replace hc := bcall hc hbfb hc.size; obtain ⟨yfb0, yfb1, yfb2, yfb3⟩ := HNK.out wfb (bcall HUr.out hc HUr.out.size))
                  | (go_simp; go_at_call 10; (with_reducible refine Calls.mono HAPQ.out ?_); rintro e wz ⟨vz, rfl, hOz, hbz⟩; obtain ⟨pz, cz, rfl⟩ := hOz.is.slice; have hIz := hOz.is; have hCz := own_cap hOz; replace hc := bcall hcq hbz hcq.size))
                all_goals try simp only [List.getElem_toArray, List.getElem_cons_succ, List.getElem_cons_zero, Act.put, List.setIfInBounds_toArray, List.set_cons_zero, List.set_cons_succ]
                all_goals go_wp2_with fail
                all_goals go_meet
                all_goals exact ⟨_, _, rfl, rfl, hc, hIz, hCz⟩
              case rest =>
                obtain ⟨pq, cq, rfl, rfl, HX, IQ, CQ⟩ := hcut
                obtain ⟨w4, hw4⟩ : ∃ w4, w4 = wc := ⟨_, rfl⟩
                subst hw4
                have HB4 : Hid (Below w3.heap.size w3 w4) := bcall HB3.out HX.out HB3.out.size
                have IS4 := Lib.hid (HIS.out.below HX.out)
                have HPc := Lib.hid (HPL.out N m w4 _ _ HCS.out CQ.out IS4.out IQ.out)
                clear HIS HCS IQ CQ IS4 HX IAr IBr HWr HUr
                go_wp2_with fail
                refine (HPc.out).mono ?_
                rintro e w5 ⟨v5, rfl, hI5, hC5, hb5⟩
                have HI5 := Lib.hid hI5; have HC5 := Lib.hid hC5
                have HB5 : Hid (Below w3.heap.size w3 w5) := bcall HB4.out hb5 HB4.out.size
                clear hI5 hC5 hb5 HPc
                go_wp2
                go_roundg (N - (m + 1))
                case measure => omega
                case rel => exact ⟨m + 1, by omega, by omega, by go_num, HI5.out, HC5.out, HB5.out⟩
            · obtain rfl : m = N := by omega
              have HIz : Hid (RI.Is wr (.slice ps (lowK m m Z).length cs) Z) := by have h := HIS.out; rw [HLN.out] at h ⊢; exact h
              have IZr := Lib.hid (IZ.out.below HB3.out)
              have HWr : Hid (Below w.heap.size w wr) := bcall HW.out HB3.out HW.out.size
              clear HIS HCS HB3 HPL
              go_wp2_with fail
              refine (HSM.out _ _ _ IZr.out HIz.out).mono ?_
              rintro e w6 ⟨rfl, hb6⟩
              have HW6 : Hid (Below w.heap.size w w6) := bcall HWr.out hb6 HWr.out.size
              clear hb6
              go_wp2
              go_returns
              exact ⟨rfl, HW6.out⟩

  · clear hna hnb HA HB hI hR hP
    have hk' : ¬ (k = 6 ∨ k = 7 ∨ k = 8 ∨ k = 9 ∨ k = 14) := fun h => hk (decide_eq_true h)
    go_enter Try.func4, Try.ntmps4
    go_wp2_with fail
    refine (HAW.out _).mono ?_
    rintro e w1 ⟨rfl, hb1⟩
    have HW : Hid (Below w.heap.size w w1) := bcall (by go_grown) hb1 (by go_size)
    obtain ⟨n0, n1, n2, n3⟩ := node_kept w k s arg (.slice q p.length c) w1 hb1
    clear HAW hb1
    by_cases h6 : k < 6
    · go_wp2
      go_returns
      exact ⟨rfl, HW.out⟩
    · have h9 : 9 < k := by omega
      have h14 : ¬ k = 14 := by omega
      have hb14 : (k != 14) = true := by simpa using h14
      clear hk'
      go_wp2
      go_returns
      exact ⟨rfl, HW.out⟩
end Go.Proofs.Ytgmpgemgoplafaa
