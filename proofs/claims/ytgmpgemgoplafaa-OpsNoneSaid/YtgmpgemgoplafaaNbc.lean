/- OpsNone: the law's walk -/
import Derived.Test.YtgmpgemgoplafaaG41
import Derived.Test.YtgmpgemgoplafaaG10
import Derived.Deep.RegionLaw
import Derived.Deep.CutRange
namespace Go.Proofs.Ytgmpgemgoplafaa
open Go.RowKit
set_option linter.unusedVariables false
set_option linter.unusedSimpArgs false

/-- a row of one's own that is handed back, with the sizes that a walk wants -/
theorem own_is {B : Nat} {w : World} {v : Value} {t : List IV} (h : RI.Own B w v t) : RI.Is w v t ∧ capOk v := ⟨h.is, own_cap h⟩
theorem many_take {C : List IV} (h : ∀ x ∈ C, 0 < x.n) {m : Nat} : 0 ≤ manyO (C.take m) ∧ manyO (C.take m) ≤ manyO C := by
  have h1 := manyO_append (C.take m) (C.drop m)
  rw [List.take_append_drop] at h1
  have h2 := manyO_pos (l := C.take m) fun x hx => h x (List.mem_of_mem_take hx)
  have h3 := manyO_pos (l := C.drop m) fun x hx => h x (List.mem_of_mem_drop hx)
  omega
set_option maxRecDepth 100000 in
set_option maxHeartbeats 8000000 in
theorem opsNone_walk (k s arg : Int) (q : Option Addr) (c : Nat) (p : List NV) (xs ys : List IV) (va vb : Value) (w : World) (hI : RC.Is w (.slice q p.length c) p) (hR : inR arg) (hP : ∀ x ∈ p, inR x.n) (ha : RI.Is w va xs) (hb : RI.Is w vb ys)
    (hna : ∀ x ∈ xs, (inR x.t.k ∧ inR x.t.v) ∧ inR x.n) (hnb : ∀ x ∈ ys, (inR x.t.k ∧ inR x.t.v) ∧ inR x.n) :
    Calls Try.prog 5 #[.agg #[.int .i64 k, .int .i64 s, .int .i64 arg, .slice q p.length c], va, vb] w (Ret (.bool true) w) := by
  obtain ⟨pa, ca, rfl⟩ := ha.slice
  obtain ⟨pb, cb, rfl⟩ := hb.slice
  have HAW : Hid (∀ W, Calls Try.prog 7 #[] W (Ret (.bool true) W)) := fun W => awake_any W
  by_cases hs : p.length ≤ 100 ∧ xs.length ≤ 60 ∧ ys.length ≤ 60
  · have HSH : Hid (∀ W g, W.cell? ⟨g, 0, none⟩ = some (.slice pa xs.length ca) → W.cell? ⟨g, 1, none⟩ = some (.slice pb ys.length cb) → Calls Try.prog 14 #[.agg #[.int .i64 k, .int .i64 s, .int .i64 arg, .slice q p.length c], .slice (some ⟨g, 0, none⟩) 2 2] W (Ret (.bool true) W)) := fun W g h0 h1 => by
      have h := short_two (k := k) (s := s) (arg := arg) (q := q) (c := c) (p := p) h0 h1
      rw [decide_eq_true hs] at h
      exact h
    have hNA : NodeA w q c arg p := ⟨hI, by omega, hP, hR⟩
    have hPA : PortA w (.slice pa xs.length ca) xs := ⟨ha, by omega, fun x hx => (hna x hx).1⟩
    have hPB : PortA w (.slice pb ys.length cb) ys := ⟨hb, by omega, fun x hx => (hnb x hx).1⟩
    have ht0 : ∀ x ∈ thereI xs, 0 < x.n := fun x hx => (there_mem x hx).2.1
    have ht1 : ∀ x ∈ thereI ys, 0 < x.n := fun x hx => (there_mem x hx).2.1
    have hright := applyO_right (k := k) (arg := arg) (p := p) ht0 ht1
    have hnone := applyO_none k arg p
    have HA2 : Hid (∀ W g, Below w.heap.size w W → W.cell? ⟨g, 0, none⟩ = some (.slice pa xs.length ca) → W.cell? ⟨g, 1, none⟩ = some (.slice pb ys.length cb) → Calls Try.prog 10 #[.agg #[.int .i64 k, .int .i64 s, .int .i64 arg, .slice q p.length c], .slice (some ⟨g, 0, none⟩) 2 2] W (ApR k arg p (thereI xs) (thereI ys) W)) := fun W g hW h0 h1 =>
      apply_two (hNA.below hW) (hPA.below hW) (hPB.below hW) h0 h1
    have HA0 : Hid (∀ W, Below w.heap.size w W → Calls Try.prog 10 #[.agg #[.int .i64 k, .int .i64 s, .int .i64 arg, .slice q p.length c], .slice none 0 0] W (fun e W' => ∃ v, e = .returned (.tuple #[v, .bool true]) ∧ RI.Own W.heap.size W' v [] ∧ Below W.heap.size W W')) := fun W hW => by
      have h := apply_zero (k := k) (s := s) (hNA.below hW)
      refine h.mono ?_
      rintro e W' ⟨v, rfl, hO, hb⟩
      rw [hnone] at hO ⊢
      exact ⟨v, rfl, hO, hb⟩
    have HAE : Hid (∀ W g ua ub, Below w.heap.size w W → RI.Is W ua (thereI xs) → RI.Is W ub (thereI ys) → W.cell? ⟨g, 0, none⟩ = some ua → W.cell? ⟨g, 1, none⟩ = some ub → Calls Try.prog 10 #[.agg #[.int .i64 k, .int .i64 s, .int .i64 arg, .slice q p.length c], .slice (some ⟨g, 0, none⟩) 2 2] W (ApR k arg p (thereI xs) (thereI ys) W)) := fun W g ua ub hW hu hv h0 h1 => by
      have h := apply_two (k := k) (s := s) (hNA.below hW) (a := thereI xs) (b := thereI ys) ⟨hu, by have := there_len xs; omega, fun x hx => (hna x (there_mem x hx).1).1⟩ ⟨hv, by have := there_len ys; omega, fun x hx => (hnb x (there_mem x hx).1).1⟩ h0 h1
      rw [there_there, there_there] at h
      exact h
    have HT0 : Hid (∀ W, Below w.heap.size w W → Calls Try.prog 15 #[.slice pa xs.length ca] W (RI.Made (thereI xs) W)) := fun W hW => bthere_any xs _ W (by omega) (ha.below hW)
    have HT1 : Hid (∀ W, Below w.heap.size w W → Calls Try.prog 15 #[.slice pb ys.length cb] W (RI.Made (thereI ys) W)) := fun W hW => bthere_any ys _ W (by omega) (hb.below hW)
    have hAp : ∀ W e W', ApR k arg p (thereI xs) (thereI ys) W e W' → ∃ v, e = .returned (.tuple #[v, .bool (applyO k arg p (thereI xs) (thereI ys)).2]) ∧ RI.Own W.heap.size W' v (applyO k arg p (thereI xs) (thereI ys)).1 ∧ Below W.heap.size W W' := fun _ _ _ h => h
    unfold ApR at HA2 HAE
    clear hAp hnone ht0 ht1 hNA hPA hPB
    generalize hC : (applyO k arg p (thereI xs) (thereI ys)).1 = C at *
    generalize hO : (applyO k arg p (thereI xs) (thereI ys)).2 = ok at *
    clear hC hO
    have HLT : Hid ((thereI xs).length ≤ 60 ∧ (thereI ys).length ≤ 60) := ⟨Nat.le_trans (there_len xs) hs.2.1, Nat.le_trans (there_len ys) hs.2.2⟩
    generalize thereI xs = ta at *
    generalize thereI ys = tb at *
    have hCl : C.length ≤ 65536 := by have := manyO_len hright.2.1; omega
    have hRi : rightI C = true := (rightI_iff C).2 hright.1
    have hTh : thereI C = C := by
      unfold thereI
      rw [if_pos hRi]
      unfold posI
      exact List.filter_eq_self.2 fun x hx => decide_eq_true (hright.2.1 x hx)
    have HSM : Hid (∀ W u v, RI.Is W u C → RI.Is W v C → Calls Try.prog 12 #[u, v] W (Ret (.bool true) W)) := fun W u v hu hv => by
      have h := bsame_any C C u v W (by omega) (by omega) hu hv
      simpa using h
    have HRT : Hid (∀ W v, RI.Is W v C → Calls Try.prog 16 #[v] W (Ret (.bool true) W)) := fun W v hv => by
      have h := bright_any C v W (by omega) hv
      rw [hRi] at h
      exact h
    have HTC : Hid (∀ W v, RI.Is W v C → Calls Try.prog 15 #[v] W (RI.Made C W)) := fun W v hv => by
      have h := bthere_any C v W (by omega) hv
      rw [hTh] at h
      exact h
    have HC : Hid ((∀ x ∈ C, 0 < x.n) ∧ manyO C ≤ 65536 ∧ C.length ≤ 65536) := ⟨hright.2.1, hright.2.2.1, hCl⟩
    clear hright hCl hRi hTh hna hnb hI hR hP ha hb hs
    go_enter Try.func5, Try.ntmps5
    go_wp2_with fail
    refine (HAW.out _).mono ?_
    rintro e W1 ⟨rfl, hb1⟩
    have HB1 : Hid (Below w.heap.size w W1) := bcall (by go_grown) hb1 (by go_size)
    have hnd : ∀ V, Below W1.heap.size W1 V → V.cell? ⟨w.heap.size, 0, none⟩ = some (.int .i64 k) ∧ V.cell? ⟨w.heap.size, 1, none⟩ = some (.int .i64 s) ∧ V.cell? ⟨w.heap.size, 2, none⟩ = some (.int .i64 arg) ∧ V.cell? ⟨w.heap.size, 3, none⟩ = some (.slice q p.length c) := fun V hV => node_kept w _ _ _ _ V (hb1.trans (hV.mono hb1.size))
    have HND := Lib.hid hnd
    have HU1 := Lib.hid (Below.refl W1.heap.size W1)
    obtain ⟨n0, n1, n2, n3⟩ := hnd W1 (Below.refl _ _)
    clear HAW hb1 hnd
    go_wp2_with fail
    have e1 := World.alloc_heap_new W1 (.cells #[.slice pa xs.length ca, .slice pb ys.length cb] 28)
    have hal1 : Below W1.heap.size W1 (W1.alloc (.cells #[.slice pa xs.length ca, .slice pb ys.length cb] 28)) := (Below.refl _ _).alloc (Nat.le_refl _) _
    refine (HSH.out _ _ (cells_of e1 rfl) (cells_of e1 rfl)).mono ?_
    rintro e W2 ⟨rfl, hb2⟩
    have HU2 : Hid (Below W1.heap.size W1 W2) := bcall (bcall HU1.out hal1 HU1.out.size) hb2 (Nat.le_trans HU1.out.size hal1.size)
    clear n0 n1 n2 n3
    obtain ⟨n0, n1, n2, n3⟩ := HND.out W2 HU2.out
    clear HSH e1 hal1 hb2
    go_wp2_with fail
    have e2 := World.alloc_heap_new W2 (.cells #[.slice pa xs.length ca, .slice pb ys.length cb] 28)
    have hal2 : Below W2.heap.size W2 (W2.alloc (.cells #[.slice pa xs.length ca, .slice pb ys.length cb] 28)) := (Below.refl _ _).alloc (Nat.le_refl _) _
    refine (HA2.out _ _ (bcall HB1.out (bcall HU2.out hal2 HU2.out.size) HB1.out.size) (cells_of e2 rfl) (cells_of e2 rfl)).mono ?_
    rintro e W3 ⟨vc, rfl, hO3, hb3⟩
    obtain ⟨pc, cc, rfl⟩ := hO3.is.slice
    have HU3 : Hid (Below W1.heap.size W1 W3) := bcall (bcall HU2.out hal2 HU2.out.size) hb3 (Nat.le_trans HU2.out.size hal2.size)
    clear n0 n1 n2 n3
    obtain ⟨n0, n1, n2, n3⟩ := HND.out W3 HU3.out
    have HO3 := Lib.hid (own_is hO3)
    clear HA2 e2 hal2 hb3 hO3
    go_wp2_with fail
    refine (HA0.out _ (bcall HB1.out HU3.out HB1.out.size)).mono ?_
    rintro e W4 ⟨vd, rfl, hO4, hb4⟩
    obtain ⟨pd, cd, rfl⟩ := hO4.is.slice
    have HU4 : Hid (Below W1.heap.size W1 W4) := bcall HU3.out hb4 HU3.out.size
    clear n0 n1 n2 n3
    obtain ⟨n0, n1, n2, n3⟩ := HND.out W4 HU4.out
    have HIC : Hid (RI.Is W4 (.slice pc C.length cc) C) := HO3.out.1.below hb4
    clear HA0 hb4 hO4 HO3
    go_upto_region 7 with (fail)
    have HB4 : Hid (Below w.heap.size w W4) := bcall HB1.out HU4.out HB1.out.size
    have HN4 : Hid (∀ V, Below W4.heap.size W4 V → V.cell? ⟨w.heap.size, 0, none⟩ = some (.int .i64 k) ∧ V.cell? ⟨w.heap.size, 1, none⟩ = some (.int .i64 s) ∧ V.cell? ⟨w.heap.size, 2, none⟩ = some (.int .i64 arg) ∧ V.cell? ⟨w.heap.size, 3, none⟩ = some (.slice q p.length c)) := fun V hV => HND.out V (bcall HU4.out hV HU4.out.size)
    clear n0 n1 n2 n3 HND HU1 HU2 HU3 HU4
    go_cut [11, 12] from 36 to 45 (fun u v wx => ∃ pe ce, u = .slice pe C.length ce ∧ v = .bool ok ∧ Hid (RI.Is wx (.slice pe C.length ce) C) ∧ Hid (Below W4.heap.size W4 wx))
    case first =>
      obtain ⟨n0, n1, n2, n3⟩ := HN4.out _ (Below.refl _ _).drew
      go_region_law (first
        | (go_simp; go_at_call 15; (with_reducible refine Calls.mono (HT0.out _ (bcall HB4.out hub HB4.out.size)) ?_); rintro e Wa ⟨va, rfl, hOa, hba⟩; obtain ⟨qa, da, rfl⟩ := hOa.is.slice; have hIa := hOa.is; have hua := bcall hub hba hub.size; have hIb2 := hIb.below hba; have hIa2 := hIa; have huz := hua; obtain ⟨ya0, ya1, ya2, ya3⟩ := HN4.out Wa hua; obtain ⟨yz0, yz1, yz2, yz3⟩ := HN4.out (Wa.alloc (.cells #[.slice qa ta.length da, .slice qb tb.length db] 28)) (hua.alloc hua.size _); have hal : Below Wa.heap.size Wa (Wa.alloc (.cells #[.slice qa ta.length da, .slice qb tb.length db] 28)) := (Below.refl _ _).alloc (Nat.le_refl _) _; have ez := World.alloc_heap_new Wa (.cells #[.slice qa ta.length da, .slice qb tb.length db] 28); have HAPE := Lib.hid (HAE.out (Wa.alloc (.cells #[.slice qa ta.length da, .slice qb tb.length db] 28)) Wa.heap.size _ _ (bcall (bcall HB4.out hua HB4.out.size) hal (Nat.le_trans HB4.out.size hua.size)) (hIa2.below hal) (hIb2.below hal) (cells_of ez rfl) (cells_of ez rfl)); have huy := bcall hua hal hua.size)
        | (go_simp; go_at_call 15; (with_reducible refine Calls.mono (HT1.out _ (bcall HB4.out hua HB4.out.size)) ?_); rintro e Wb ⟨vb, rfl, hOb, hbb⟩; obtain ⟨qb, db, rfl⟩ := hOb.is.slice; have hIb := hOb.is; have hub := bcall hua hbb hua.size; have hIa2 := hIa.below hbb; have hIb2 := hIb; have huz := hub; obtain ⟨yb0, yb1, yb2, yb3⟩ := HN4.out Wb hub; obtain ⟨yz0, yz1, yz2, yz3⟩ := HN4.out (Wb.alloc (.cells #[.slice qa ta.length da, .slice qb tb.length db] 28)) (hub.alloc hub.size _); have hal : Below Wb.heap.size Wb (Wb.alloc (.cells #[.slice qa ta.length da, .slice qb tb.length db] 28)) := (Below.refl _ _).alloc (Nat.le_refl _) _; have ez := World.alloc_heap_new Wb (.cells #[.slice qa ta.length da, .slice qb tb.length db] 28); have HAPE := Lib.hid (HAE.out (Wb.alloc (.cells #[.slice qa ta.length da, .slice qb tb.length db] 28)) Wb.heap.size _ _ (bcall (bcall HB4.out hub HB4.out.size) hal (Nat.le_trans HB4.out.size hub.size)) (hIa2.below hal) (hIb2.below hal) (cells_of ez rfl) (cells_of ez rfl)); have huy := bcall hub hal hub.size)
        | (go_simp; go_at_call 15; (with_reducible refine Calls.mono (HT0.out _ HB4.out.drew) ?_); rintro e Wa ⟨va, rfl, hOa, hba⟩; obtain ⟨qa, da, rfl⟩ := hOa.is.slice; have hIa := hOa.is; have hua := bcall (Below.refl W4.heap.size W4).drew hba (Nat.le_refl _); obtain ⟨ya0, ya1, ya2, ya3⟩ := HN4.out Wa hua)
        | (go_simp; go_at_call 15; (with_reducible refine Calls.mono (HT1.out _ HB4.out.drew) ?_); rintro e Wb ⟨vb, rfl, hOb, hbb⟩; obtain ⟨qb, db, rfl⟩ := hOb.is.slice; have hIb := hOb.is; have hub := bcall (Below.refl W4.heap.size W4).drew hbb (Nat.le_refl _); obtain ⟨yb0, yb1, yb2, yb3⟩ := HN4.out Wb hub)
        | (go_simp; go_at_call 10; (with_reducible refine Calls.mono HAPE.out ?_); rintro e W8 ⟨ve, rfl, hO8, hb8⟩; obtain ⟨pe, ce, rfl⟩ := hO8.is.slice; have hI8 := hO8.is; have hu8 := bcall huy hb8 huy.size))
      all_goals try simp only [List.getElem_toArray, List.getElem_cons_succ, List.getElem_cons_zero, Act.put, List.setIfInBounds_toArray, List.set_cons_zero, List.set_cons_succ]
      all_goals go_wp2_with fail
      all_goals go_meet
      all_goals exact ⟨_, _, rfl, rfl, hI8, hu8⟩
    case rest =>
      obtain ⟨pe, ce, rfl, rfl, HIE, HU8⟩ := hcut
      have HIc : Hid (RI.Is wc (.slice pc C.length cc) C) := HIC.out.below HU8.out
      have HB8 : Hid (Below w.heap.size w wc) := bcall HB4.out HU8.out HB4.out.size
      clear HIC HU8 HB4 HB1 HT0 HT1 HAE HLT HN4
      have hok : (ok == ok) = true := by cases ok <;> rfl
      have hCl := HC.out.2.2
      go_wp2_with fail
      go_loopg [13, 14] C.length (fun gg t i wr => ∃ m : Nat, m ≤ C.length ∧ C.length - m ≤ gg ∧ t = .int .i64 (manyO (C.take m)) ∧ i = .int .i64 m ∧ wr = wc)
      case atStart => exact ⟨0, Nat.zero_le _, by omega, rfl, rfl, rfl⟩
      case round =>
        obtain ⟨m, hm, hg, rfl, rfl, rfl⟩ := hrel
        by_cases hlt : m < C.length
        · obtain ⟨b, off, rfl, hbl, hrow⟩ := is_row' HIc.out (by omega)
          have hc2 := (atI hrow m hlt).2.2
          have HMN := Lib.hid (many_next hlt)
          have hb1 := many_take HC.out.1 (m := m)
          have hy : 0 < (C[m]!).n ∧ manyO (C.take (m + 1)) ≤ manyO C := ⟨HC.out.1 _ (getA_mem hlt), (many_take HC.out.1 (m := m + 1)).2⟩
          rw [HMN.out] at hy
          have hM := HC.out.2.1
          have hlz : (m : Int) < (C.length : Int) := by omega
          generalize manyO (C.take m) = S at *
          generalize (C[m]!).n = y at *
          have hS : 0 ≤ S ∧ S ≤ 65536 ∧ 0 < y ∧ y ≤ 65536 := by omega
          have HS := Lib.hid hS
          clear hb1 hy hM hrow hok
          obtain ⟨hS1, hS2, hS3, hS4⟩ := hS
          go_wp2
          go_roundg (C.length - (m + 1))
          case measure => omega
          case rel => exact ⟨m + 1, by omega, by omega, by rw [HMN.out], by go_num, rfl⟩
        · obtain rfl : m = C.length := by omega
          have hM := HC.out.2.1
          rw [List.take_length]
          generalize manyO C = S at hM ⊢
          have hlz : ¬ (C.length : Int) < (C.length : Int) := by omega
          go_wp2_with fail
          refine (HSM.out _ _ _ HIc.out HIE.out).mono ?_
          rintro e W9 ⟨rfl, hb9⟩
          have HI9 : Hid (RI.Is W9 (.slice pc C.length cc) C) := HIc.out.below hb9
          have HB9 : Hid (Below w.heap.size w W9) := bcall HB8.out hb9 HB8.out.size
          clear hb9 HIE HIc
          go_wp2_with fail
          refine (HRT.out _ _ HI9.out).mono ?_
          rintro e W10 ⟨rfl, hb10⟩
          have HI10 : Hid (RI.Is W10 (.slice pc C.length cc) C) := HI9.out.below hb10
          have HB10 : Hid (Below w.heap.size w W10) := bcall HB9.out hb10 HB9.out.size
          clear hb10
          go_wp2_with fail
          refine (HTC.out _ _ HI10.out).mono ?_
          rintro e W11 ⟨v11, rfl, hO11, hb11⟩
          have HI11 : Hid (RI.Is W11 (.slice pc C.length cc) C) := HI10.out.below hb11
          have HB11 : Hid (Below w.heap.size w W11) := bcall HB10.out hb11 HB10.out.size
          have HO11 := Lib.hid hO11.is
          obtain ⟨p11, c11, rfl⟩ := hO11.is.slice
          clear hb11 hO11
          go_wp2_with fail
          refine (HSM.out _ _ _ HO11.out HI11.out).mono ?_
          rintro e W12 ⟨rfl, hb12⟩
          have HB12 : Hid (Below w.heap.size w W12) := bcall HB11.out hb12 HB11.out.size
          clear hb12
          go_wp2
          go_returns
          exact ⟨rfl, HB12.out⟩

  · have HSH : Hid (∀ W g, W.cell? ⟨g, 0, none⟩ = some (.slice pa xs.length ca) → W.cell? ⟨g, 1, none⟩ = some (.slice pb ys.length cb) → Calls Try.prog 14 #[.agg #[.int .i64 k, .int .i64 s, .int .i64 arg, .slice q p.length c], .slice (some ⟨g, 0, none⟩) 2 2] W (Ret (.bool false) W)) := fun W g h0 h1 => by
      have h := short_two (k := k) (s := s) (arg := arg) (q := q) (c := c) (p := p) h0 h1
      rw [decide_eq_false hs] at h
      exact h
    clear hna hnb hI hR hP ha hb hs
    go_enter Try.func5, Try.ntmps5
    go_wp2_with fail
    refine (HAW.out _).mono ?_
    rintro e W1 ⟨rfl, hb1⟩
    have HB1 : Hid (Below w.heap.size w W1) := bcall (by go_grown) hb1 (by go_size)
    obtain ⟨n0, n1, n2, n3⟩ := node_kept w _ _ _ _ W1 hb1
    clear HAW hb1
    go_wp2_with fail
    have e1 := World.alloc_heap_new W1 (.cells #[.slice pa xs.length ca, .slice pb ys.length cb] 28)
    have hal1 : Below W1.heap.size W1 (W1.alloc (.cells #[.slice pa xs.length ca, .slice pb ys.length cb] 28)) := (Below.refl _ _).alloc (Nat.le_refl _) _
    refine (HSH.out _ _ (cells_of e1 rfl) (cells_of e1 rfl)).mono ?_
    rintro e W2 ⟨rfl, hb2⟩
    have HB2 : Hid (Below w.heap.size w W2) := bcall (bcall HB1.out hal1 HB1.out.size) hb2 (Nat.le_trans HB1.out.size hal1.size)
    clear HSH e1 hal1 hb2
    go_wp2
    go_returns
    exact ⟨rfl, HB2.out⟩
end Go.Proofs.Ytgmpgemgoplafaa
