/- the program's Come, where all is right -/
import Derived.Test.YthhceggcdaljdaaGreatG17
import Derived.Test.YthhceggcdaljdaaGreatG16
import Derived.Deep.RegionHeldLaw
namespace Go.Proofs.YthhceggcdaljdaaGreat
open Go.RowKit
set_option linter.unusedVariables false
set_option linter.unusedSimpArgs false

set_option maxRecDepth 100000 in
set_option maxHeartbeats 16000000 in
theorem pcome_good0 (c : List SV) (v : Value) (kind : Int) (t : TV) (r : RV) (n : Int) (w : World) (hs : SmallC 100000 c) (h : IsCl w v c) (q2 : ¬ n = 0) (q3 : ¬ n < -2147483648) (q4 : ¬ 2147483648 < n) : Calls Tryz.prog 10 #[v, .int .i64 kind, .int .i64 0, TV.val t, RV.val r, .int .i64 n] w (ComeR c kind 0 t r n w) := by
  have hok : comeOk c 0 t n = (t.ok && rightSl c) := by
    unfold comeOk
    rw [decide_eq_true (by omega : ((0 : Int) = 0 ∨ (0 : Int) = 1) ∧ n ≠ 0 ∧ n ≤ 2147483648 ∧ -2147483648 ≤ n), Bool.and_true]
  have d2 : (n == 0) = false := by simp; exact q2
  have d3 : decide (n < -2147483648) = false := decide_eq_false q3
  have d4 : decide (2147483648 < n) = false := decide_eq_false q4
  clear q2 q3 q4
  have HOk := Lib.hid hok
  clear hok
  have HSt := Lib.hid (fun (hc : GoodSl c) (ht : t.ok = true) k (h : AtK c t k) => come_steps hc ht h kind 0 r n)
  have HSm := Lib.hid (fun (k : Nat) => begunS_len c t k)
  have HXs : Hid ((xS c t).a.length ≤ 100000 ∧ (xS c t).b.length ≤ 100000) := by
    unfold xS
    cases e : lookS c t with
    | none => exact ⟨Nat.zero_le _, Nat.zero_le _⟩
    | some x => exact ⟨(hs.2 x (lookS_mem e).1).1, (hs.2 x (lookS_mem e).1).2.1⟩
  generalize hR : ComeR c kind 0 t r n w = R at *
  have HNo : Hid (∀ w' u, (t.ok && rightSl c) = false → IsCl w' u c → capOk u → Below w.heap.size w w' → R (.returned (.tuple #[u, .bool false, .bool false])) w') := fun w' u h0 h1 h2 h3 => hR ▸ come_no (HOk.out.trans h0) h1 h2 h3
  have HYes : Hid (∀ w' u l d, (t.ok && rightSl c) = true → l = lateL kind t c → d = comeS c kind 0 t r n → IsCl w' u d → capOk u → Below w.heap.size w w' → R (.returned (.tuple #[u, .bool l, .bool true])) w') := fun w' u l d h0 h1 h2 h3 h4 h5 => hR ▸ come_yes (HOk.out.trans h0) h1 h2 h3 h4 h5
  clear hR HOk
  have HC := Lib.hid h
  obtain ⟨xs, hx0, hx1⟩ := h
  obtain ⟨pv, kv, rfl⟩ := hx0.slice
  obtain ⟨td, t0, t1, t2, t3⟩ := t
  obtain ⟨rk, rv⟩ := r
  have hb0 := ((Below.refl w.heap.size w).alloc (Nat.le_refl _) (.cells #[.int .i64 td, .int .i64 t0, .int .i64 t1, .int .i64 t2, .int .i64 t3] 25)).alloc (by simp) (.cells #[.int .i64 rk, .int .i64 rv] 27)
  have hbt := (BT5.new w ⟨td, t0, t1, t2, t3⟩).more (.cells #[.int .i64 rk, .int .i64 rv] 27)
  have hbr := BR2.new (w.alloc (.cells #[.int .i64 td, .int .i64 t0, .int .i64 t1, .int .i64 t2, .int .i64 t3] 25)) ⟨rk, rv⟩
  rw [World.size_alloc] at hbr
  dsimp only at hbt hbr
  go_enter Tryz.func10, Tryz.ntmps10
  go_upto_region 1 with (fail)
  generalize (w.alloc (.cells #[.int .i64 td, .int .i64 t0, .int .i64 t1, .int .i64 t2, .int .i64 t3] 25)).alloc (.cells #[.int .i64 rk, .int .i64 rv] 27) = w0 at *
  have HB0 := Lib.hid hb0
  have hA0 := hx1.below hb0
  have HCl := Lib.hid (pcloneC_any xs _ w0 (by have := hs.1; have := hx1.1; omega) (hx0.below hb0))
  have HBt := Lib.hid hbt
  have HBr := Lib.hid hbr
  have HBt0 := HBt
  have hbrl := hbr.l
  clear hb0 hbt hbr
  have HBr0 : Hid (w.heap.size + 1 < w0.heap.size) := hbrl
  have hcl : c.length ≤ 100000 := hs.1
  have HSC := Lib.hid (hs.mono (show 100000 ≤ 900000 by decide))
  have HRC := Lib.hid (fun W hi => prightC_any c (.slice pv xs.length kv) W HSC.out hi)
  have hA0 := Lib.hid hA0
  have HC0 := Lib.hid (HC.out.below HB0.out)
  have HbB : Hid (w.heap.size ≤ w0.heap.size) := HB0.out.size
  clear HC
  generalize w.heap.size = bt at *
  generalize hB : w0.heap.size = B at *
  go_wp2_with fail
  refine (HCl.out).mono ?_
  rintro e w1 ⟨v1, rfl, hO1, hb1⟩
  have HB1 : Hid (Below B w0 w1) := hB ▸ hb1
  have HOC1 : Hid (OwnC B w1 v1 xs c) := hB ▸ OwnC.copy hO1 hA0.out hb1
  have HC1 := Lib.hid (HC0.out.below hb1)
  have HBt1 := Lib.hid (HBt.out.below hb1)
  have HT := Lib.hid (fun W => ok_any ⟨td, t0, t1, t2, t3⟩ W)
  obtain ⟨z0, z1, z2, z3, z4, zl⟩ := HBt1.out
  dsimp only at z0 z1 z2 z3 z4
  clear hO1 hb1 HCl hA0
  generalize hto : TV.ok ⟨td, t0, t1, t2, t3⟩ = tok at *
  go_wp2_with fail
  refine (HT.out _).mono ?_
  rintro e w2 ⟨rfl, hb2⟩
  have HB2 := Lib.hid (bcall HB1.out hb2 (hB ▸ HB1.out.size))
  have HOC2 := Lib.hid (HOC1.out.below hb2)
  have HC2 := Lib.hid (HC1.out.below hb2)
  have HBt2 := Lib.hid (HBt1.out.below hb2)
  clear hb2 HT z0 z1 z2 z3 z4 zl HC1 HBt1
  cases tok
  · have HX := Lib.hid (HNo.out w2 v1 rfl HOC2.out.is (ownCapC HOC2.out.own) (HB0.out.trans (HB2.out.mono HbB.out)))
    clear HNo HYes
    go_wp2
    exact HX.out
  · have HR2 := Lib.hid (HRC.out _ HC2.out)
    clear HRC HB1 HOC1
    generalize hrc : rightSl c = rc at *
    go_wp2_with fail
    refine (HR2.out).mono ?_
    rintro e w3 ⟨rfl, hb3⟩
    have HB3 := Lib.hid (bcall HB2.out hb3 (hB ▸ HB2.out.size))
    have HOC3 := Lib.hid (HOC2.out.below hb3)
    have HBt3 := Lib.hid (HBt2.out.below hb3)
    clear hb3 HR2 HB2 HOC2 HC2 HBt2
    cases rc
    · have HX := Lib.hid (HNo.out w3 v1 rfl HOC3.out.is (ownCapC HOC3.out.own) (HB0.out.trans (HB3.out.mono HbB.out)))
      clear HNo HYes
      go_wp2
      exact HX.out
    · have HGo : Hid (GoodSl c) := (by first | exact of_decide_eq_true (p := GoodSl c) hrc | skip)
      have HY := Lib.hid (fun w' u l d => HYes.out w' u l d rfl)
      have HBe := Lib.hid (pbegun_any xs c v1 ⟨td, t0, t1, t2, t3⟩ B w3 HOC3.out (by omega) (hB ▸ HB3.out.size))
      have hlen := HOC3.out.len
      obtain ⟨z0, z1, z2, z3, z4, zl⟩ := HBt3.out
      dsimp only at z0 z1 z2 z3 z4
      clear HNo HYes hrc
      go_wp2_with fail
      refine (HBe.out).mono ?_
      rintro e w4 ⟨v4, xs4, k, rfl, hat, hO4, hG4⟩
      have HB4 := Lib.hid (below_grownC HB3.out (hB ▸ HB3.out.size) hG4 (fun b e => (HOC3.out.own.lt b e).1))
      have HBt4 := Lib.hid (HBt.out.below (hB.symm ▸ HB4.out))
      have HBr4 := Lib.hid (HBr.out.below (hB.symm ▸ HB4.out))
      obtain ⟨o, hk, hko, hox, hlate, hres⟩ := HSt.out HGo.out (by trivial) k hat
      have hN := HSm.out k
      clear hG4 HBe z0 z1 z2 z3 z4 zl HBt3 HB3 HOC3 HSt hat
      have hxo := hO4.are.2 k hk
      rw [hko] at hxo
      have hl4 := hO4.len
      have hoa := HXs.out
      rw [← hox] at hoa
      generalize begunS c ⟨td, t0, t1, t2, t3⟩ k = d4 at *
      obtain ⟨g, cap, rfl, hBg, hgl, hfr, hcells⟩ := hO4.row (by omega)
      rw [hl4] at hO4 ⊢
      have hcell := (hcells k (by omega)).2.2.2.2.2.1
      have hap := hO4.off xs4[k]! (by rw [getElem!_pos xs4 k (by omega)]; exact List.getElem_mem _)
      have HAdd := Lib.hid (fun W (hW : Below w4.heap.size w4 W) => baddM_any o.a ⟨rk, rv⟩ n _ W (by have := hoa; omega) (fun p m cc e => by cases e; exact hxo.k0) (hxo.l0.below hW))
      have HSet : Hid (∀ W p m cc, Below w4.heap.size w4 W → RI.Own W.heap.size W (.slice p m cc) (addI o.a ⟨rk, rv⟩ n) ∨ RI.Own w4.heap.size W (.slice p m cc) (addI o.a ⟨rk, rv⟩ n) → ∃ xs5, OwnC B (W.setCell ⟨g, k * 10 + 5, none⟩ (.slice p m cc)) (.slice (some ⟨g, 0, none⟩) d4.length cap) xs5 (d4.set k (addS o 0 ⟨rk, rv⟩ n)) ∧ Below B w0 (W.setCell ⟨g, k * 10 + 5, none⟩ (.slice p m cc))) := fun W p m cc hW hO => by
        have hO2 : ∃ B2, RI.Own B2 W (.slice p m cc) (addI o.a ⟨rk, rv⟩ n) := by rcases hO with h | h <;> exact ⟨_, h⟩
        obtain ⟨B2, hO2⟩ := hO2
        have hOW := hO4.below hW
        have hm : m = (addI o.a ⟨rk, rv⟩ n).length := by obtain ⟨p', c', e⟩ := hO2.is.slice; simp only [Value.slice.injEq] at e; exact e.2.1
        have hxs := isSl_add (hxo.below hW) 0 (by omega) ⟨rk, rv⟩ n (l := addI o.a ⟨rk, rv⟩ n) rfl hm (ownCapI hO2 _ _ _ rfl) hO2.is
        have hap2 := hap.below hW
        have r := hOW.setOne (i := k) (j := 5) (by omega) (by decide) rfl (u := .slice p m cc) (x := ⟨xs4[k]!.t, p, m, cc, xs4[k]!.p1, xs4[k]!.n1, xs4[k]!.c1, xs4[k]!.p2, xs4[k]!.n2, xs4[k]!.c2, xs4[k]!.d, xs4[k]!.f⟩) rfl hxs ⟨own_offK hO2, hap2.p1, hap2.p2⟩
        exact ⟨_, r.1, below_grownC (HB4.out.trans (hW.mono (hB ▸ HB4.out.size))) (Nat.le_trans (hB ▸ HB4.out.size) hW.size) r.2 (fun b e => by cases e; exact hBg)⟩
      have f4 : w4.frozen? ⟨g, k * 10 + 5, none⟩ = false := hfr _
      have HGl := Lib.hid hgl
      have hk4 : (k : Int) < (d4.length : Int) := by omega
      have hx4 : d4.length ≤ 100001 := by omega
      generalize xs4[k]! = x at *
      obtain ⟨xt, p0, n0, c0, p1, n1, c1, p2, n2, c2, xd, xf⟩ := x
      dsimp only at hcell HAdd
      have HK : Hid (∀ W, Below w4.heap.size w4 W → W.cell? ⟨g, k * 10 + 5, none⟩ = some (.slice p0 n0 c0) ∧ W.frozen? ⟨g, k * 10 + 5, none⟩ = false ∧ W.cell? ⟨bt + 1, 0, none⟩ = some (.int .i64 rk) ∧ W.cell? ⟨bt + 1, 1, none⟩ = some (.int .i64 rv)) := fun W hW => ⟨(hW.cell (p := ⟨g, k * 10 + 5, none⟩) HGl.out).trans hcell, ((bcell hW).2 g (k * 10 + 5) HGl.out).trans f4, (HBr4.out.below hW).c0, (HBr4.out.below hW).c1⟩
      obtain ⟨e5, e5f, e0, e1⟩ := HK.out w4 (Below.refl _ _)
      have HSm5 : Hid ((d4.set k (addS o 0 ⟨rk, rv⟩ n)).length ≤ 800000) := by rw [Hid, List.length_set]; omega
      have HKl : Hid (k < ((d4.set k (addS o 0 ⟨rk, rv⟩ n)).map (soilS kind ⟨td, t0, t1, t2, t3⟩)).length ∧ ((d4.set k (addS o 0 ⟨rk, rv⟩ n)).map (soilS kind ⟨td, t0, t1, t2, t3⟩)).length ≤ 900000) := by rw [Hid, List.length_map, List.length_set]; exact ⟨hk, by omega⟩
      have HLate := Lib.hid hlate
      have HRes := Lib.hid hres
      generalize d4.set k (addS o 0 ⟨rk, rv⟩ n) = d5 at *
      have HOx := Lib.hid HBr0.out
      clear hlate hres hO4 hxo hap hcell f4 hfr hcells hko hox hoa hN HXs hgl HC0 HBt HBr hx0 hx1 hs hl4 hlen hto HSm HSC HBr4 HBt4 HGo
      go_upto_region 7 with (fail)
      go_region_with (go_at_call 49; refine (HAdd.out _ (by repeat' (first | exact Below.refl _ _ | apply Below.drew | apply below_drewN))).mono ?_; rintro e wa ⟨va, rfl, hOa, hBa⟩; obtain ⟨pa, ca, rfl⟩ := hOa.is.slice; have hB1 : Below w4.heap.size w4 wa := bcall (by repeat' (first | exact Below.refl _ _ | apply Below.drew | apply below_drewN)) hBa (Nat.le_refl _); obtain ⟨y5, y5f, y0, y1⟩ := HK.out wa hB1)
      all_goals
        try simp only [List.getElem_toArray, List.getElem_cons_succ, List.getElem_cons_zero, Act.put, List.setIfInBounds_toArray, List.set_cons_zero, List.set_cons_succ]
        obtain ⟨xs5, hO5, hb5⟩ := HSet.out wa _ _ _ hB1 (.inr hOa)
        refine gen_q (fun W => OwnC B W (.slice (some ⟨g, 0, none⟩) d4.length cap) xs5 d5 ∧ Below B w0 W) ⟨hO5, hb5⟩ ?_
        rintro w5 ⟨hO5, hb5⟩
        have HO5 := Lib.hid hO5
        have HB5 := Lib.hid hb5
        obtain ⟨z0, z1, z2, z3, z4, zl⟩ := HBt0.out.below (hB.symm ▸ hb5)
        dsimp only at z0 z1 z2 z3 z4
        have HSo := Lib.hid (psoil_any xs5 d5 _ kind ⟨td, t0, t1, t2, t3⟩ B w5 hO5 HSm5.out (hB ▸ hb5.size))
        clear hO5 hb5 hB1 hOa hBa HSet HAdd HK e5 e5f e0 e1 y5 y5f y0 y1
        go_wp2_with fail
        refine (HSo.out).mono ?_
        rintro e w6 ⟨xs6, rfl, hO6, hG6⟩
        have HB6 := Lib.hid (below_grownC HB5.out (hB ▸ HB5.out.size) hG6 (fun b e => (HO5.out.own.lt b e).1))
        have HWo := Lib.hid (pwithout_any xs6 _ _ k B w6 hO6 HKl.out.1 HKl.out.2 (hB ▸ HB6.out.size))
        have HO6 := Lib.hid hO6
        rw [HRes.out] at HWo
        clear hO6 hG6 HSo z0 z1 z2 z3 z4 zl HB5
        go_wp2_with fail
        refine (HWo.out).mono ?_
        rintro e w7 ⟨v7, xs7, rfl, hO7, hG7⟩
        have HB7 := below_grownC HB6.out (hB ▸ HB6.out.size) hG7 (fun b e => (HO6.out.own.lt b e).1)
        have HX := Lib.hid (HY.out w7 v7 _ _ HLate.out rfl hO7.is (ownCapC hO7.own) (HB0.out.trans (HB7.mono HbB.out)))
        clear hO7 hG7 HB7 HWo HY
        go_wp2
        exact HX.out
set_option maxRecDepth 100000 in
set_option maxHeartbeats 16000000 in
theorem pcome_good1 (c : List SV) (v : Value) (kind : Int) (t : TV) (r : RV) (n : Int) (w : World) (hs : SmallC 100000 c) (h : IsCl w v c) (q2 : ¬ n = 0) (q3 : ¬ n < -2147483648) (q4 : ¬ 2147483648 < n) : Calls Tryz.prog 10 #[v, .int .i64 kind, .int .i64 1, TV.val t, RV.val r, .int .i64 n] w (ComeR c kind 1 t r n w) := by
  have hok : comeOk c 1 t n = (t.ok && rightSl c) := by
    unfold comeOk
    rw [decide_eq_true (by omega : ((1 : Int) = 0 ∨ (1 : Int) = 1) ∧ n ≠ 0 ∧ n ≤ 2147483648 ∧ -2147483648 ≤ n), Bool.and_true]
  have d2 : (n == 0) = false := by simp; exact q2
  have d3 : decide (n < -2147483648) = false := decide_eq_false q3
  have d4 : decide (2147483648 < n) = false := decide_eq_false q4
  clear q2 q3 q4
  have HOk := Lib.hid hok
  clear hok
  have HSt := Lib.hid (fun (hc : GoodSl c) (ht : t.ok = true) k (h : AtK c t k) => come_steps hc ht h kind 1 r n)
  have HSm := Lib.hid (fun (k : Nat) => begunS_len c t k)
  have HXs : Hid ((xS c t).a.length ≤ 100000 ∧ (xS c t).b.length ≤ 100000) := by
    unfold xS
    cases e : lookS c t with
    | none => exact ⟨Nat.zero_le _, Nat.zero_le _⟩
    | some x => exact ⟨(hs.2 x (lookS_mem e).1).1, (hs.2 x (lookS_mem e).1).2.1⟩
  generalize hR : ComeR c kind 1 t r n w = R at *
  have HNo : Hid (∀ w' u, (t.ok && rightSl c) = false → IsCl w' u c → capOk u → Below w.heap.size w w' → R (.returned (.tuple #[u, .bool false, .bool false])) w') := fun w' u h0 h1 h2 h3 => hR ▸ come_no (HOk.out.trans h0) h1 h2 h3
  have HYes : Hid (∀ w' u l d, (t.ok && rightSl c) = true → l = lateL kind t c → d = comeS c kind 1 t r n → IsCl w' u d → capOk u → Below w.heap.size w w' → R (.returned (.tuple #[u, .bool l, .bool true])) w') := fun w' u l d h0 h1 h2 h3 h4 h5 => hR ▸ come_yes (HOk.out.trans h0) h1 h2 h3 h4 h5
  clear hR HOk
  have HC := Lib.hid h
  obtain ⟨xs, hx0, hx1⟩ := h
  obtain ⟨pv, kv, rfl⟩ := hx0.slice
  obtain ⟨td, t0, t1, t2, t3⟩ := t
  obtain ⟨rk, rv⟩ := r
  have hb0 := ((Below.refl w.heap.size w).alloc (Nat.le_refl _) (.cells #[.int .i64 td, .int .i64 t0, .int .i64 t1, .int .i64 t2, .int .i64 t3] 25)).alloc (by simp) (.cells #[.int .i64 rk, .int .i64 rv] 27)
  have hbt := (BT5.new w ⟨td, t0, t1, t2, t3⟩).more (.cells #[.int .i64 rk, .int .i64 rv] 27)
  have hbr := BR2.new (w.alloc (.cells #[.int .i64 td, .int .i64 t0, .int .i64 t1, .int .i64 t2, .int .i64 t3] 25)) ⟨rk, rv⟩
  rw [World.size_alloc] at hbr
  dsimp only at hbt hbr
  go_enter Tryz.func10, Tryz.ntmps10
  go_upto_region 1 with (fail)
  generalize (w.alloc (.cells #[.int .i64 td, .int .i64 t0, .int .i64 t1, .int .i64 t2, .int .i64 t3] 25)).alloc (.cells #[.int .i64 rk, .int .i64 rv] 27) = w0 at *
  have HB0 := Lib.hid hb0
  have hA0 := hx1.below hb0
  have HCl := Lib.hid (pcloneC_any xs _ w0 (by have := hs.1; have := hx1.1; omega) (hx0.below hb0))
  have HBt := Lib.hid hbt
  have HBr := Lib.hid hbr
  have HBt0 := HBt
  have hbrl := hbr.l
  clear hb0 hbt hbr
  have HBr0 : Hid (w.heap.size + 1 < w0.heap.size) := hbrl
  have hcl : c.length ≤ 100000 := hs.1
  have HSC := Lib.hid (hs.mono (show 100000 ≤ 900000 by decide))
  have HRC := Lib.hid (fun W hi => prightC_any c (.slice pv xs.length kv) W HSC.out hi)
  have hA0 := Lib.hid hA0
  have HC0 := Lib.hid (HC.out.below HB0.out)
  have HbB : Hid (w.heap.size ≤ w0.heap.size) := HB0.out.size
  clear HC
  generalize w.heap.size = bt at *
  generalize hB : w0.heap.size = B at *
  go_wp2_with fail
  refine (HCl.out).mono ?_
  rintro e w1 ⟨v1, rfl, hO1, hb1⟩
  have HB1 : Hid (Below B w0 w1) := hB ▸ hb1
  have HOC1 : Hid (OwnC B w1 v1 xs c) := hB ▸ OwnC.copy hO1 hA0.out hb1
  have HC1 := Lib.hid (HC0.out.below hb1)
  have HBt1 := Lib.hid (HBt.out.below hb1)
  have HT := Lib.hid (fun W => ok_any ⟨td, t0, t1, t2, t3⟩ W)
  obtain ⟨z0, z1, z2, z3, z4, zl⟩ := HBt1.out
  dsimp only at z0 z1 z2 z3 z4
  clear hO1 hb1 HCl hA0
  generalize hto : TV.ok ⟨td, t0, t1, t2, t3⟩ = tok at *
  go_wp2_with fail
  refine (HT.out _).mono ?_
  rintro e w2 ⟨rfl, hb2⟩
  have HB2 := Lib.hid (bcall HB1.out hb2 (hB ▸ HB1.out.size))
  have HOC2 := Lib.hid (HOC1.out.below hb2)
  have HC2 := Lib.hid (HC1.out.below hb2)
  have HBt2 := Lib.hid (HBt1.out.below hb2)
  clear hb2 HT z0 z1 z2 z3 z4 zl HC1 HBt1
  cases tok
  · have HX := Lib.hid (HNo.out w2 v1 rfl HOC2.out.is (ownCapC HOC2.out.own) (HB0.out.trans (HB2.out.mono HbB.out)))
    clear HNo HYes
    go_wp2
    exact HX.out
  · have HR2 := Lib.hid (HRC.out _ HC2.out)
    clear HRC HB1 HOC1
    generalize hrc : rightSl c = rc at *
    go_wp2_with fail
    refine (HR2.out).mono ?_
    rintro e w3 ⟨rfl, hb3⟩
    have HB3 := Lib.hid (bcall HB2.out hb3 (hB ▸ HB2.out.size))
    have HOC3 := Lib.hid (HOC2.out.below hb3)
    have HBt3 := Lib.hid (HBt2.out.below hb3)
    clear hb3 HR2 HB2 HOC2 HC2 HBt2
    cases rc
    · have HX := Lib.hid (HNo.out w3 v1 rfl HOC3.out.is (ownCapC HOC3.out.own) (HB0.out.trans (HB3.out.mono HbB.out)))
      clear HNo HYes
      go_wp2
      exact HX.out
    · have HGo : Hid (GoodSl c) := (by first | exact of_decide_eq_true (p := GoodSl c) hrc | skip)
      have HY := Lib.hid (fun w' u l d => HYes.out w' u l d rfl)
      have HBe := Lib.hid (pbegun_any xs c v1 ⟨td, t0, t1, t2, t3⟩ B w3 HOC3.out (by omega) (hB ▸ HB3.out.size))
      have hlen := HOC3.out.len
      obtain ⟨z0, z1, z2, z3, z4, zl⟩ := HBt3.out
      dsimp only at z0 z1 z2 z3 z4
      clear HNo HYes hrc
      go_wp2_with fail
      refine (HBe.out).mono ?_
      rintro e w4 ⟨v4, xs4, k, rfl, hat, hO4, hG4⟩
      have HB4 := Lib.hid (below_grownC HB3.out (hB ▸ HB3.out.size) hG4 (fun b e => (HOC3.out.own.lt b e).1))
      have HBt4 := Lib.hid (HBt.out.below (hB.symm ▸ HB4.out))
      have HBr4 := Lib.hid (HBr.out.below (hB.symm ▸ HB4.out))
      obtain ⟨o, hk, hko, hox, hlate, hres⟩ := HSt.out HGo.out (by trivial) k hat
      have hN := HSm.out k
      clear hG4 HBe z0 z1 z2 z3 z4 zl HBt3 HB3 HOC3 HSt hat
      have hxo := hO4.are.2 k hk
      rw [hko] at hxo
      have hl4 := hO4.len
      have hoa := HXs.out
      rw [← hox] at hoa
      generalize begunS c ⟨td, t0, t1, t2, t3⟩ k = d4 at *
      obtain ⟨g, cap, rfl, hBg, hgl, hfr, hcells⟩ := hO4.row (by omega)
      rw [hl4] at hO4 ⊢
      have hcell := (hcells k (by omega)).2.2.2.2.2.2.1
      have hap := hO4.off xs4[k]! (by rw [getElem!_pos xs4 k (by omega)]; exact List.getElem_mem _)
      have HAdd := Lib.hid (fun W (hW : Below w4.heap.size w4 W) => baddM_any o.b ⟨rk, rv⟩ n _ W (by have := hoa; omega) (fun p m cc e => by cases e; exact hxo.k1) (hxo.l1.below hW))
      have HSet : Hid (∀ W p m cc, Below w4.heap.size w4 W → RI.Own W.heap.size W (.slice p m cc) (addI o.b ⟨rk, rv⟩ n) ∨ RI.Own w4.heap.size W (.slice p m cc) (addI o.b ⟨rk, rv⟩ n) → ∃ xs5, OwnC B (W.setCell ⟨g, k * 10 + 6, none⟩ (.slice p m cc)) (.slice (some ⟨g, 0, none⟩) d4.length cap) xs5 (d4.set k (addS o 1 ⟨rk, rv⟩ n)) ∧ Below B w0 (W.setCell ⟨g, k * 10 + 6, none⟩ (.slice p m cc))) := fun W p m cc hW hO => by
        have hO2 : ∃ B2, RI.Own B2 W (.slice p m cc) (addI o.b ⟨rk, rv⟩ n) := by rcases hO with h | h <;> exact ⟨_, h⟩
        obtain ⟨B2, hO2⟩ := hO2
        have hOW := hO4.below hW
        have hm : m = (addI o.b ⟨rk, rv⟩ n).length := by obtain ⟨p', c', e⟩ := hO2.is.slice; simp only [Value.slice.injEq] at e; exact e.2.1
        have hxs := isSl_add (hxo.below hW) 1 (by omega) ⟨rk, rv⟩ n (l := addI o.b ⟨rk, rv⟩ n) rfl hm (ownCapI hO2 _ _ _ rfl) hO2.is
        have hap2 := hap.below hW
        have r := hOW.setOne (i := k) (j := 6) (by omega) (by decide) rfl (u := .slice p m cc) (x := ⟨xs4[k]!.t, xs4[k]!.p0, xs4[k]!.n0, xs4[k]!.c0, p, m, cc, xs4[k]!.p2, xs4[k]!.n2, xs4[k]!.c2, xs4[k]!.d, xs4[k]!.f⟩) rfl hxs ⟨hap2.p0, own_offK hO2, hap2.p2⟩
        exact ⟨_, r.1, below_grownC (HB4.out.trans (hW.mono (hB ▸ HB4.out.size))) (Nat.le_trans (hB ▸ HB4.out.size) hW.size) r.2 (fun b e => by cases e; exact hBg)⟩
      have f4 : w4.frozen? ⟨g, k * 10 + 6, none⟩ = false := hfr _
      have HGl := Lib.hid hgl
      have hk4 : (k : Int) < (d4.length : Int) := by omega
      have hx4 : d4.length ≤ 100001 := by omega
      generalize xs4[k]! = x at *
      obtain ⟨xt, p0, n0, c0, p1, n1, c1, p2, n2, c2, xd, xf⟩ := x
      dsimp only at hcell HAdd
      have HK : Hid (∀ W, Below w4.heap.size w4 W → W.cell? ⟨g, k * 10 + 6, none⟩ = some (.slice p1 n1 c1) ∧ W.frozen? ⟨g, k * 10 + 6, none⟩ = false ∧ W.cell? ⟨bt + 1, 0, none⟩ = some (.int .i64 rk) ∧ W.cell? ⟨bt + 1, 1, none⟩ = some (.int .i64 rv)) := fun W hW => ⟨(hW.cell (p := ⟨g, k * 10 + 6, none⟩) HGl.out).trans hcell, ((bcell hW).2 g (k * 10 + 6) HGl.out).trans f4, (HBr4.out.below hW).c0, (HBr4.out.below hW).c1⟩
      obtain ⟨e5, e5f, e0, e1⟩ := HK.out w4 (Below.refl _ _)
      have HSm5 : Hid ((d4.set k (addS o 1 ⟨rk, rv⟩ n)).length ≤ 800000) := by rw [Hid, List.length_set]; omega
      have HKl : Hid (k < ((d4.set k (addS o 1 ⟨rk, rv⟩ n)).map (soilS kind ⟨td, t0, t1, t2, t3⟩)).length ∧ ((d4.set k (addS o 1 ⟨rk, rv⟩ n)).map (soilS kind ⟨td, t0, t1, t2, t3⟩)).length ≤ 900000) := by rw [Hid, List.length_map, List.length_set]; exact ⟨hk, by omega⟩
      have HLate := Lib.hid hlate
      have HRes := Lib.hid hres
      generalize d4.set k (addS o 1 ⟨rk, rv⟩ n) = d5 at *
      have HOx := Lib.hid HBr0.out
      clear hlate hres hO4 hxo hap hcell f4 hfr hcells hko hox hoa hN HXs hgl HC0 HBt HBr hx0 hx1 hs hl4 hlen hto HSm HSC HBr4 HBt4 HGo
      go_upto_region 7 with (fail)
      go_region_with (go_at_call 49; refine (HAdd.out _ (by repeat' (first | exact Below.refl _ _ | apply Below.drew | apply below_drewN))).mono ?_; rintro e wa ⟨va, rfl, hOa, hBa⟩; obtain ⟨pa, ca, rfl⟩ := hOa.is.slice; have hB1 : Below w4.heap.size w4 wa := bcall (by repeat' (first | exact Below.refl _ _ | apply Below.drew | apply below_drewN)) hBa (Nat.le_refl _); obtain ⟨y5, y5f, y0, y1⟩ := HK.out wa hB1)
      all_goals
        try simp only [List.getElem_toArray, List.getElem_cons_succ, List.getElem_cons_zero, Act.put, List.setIfInBounds_toArray, List.set_cons_zero, List.set_cons_succ]
        obtain ⟨xs5, hO5, hb5⟩ := HSet.out wa _ _ _ hB1 (.inr hOa)
        refine gen_q (fun W => OwnC B W (.slice (some ⟨g, 0, none⟩) d4.length cap) xs5 d5 ∧ Below B w0 W) ⟨hO5, hb5⟩ ?_
        rintro w5 ⟨hO5, hb5⟩
        have HO5 := Lib.hid hO5
        have HB5 := Lib.hid hb5
        obtain ⟨z0, z1, z2, z3, z4, zl⟩ := HBt0.out.below (hB.symm ▸ hb5)
        dsimp only at z0 z1 z2 z3 z4
        have HSo := Lib.hid (psoil_any xs5 d5 _ kind ⟨td, t0, t1, t2, t3⟩ B w5 hO5 HSm5.out (hB ▸ hb5.size))
        clear hO5 hb5 hB1 hOa hBa HSet HAdd HK e5 e5f e0 e1 y5 y5f y0 y1
        go_wp2_with fail
        refine (HSo.out).mono ?_
        rintro e w6 ⟨xs6, rfl, hO6, hG6⟩
        have HB6 := Lib.hid (below_grownC HB5.out (hB ▸ HB5.out.size) hG6 (fun b e => (HO5.out.own.lt b e).1))
        have HWo := Lib.hid (pwithout_any xs6 _ _ k B w6 hO6 HKl.out.1 HKl.out.2 (hB ▸ HB6.out.size))
        have HO6 := Lib.hid hO6
        rw [HRes.out] at HWo
        clear hO6 hG6 HSo z0 z1 z2 z3 z4 zl HB5
        go_wp2_with fail
        refine (HWo.out).mono ?_
        rintro e w7 ⟨v7, xs7, rfl, hO7, hG7⟩
        have HB7 := below_grownC HB6.out (hB ▸ HB6.out.size) hG7 (fun b e => (HO6.out.own.lt b e).1)
        have HX := Lib.hid (HY.out w7 v7 _ _ HLate.out rfl hO7.is (ownCapC hO7.own) (HB0.out.trans (HB7.mono HbB.out)))
        clear hO7 hG7 HB7 HWo HY
        go_wp2
        exact HX.out
end Go.Proofs.YthhceggcdaljdaaGreat
/- the program's Come, in general; Stale -/
namespace Go.Proofs.YthhceggcdaljdaaGreat
open Go.RowKit
set_option linter.unusedVariables false
set_option linter.unusedSimpArgs false

theorem pcome_any (c : List SV) (v : Value) (kind port : Int) (t : TV) (r : RV) (n : Int) (w : World) (hs : SmallC 100000 c) (h : IsCl w v c) : Calls Tryz.prog 10 #[v, .int .i64 kind, .int .i64 port, TV.val t, RV.val r, .int .i64 n] w (ComeR c kind port t r n w) := by
  by_cases q0 : port < 0
  · exact pcome_bad0 c v kind port t r n w hs h q0
  by_cases q1 : 1 < port
  · exact pcome_bad1 c v kind port t r n w hs h q0 q1
  by_cases q2 : n = 0
  · exact pcome_bad2 c v kind port t r n w hs h q0 q1 q2
  by_cases q3 : n < -2147483648
  · exact pcome_bad3 c v kind port t r n w hs h q0 q1 q2 q3
  by_cases q4 : 2147483648 < n
  · exact pcome_bad4 c v kind port t r n w hs h q0 q1 q2 q3 q4
  have hp : port = 0 ∨ port = 1 := by omega
  rcases hp with rfl | rfl
  · exact pcome_good0 c v kind t r n w hs h q2 q3 q4
  · exact pcome_good1 c v kind t r n w hs h q2 q3 q4
def StaleR (c : List SV) (w : World) (e : Ending) (w' : World) : Prop := ∃ u, e = .returned u ∧ OwnTT w.heap.size w' u (staleL c) ∧ Below w.heap.size w w'
def staleK (c : List SV) (k : Nat) : List TV := ((c.take k).filter (·.dirty)).map (·.t)
theorem staleK_yes {c : List SV} {k : Nat} (hk : k < c.length) (h : (c[k]!).dirty = true) : staleK c (k + 1) = staleK c k ++ [(c[k]!).t] := by
  unfold staleK
  rw [take_getA c k hk, List.filter_append, List.map_append, List.filter_cons, if_pos h]
  rfl
theorem staleK_no {c : List SV} {k : Nat} (hk : k < c.length) (h : (c[k]!).dirty = false) : staleK c (k + 1) = staleK c k := by
  unfold staleK
  rw [take_getA c k hk, List.filter_append, List.map_append, List.filter_cons, if_neg (by rw [h]; decide)]
  simp
theorem staleK_len (c : List SV) (k : Nat) : (staleK c k).length ≤ c.length := by
  unfold staleK
  rw [List.length_map]
  exact Nat.le_trans (List.length_filter_le _ _) (by rw [List.length_take]; omega)
set_option maxRecDepth 100000 in
set_option maxHeartbeats 16000000 in
theorem pstale_any (c : List SV) (v : Value) (w : World) (hs : SmallC 900000 c) (h : IsCl w v c) : Calls Tryz.prog 20 #[v] w (StaleR c w) := by
  have HR := Lib.hid (prightC_any c v w hs h)
  obtain ⟨xs, hx0, hx1⟩ := h
  have HAr := Lib.hid hx1
  obtain ⟨p, k0, rfl, ho⟩ := isOpenedD hx0
  have HO := Lib.hid ho
  have hxn : xs.length = c.length := hx1.1
  have hsz : c.length ≤ 900000 := hs.1
  rw [hxn] at HO HR ⊢
  have HF : Hid (∀ u W, OwnTT w.heap.size W u (staleL c) → Below w.heap.size w W → StaleR c w (.returned u) W) := fun u W h1 h2 => ⟨u, rfl, h1, h2⟩
  have HN : Hid (rightSl c = false → staleL c = []) := fun h => by unfold staleL; rw [if_neg (by rw [h]; decide)]
  have HY : Hid (rightSl c = true → staleL c = staleK c c.length) := fun h => by unfold staleL staleK; rw [if_pos h, List.take_length]
  generalize StaleR c w = R at *
  generalize staleL c = sl at *
  generalize rightSl c = rc at *
  clear hx0 hx1 ho hxn hs
  go_enter Tryz.func20, Tryz.ntmps20
  go_wp2_with fail
  refine (HR.out).mono ?_
  rintro e w1 ⟨rfl, hb1⟩
  have HB1 := Lib.hid hb1
  clear hb1 HR
  cases rc
  · have HX := Lib.hid (HF.out (.slice none 0 0) w1 (by rw [HN.out (by trivial)]; exact OwnTT.nil _ _) HB1.out)
    clear HN HY HF
    go_wp2
    exact HX.out
  · have HSl := Lib.hid (HY.out (by trivial))
    clear HN HY
    go_wp2
    go_loopg [3, 11] c.length (fun gg u i wr => ∃ k : Nat, k ≤ c.length ∧ c.length - k ≤ gg ∧ i = .int .i64 (k : Int) ∧ Hid (Below w.heap.size w wr) ∧ Hid (OwnTT w.heap.size wr u (staleK c k)))
    case atStart => exact ⟨0, Nat.zero_le _, by omega, rfl, HB1.out, OwnTT.nil _ _⟩
    case round =>
      obtain ⟨k, hkn, hg, rfl, HB, HU⟩ := hrel
      by_cases hlt : k < c.length
      · have hlz : (k : Int) < (c.length : Int) := by omega
        obtain ⟨b, off, rfl, hb, hrow⟩ := HO.out k hlt
        have hxl : xs.length = c.length := HAr.out.1
        obtain ⟨e0, e1, e2, e3, e4, e5, e6, e7, e8, e9⟩ := atSl (hrow.below HB.out hb) k (by omega)
        have hxk := HAr.out.2 k hlt
        have HYe := Lib.hid (fun h => staleK_yes (c := c) (k := k) hlt h)
        have HNe := Lib.hid (fun h => staleK_no (c := c) (k := k) hlt h)
        rw [← hxk.t, ← hxk.d] at HYe
        rw [← hxk.d] at HNe
        have HKl := Lib.hid (staleK_len c k)
        generalize xs[k]! = x at *
        obtain ⟨⟨td, t0, t1, t2, t3⟩, p0, n0, c0, p1, n1, c1, p2, n2, c2, xd, xf⟩ := x
        dsimp only at e0 e1 e2 e3 e4 e5 e6 e7 e8 e9 HYe HNe
        clear hxk hrow hxl
        go_upto_region 7 with (fail)
        refine gen_world (fun W3 => Below wr.heap.size wr W3 ∧ Boxed W3 wr.heap.size #[.int .i64 td, .int .i64 t0, .int .i64 t1, .int .i64 t2, .int .i64 t3, .slice p0 n0 c0, .slice p1 n1 c1, .slice p2 n2 c2, .bool xd, .bool xf] 40) ⟨by first | exact (Below.refl _ _).alloc (Nat.le_refl _) _ | go_grown, by first | exact heap_alloc_new _ _ | skip⟩ ?_
        rintro w3 ⟨hb3, hx3⟩
        have HBw := Lib.hid (bcall HB.out hb3 HB.out.size)
        have HO1 := Lib.hid (HU.out.below hb3)
        have b0 := hx3.cell 0
        have b1 := hx3.cell 1
        have b2 := hx3.cell 2
        have b3 := hx3.cell 3
        have b4 := hx3.cell 4
        have b8 := hx3.cell 8
        dsimp at b0 b1 b2 b3 b4 b8
        have hz2 : w.heap.size ≤ w3.heap.size := HBw.out.size
        have hlen : (staleK c k).length ≤ 2000000000000 := by have := HKl.out; omega
        generalize wr.heap.size = bx at *
        clear e0 e1 e2 e3 e4 e5 e6 e7 e8 e9 hb3 hx3 HB HU
        cases xd
        · have HK := Lib.hid (HNe.out rfl)
          clear HYe HNe
          go_wp2
          go_roundg (c.length - (k + 1))
          case measure => omega
          case rel => exact ⟨k + 1, by omega, by omega, by go_num, HBw.out, by rw [HK.out]; exact HO1.out⟩
        · have HK := Lib.hid (HYe.out rfl)
          clear HYe HNe
          go_wp2_with (at_builtin; refine OwnTT.push (y := ⟨td, t0, t1, t2, t3⟩) HO1.out HBw.out hz2 rfl _ _ rfl rfl _ rfl hlen ?_; intro v2 w2 hO2 hB2 hz3)
          rw [← HK.out] at hO2
          have HO2 := Lib.hid hO2; have HB2 := Lib.hid hB2
          go_roundg (c.length - (k + 1))
          case measure => omega
          case rel => exact ⟨k + 1, by omega, by omega, by go_num, HB2.out, HO2.out⟩
      · obtain rfl : k = c.length := by omega
        have hlz : ¬ (c.length : Int) < (c.length : Int) := by omega
        have HX := Lib.hid (HF.out u3 wr (by rw [HSl.out]; exact HU.out) HB.out)
        go_wp2
        exact HX.out
end Go.Proofs.YthhceggcdaljdaaGreat
