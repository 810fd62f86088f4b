import Derived.Test.YthhceggcdaljdaaGreatG04
import Derived.Test.YthhceggcdaljdaaGreatG14
import Derived.Deep.RegionHeldLaw
namespace Go.Proofs.YthhceggcdaljdaaGreat
open Go.RowKit
set_option linter.unusedVariables false
set_option linter.unusedSimpArgs false

/-- numbers that an item may have -/
def inN (xs : List IV) : Prop := ∀ c ∈ xs, -2147483648 ≤ c.n ∧ c.n ≤ 2147483648
/-- what is seen of a slice that isn't empty -/
theorem openI {w : World} {v : Value} {x : IV} {xs : List IV} (h : RI.Is w v (x :: xs)) (hc : capOk v) : ∃ b off c, v = .slice (some ⟨b, off, none⟩) (xs.length + 1) c ∧ xs.length + 1 ≤ c ∧ b < w.heap.size ∧
    (∀ W, Below w.heap.size w W → W.cell? ⟨b, off, none⟩ = some (.int .i64 x.t.k) ∧ W.cell? ⟨b, off + 1, none⟩ = some (.int .i64 x.t.v) ∧ W.cell? ⟨b, off + 2, none⟩ = some (.int .i64 x.n)) ∧
    (∀ W, Below w.heap.size w W → RI.Is W (.slice (if c = 1 then some ⟨b, off, none⟩ else some ⟨b, off + 3, none⟩) xs.length (c - 1)) xs) := by
  rcases h with ⟨h, _⟩ | ⟨_, b, off, c, rfl, hb, hr⟩
  · cases h
  · have hle := hc _ _ _ rfl
    rw [List.length_cons] at hle
    refine ⟨b, off, c, rfl, hle, hb, fun W hW => ?_, fun W hW => ?_⟩
    · have := atI (hr.below hW hb) 0 (by simp)
      simpa using this
    · have hl := Nat.lt_of_lt_of_le hb hW.size
      cases xs with
      | nil => exact .inl ⟨rfl, _, _, rfl, fun e => by split at e <;> cases e⟩
      | cons y ys =>
        rw [List.length_cons] at hle
        rw [if_neg (by omega)]
        exact .inr ⟨by simp, b, off + 3, c - 1, rfl, hl, (hr.below hW hb).tail⟩
theorem Own3.set {w : World} {b : Nat} {v0 v1 v2 x0 x1 x2 : Value} (s0 : w.cell? ⟨b, 0, none⟩ = some x0) (s1 : w.cell? ⟨b, 1, none⟩ = some x1) (s2 : w.cell? ⟨b, 2, none⟩ = some x2) :
    Own3 (((w.setCell ⟨b, 0, none⟩ v0).setCell ⟨b, 1, none⟩ v1).setCell ⟨b, 2, none⟩ v2) b v0 v1 v2 := by
  constructor <;> simp [go_sem, s0, s1, s2]
set_option maxRecDepth 100000 in
set_option maxHeartbeats 8000000 in
theorem bmerged_any (xs ys : List IV) (va vb : Value) (w : World) (hl : xs.length ≤ 400000) (hm : ys.length ≤ 400000) (nx : inN xs) (ny : inN ys) (ca : capOk va) (cb : capOk vb) (ha : RI.Is w va xs) (hb : RI.Is w vb ys) :
    Calls Tryz.prog 98 #[va, vb] w (RI.Made (mergedI xs ys) w) := by
  have HA := Lib.hid ha; have HB := Lib.hid hb; have CA := Lib.hid ca; have CB := Lib.hid cb; have NX := Lib.hid nx; have NY := Lib.hid ny
  clear ha hb ca cb nx ny
  generalize hres : mergedI xs ys = res
  have HR := Lib.hid hres
  clear hres
  go_enter Tryz.func98, Tryz.ntmps98
  go_wp2
  go_loopg [0, 1, 5] (xs.length + ys.length) (fun gg va vb v wr => ∃ (A B acc : List IV), A.length + B.length ≤ gg ∧ acc.length + A.length + B.length ≤ 800000 ∧ Hid (RI.Is w va A) ∧ Hid (RI.Is w vb B) ∧ Hid (capOk va) ∧ Hid (capOk vb) ∧ Hid (RI.Own w.heap.size wr v acc) ∧ Hid (res = acc ++ mergedI A B) ∧ Hid (inN A) ∧ Hid (inN B) ∧ Hid (Below w.heap.size w wr))
  case atStart => exact ⟨xs, ys, [], by omega, by simp; omega, HA.out, HB.out, CA.out, CB.out, RowKind.Own.nil RI _ _, HR.out.symm, NX.out, NY.out, Below.refl _ _⟩
  case round =>
    clear HA HB CA CB NX NY HR
    obtain ⟨A, B, acc, hg, hsz, HA, HB, CA, CB, HO, HR, NA, NB, HW⟩ := hrel
    cases A with
    | nil =>
      have ha := HA.out.slice
      have hb := HB.out.slice
      have hlen : acc.length + ([] : List IV).length + B.length ≤ 900000 := by omega
      have HX : Hid (res = acc ++ ([] : List IV) ++ B) := by
        show _ = _
        have h := HR.out
        rw [nil_mergedI] at h
        rw [h]; simp
      obtain ⟨p3, c3, rfl⟩ := HO.out.is.slice
      simp only [List.length_nil, List.length_cons] at ha hb
      obtain ⟨p1, c1, rfl⟩ := ha
      obtain ⟨p2, c2, rfl⟩ := hb
      have HB0 : ∀ o, Below wr.heap.size wr (wr.alloc o) := fun o => (Below.refl _ wr).alloc (Nat.le_refl _) o
      have HCC := Lib.hid (fun t => concatI_any acc ([] : List IV) B _ _ _ wr.heap.size (wr.alloc (.cells #[.slice p3 acc.length c3, .slice p1 0 c1, .slice p2 B.length c2] t)) hlen (HO.out.is.below (HB0 _)) ((HA.out.below HW.out).below (HB0 _)) ((HB.out.below HW.out).below (HB0 _)) (by simp) (by simp) (by simp) (by simp))
      rw [← HX.out] at HCC
      have HB0 := Lib.hid HB0
      have HZ := Lib.hid HW.out.size
      clear HA HB HO HR HX hlen
      generalize acc.length = n3 at *
      generalize B.length = n2 at *
      go_wp2_with fail
      refine (HCC.out _).mono ?_
      rintro e w9 ⟨u, rfl, hO9, hB9⟩
      have HO9 := Lib.hid (hO9.mono (Nat.le_trans HZ.out (by simp)))
      have HB9 := Lib.hid (HW.out.trans (((HB0.out _).trans (hB9.mono (HB0.out _).size)).mono HZ.out))
      clear hO9 hB9 HCC
      go_wp2
      go_returns
      exact ⟨_, rfl, HO9.out, HB9.out⟩
    | cons x A =>
      cases B with
      | nil =>
        have ha := HA.out.slice
        have hb := HB.out.slice
        have hlen : acc.length + (x :: A).length + ([] : List IV).length ≤ 900000 := by omega
        have HX : Hid (res = acc ++ (x :: A) ++ ([] : List IV)) := by
          show _ = _
          have h := HR.out
          rw [mergedI_nil] at h
          rw [h]; simp
        obtain ⟨p3, c3, rfl⟩ := HO.out.is.slice
        simp only [List.length_nil, List.length_cons] at ha hb
        obtain ⟨p1, c1, rfl⟩ := ha
        obtain ⟨p2, c2, rfl⟩ := hb
        have HB0 : ∀ o, Below wr.heap.size wr (wr.alloc o) := fun o => (Below.refl _ wr).alloc (Nat.le_refl _) o
        have HCC := Lib.hid (fun t => concatI_any acc (x :: A) ([] : List IV) _ _ _ wr.heap.size (wr.alloc (.cells #[.slice p3 acc.length c3, .slice p1 (A.length + 1) c1, .slice p2 0 c2] t)) hlen (HO.out.is.below (HB0 _)) ((HA.out.below HW.out).below (HB0 _)) ((HB.out.below HW.out).below (HB0 _)) (by simp) (by simp) (by simp) (by simp))
        rw [← HX.out] at HCC
        have HB0 := Lib.hid HB0
        have HZ := Lib.hid HW.out.size
        clear HA HB HO HR HX hlen
        generalize acc.length = n3 at *
        generalize A.length = n1 at *
        go_wp2_with fail
        refine (HCC.out _).mono ?_
        rintro e w9 ⟨u, rfl, hO9, hB9⟩
        have HO9 := Lib.hid (hO9.mono (Nat.le_trans HZ.out (by simp)))
        have HB9 := Lib.hid (HW.out.trans (((HB0.out _).trans (hB9.mono (HB0.out _).size)).mono HZ.out))
        clear hO9 hB9 HCC
        go_wp2
        go_returns
        exact ⟨_, rfl, HO9.out, HB9.out⟩
      | cons y B =>
        obtain ⟨b1, o1, c1, rfl, k1, l1, hrow1, htl1⟩ := openI HA.out CA.out
        obtain ⟨b2, o2, c2, rfl, k2, l2, hrow2, htl2⟩ := openI HB.out CB.out
        have nx := NA.out x (by simp)
        have ny := NB.out y (by simp)
        have NA' : Hid (inN A) := fun c hc => NA.out c (by simp [hc])
        have NB' : Hid (inN B) := fun c hc => NB.out c (by simp [hc])
        have HL1 : Hid (∀ W, Calls Tryz.prog 135 #[.agg #[.int .i64 x.t.k, .int .i64 x.t.v], .agg #[.int .i64 y.t.k, .int .i64 y.t.v]] W (Ret (.int .i64 (cmpR x.t y.t)) W)) := fun W => (bcompare_any x.t y.t W).mono fun _ _ h => h.ret
        have HM := Lib.hid (fun W => bmore_any x y.n W nx ny)
        have m1 := fun h => mergedI_lt (x := x) (y := y) A B h
        have m2 := fun h1 => mergedI_gt (x := x) (y := y) A B h1
        have m3 := fun h1 h3 => mergedI_no (x := x) (y := y) A B h1 h3
        have m4 := fun h1 h3 => mergedI_one (x := x) (y := y) A B h1 h3
        have HT1 := Lib.hid (htl1 w (Below.refl _ _)); have HT2 := Lib.hid (htl2 w (Below.refl _ _)); have HR1 := Lib.hid hrow1; have HR2 := Lib.hid hrow2
        clear htl1 htl2 hrow1 hrow2 nx ny
        generalize hq1 : cmpR x.t y.t = q at HL1 m1 m2 m3 m4
        clear hq1
        have M1 := Lib.hid m1; have M2 := Lib.hid m2; have M3 := Lib.hid m3; have M4 := Lib.hid m4
        clear m1 m2 m3 m4
        simp only [List.length_cons] at hg hsz
        generalize hn1 : A.length = n1 at *
        generalize hn2 : B.length = n2 at *
        have HN1 := Lib.hid hn1; have HN2 := Lib.hid hn2
        clear hn1 hn2
        obtain ⟨a0, a1, a2⟩ := HR1.out wr HW.out
        obtain ⟨d0, d1, d2⟩ := HR2.out wr HW.out
        replace a0 := fun p => beh_cell a0 p
        replace a1 := fun p => beh_cell a1 p
        replace d0 := fun p => beh_cell d0 p
        replace d1 := fun p => beh_cell d1 p
        clear a2 d2
        go_wp2_with fail
        refine wp_region_beh (by kernel_rfl) (by kernel_rfl) ?_
        repeat (first | go_big_quiet_step (first | (with_reducible exact Calls.beh (HL1.out _))) | quiet_step (first | (with_reducible exact Calls.beh (HL1.out _))))
        refine wpQuiet_nil ?_
        intro _ hw'
        obtain ⟨g, hw''⟩ := hw'
        subst hw''
        have HW1 := Lib.hid (HW.out.trans (g.h.mono HW.out.size))
        have HO1 := Lib.hid (HO.out.below g.h)
        clear a0 a1 d0 d1 HL1 HO
        generalize g.w = wq at *
        clear g
        by_cases hq1 : q < 0
        · have HX : Hid (res = (acc ++ [x]) ++ mergedI A (y :: B)) := by show _ = _; have h := HR.out; rw [M1.out hq1] at h; simpa using h
          clear M1 M2 M3 M4 HM HR
          by_cases hc1 : c1 = 1
          · subst hc1
            obtain rfl : n1 = 0 := by omega
            have HTT1 : Hid (RI.Is w (.slice (some ⟨b1, o1, none⟩) 0 0) A) := HT1.out
            have CT1 : Hid (capOk (.slice (some ⟨b1, o1, none⟩) 0 0)) := fun p n c e => by cases e; exact Nat.le_refl _
            have hz := HW1.out.size
            have hlb : b1 < wq.heap.size := by omega
            have hne : b1 ≠ wq.heap.size := Nat.ne_of_lt hlb
            have hlen : acc.length ≤ 900000 := by omega
            obtain ⟨a0, a1, a2⟩ := HR1.out wq HW1.out
            go_wp2_with fail
            go_region_held_law (fun w' => w'.cell? ⟨b1, o1, none⟩ = some (.int .i64 x.t.k) ∧ w'.cell? ⟨b1, o1 + 1, none⟩ = some (.int .i64 x.t.v) ∧ w'.cell? ⟨b1, o1 + 2, none⟩ = some (.int .i64 x.n)) (first | exact HR1.out _ (by assumption) | go_keep) (first | (refine RowKind.Own.pushR (R := RI) (y := x) HO1.out.drew HW1.out.drew hz rfl _ _ rfl rfl _ rfl hlen ?_; intro v5 w5 hO5 hB5 hz5))
            all_goals
              try simp only [List.getElem_toArray, List.getElem_cons_succ, List.getElem_cons_zero, Act.put, List.setIfInBounds_toArray, List.set_cons_zero, List.set_cons_succ]
              go_wp2
              go_roundg (0 + (n2 + 1))
              case measure => omega
              case rel =>
                have e1 := HN1.out
                have e2 := HN2.out
                refine ⟨A, y :: B, acc ++ [x], by simp only [List.length_cons]; omega, by simp only [List.length_cons, List.length_append, List.length_nil]; omega, HTT1.out, HB.out, CT1.out, CB.out, hO5, HX.out, NA'.out, NB.out, hB5⟩
          · have HTT1 : Hid (RI.Is w (.slice (some ⟨b1, o1 + 3, none⟩) n1 (c1 - 1)) A) := by have h := HT1.out; rw [if_neg hc1] at h; exact h
            have CT1 : Hid (capOk (.slice (some ⟨b1, o1 + 3, none⟩) n1 (c1 - 1))) := fun p n c e => by cases e; omega
            have hz := HW1.out.size
            have hlb : b1 < wq.heap.size := by omega
            have hne : b1 ≠ wq.heap.size := Nat.ne_of_lt hlb
            have hlen : acc.length ≤ 900000 := by omega
            obtain ⟨a0, a1, a2⟩ := HR1.out wq HW1.out
            go_wp2_with fail
            go_region_held_law (fun w' => w'.cell? ⟨b1, o1, none⟩ = some (.int .i64 x.t.k) ∧ w'.cell? ⟨b1, o1 + 1, none⟩ = some (.int .i64 x.t.v) ∧ w'.cell? ⟨b1, o1 + 2, none⟩ = some (.int .i64 x.n)) (first | exact HR1.out _ (by assumption) | go_keep) (first | (refine RowKind.Own.pushR (R := RI) (y := x) HO1.out.drew HW1.out.drew hz rfl _ _ rfl rfl _ rfl hlen ?_; intro v5 w5 hO5 hB5 hz5))
            all_goals
              try simp only [List.getElem_toArray, List.getElem_cons_succ, List.getElem_cons_zero, Act.put, List.setIfInBounds_toArray, List.set_cons_zero, List.set_cons_succ]
              go_wp2
              go_roundg (n1 + (n2 + 1))
              case measure => omega
              case rel =>
                have e1 := HN1.out
                have e2 := HN2.out
                refine ⟨A, y :: B, acc ++ [x], by simp only [List.length_cons]; omega, by simp only [List.length_cons, List.length_append, List.length_nil]; omega, HTT1.out, HB.out, CT1.out, CB.out, hO5, HX.out, NA'.out, NB.out, hB5⟩
        · have hq1b : decide (q < 0) = false := decide_eq_false hq1
          by_cases hq2 : 0 < q
          · have HX : Hid (res = (acc ++ [y]) ++ mergedI (x :: A) B) := by show _ = _; have h := HR.out; rw [M2.out hq2] at h; simpa using h
            clear M1 M2 M3 M4 HM HR
            by_cases hc2 : c2 = 1
            · subst hc2
              obtain rfl : n2 = 0 := by omega
              have HTT2 : Hid (RI.Is w (.slice (some ⟨b2, o2, none⟩) 0 0) B) := HT2.out
              have CT2 : Hid (capOk (.slice (some ⟨b2, o2, none⟩) 0 0)) := fun p n c e => by cases e; exact Nat.le_refl _
              have hz := HW1.out.size
              have hlb : b2 < wq.heap.size := by omega
              have hne : b2 ≠ wq.heap.size := Nat.ne_of_lt hlb
              have hlen : acc.length ≤ 900000 := by omega
              obtain ⟨a0, a1, a2⟩ := HR2.out wq HW1.out
              go_wp2_with fail
              go_region_held_law (fun w' => w'.cell? ⟨b2, o2, none⟩ = some (.int .i64 y.t.k) ∧ w'.cell? ⟨b2, o2 + 1, none⟩ = some (.int .i64 y.t.v) ∧ w'.cell? ⟨b2, o2 + 2, none⟩ = some (.int .i64 y.n)) (first | exact HR2.out _ (by assumption) | go_keep) (first | (refine RowKind.Own.pushR (R := RI) (y := y) HO1.out.drew HW1.out.drew hz rfl _ _ rfl rfl _ rfl hlen ?_; intro v5 w5 hO5 hB5 hz5))
              all_goals
                try simp only [List.getElem_toArray, List.getElem_cons_succ, List.getElem_cons_zero, Act.put, List.setIfInBounds_toArray, List.set_cons_zero, List.set_cons_succ]
                go_wp2
                go_roundg (n1 + 1 + 0)
                case measure => omega
                case rel =>
                  have e1 := HN1.out
                  have e2 := HN2.out
                  refine ⟨x :: A, B, acc ++ [y], by simp only [List.length_cons]; omega, by simp only [List.length_cons, List.length_append, List.length_nil]; omega, HA.out, HTT2.out, CA.out, CT2.out, hO5, HX.out, NA.out, NB'.out, hB5⟩
            · have HTT2 : Hid (RI.Is w (.slice (some ⟨b2, o2 + 3, none⟩) n2 (c2 - 1)) B) := by have h := HT2.out; rw [if_neg hc2] at h; exact h
              have CT2 : Hid (capOk (.slice (some ⟨b2, o2 + 3, none⟩) n2 (c2 - 1))) := fun p n c e => by cases e; omega
              have hz := HW1.out.size
              have hlb : b2 < wq.heap.size := by omega
              have hne : b2 ≠ wq.heap.size := Nat.ne_of_lt hlb
              have hlen : acc.length ≤ 900000 := by omega
              obtain ⟨a0, a1, a2⟩ := HR2.out wq HW1.out
              go_wp2_with fail
              go_region_held_law (fun w' => w'.cell? ⟨b2, o2, none⟩ = some (.int .i64 y.t.k) ∧ w'.cell? ⟨b2, o2 + 1, none⟩ = some (.int .i64 y.t.v) ∧ w'.cell? ⟨b2, o2 + 2, none⟩ = some (.int .i64 y.n)) (first | exact HR2.out _ (by assumption) | go_keep) (first | (refine RowKind.Own.pushR (R := RI) (y := y) HO1.out.drew HW1.out.drew hz rfl _ _ rfl rfl _ rfl hlen ?_; intro v5 w5 hO5 hB5 hz5))
              all_goals
                try simp only [List.getElem_toArray, List.getElem_cons_succ, List.getElem_cons_zero, Act.put, List.setIfInBounds_toArray, List.set_cons_zero, List.set_cons_succ]
                go_wp2
                go_roundg (n1 + 1 + n2)
                case measure => omega
                case rel =>
                  have e1 := HN1.out
                  have e2 := HN2.out
                  refine ⟨x :: A, B, acc ++ [y], by simp only [List.length_cons]; omega, by simp only [List.length_cons, List.length_append, List.length_nil]; omega, HA.out, HTT2.out, CA.out, CT2.out, hO5, HX.out, NA.out, NB'.out, hB5⟩
          · have hq2b : decide (0 < q) = false := decide_eq_false hq2
            have HQ0 : Hid (q = 0) := by show _ = _; omega
            have hz := HW1.out.size
            have hlb1 : b1 < wq.heap.size := by omega
            have hlb2 : b2 < wq.heap.size := by omega
            have hne1 : b1 ≠ wq.heap.size := Nat.ne_of_lt hlb1
            have hne2 : b2 ≠ wq.heap.size := Nat.ne_of_lt hlb2
            have hlen : acc.length ≤ 900000 := by omega
            have HRK : Hid (∀ W, Below wq.heap.size wq W → (W.cell? ⟨b1, o1, none⟩ = some (.int .i64 x.t.k) ∧ W.cell? ⟨b1, o1 + 1, none⟩ = some (.int .i64 x.t.v) ∧ W.cell? ⟨b1, o1 + 2, none⟩ = some (.int .i64 x.n) ∧ W.cell? ⟨b2, o2 + 2, none⟩ = some (.int .i64 y.n))) := fun W hW => ⟨(HR1.out W (HW1.out.trans (hW.mono HW1.out.size))).1, (HR1.out W (HW1.out.trans (hW.mono HW1.out.size))).2.1, (HR1.out W (HW1.out.trans (hW.mono HW1.out.size))).2.2, (HR2.out W (HW1.out.trans (hW.mono HW1.out.size))).2.2⟩
            obtain ⟨a0, a1, a2, d2⟩ := HRK.out wq (Below.refl _ _)
            generalize hzc : moreI x y.n = z at HM M3 M4
            clear hzc
            have HM : Hid (∀ W, Calls Tryz.prog 136 #[.agg #[.int .i64 x.t.k, .int .i64 x.t.v, .int .i64 x.n], .int .i64 y.n] W (Ret (.agg #[.int .i64 z.t.k, .int .i64 z.t.v, .int .i64 z.n]) W)) := HM
            clear HW M1 M2
            go_wp2_with fail
            go_region_held_law (fun w' => (w'.cell? ⟨b1, o1, none⟩ = some (.int .i64 x.t.k) ∧ w'.cell? ⟨b1, o1 + 1, none⟩ = some (.int .i64 x.t.v) ∧ w'.cell? ⟨b1, o1 + 2, none⟩ = some (.int .i64 x.n) ∧ w'.cell? ⟨b2, o2 + 2, none⟩ = some (.int .i64 y.n))) (first | exact HRK.out _ (by assumption) | exact HRK.out _ (by repeat' (first | (with_reducible first | assumption | exact Below.refl _ _ | exact Nat.le_refl _ | apply Below.drew | apply Below.setCell | apply Below.alloc) | (simp; done))) | go_keep) (first | (go_at_call 136; refine (HM.out _).mono ?_; rintro e w' ⟨rfl, hb⟩; have hB6 : Below wq.heap.size wq w' := bcall (by first | exact (Below.refl _ _).drew | exact ((Below.refl _ _).drew.alloc (by simp) _)) hb (by simp); have hz6 : wq.heap.size ≤ w'.heap.size := hB6.size; (try (have N : rowOf w' wq.heap.size = some #[.int .i64 0, .int .i64 0, .int .i64 0] := rowOf_below (row_drew (row_new (w := wq) rfl)) hb (by simp); have s0 : w'.cell? ⟨wq.heap.size, 0, none⟩ = some (.int .i64 0) := rowOf_cell N 0; have t0 : w'.frozen? ⟨wq.heap.size, 0, none⟩ = false := rowOf_frozen N 0; have s1 : w'.cell? ⟨wq.heap.size, 1, none⟩ = some (.int .i64 0) := rowOf_cell N 1; have t1 : w'.frozen? ⟨wq.heap.size, 1, none⟩ = false := rowOf_frozen N 1; have s2 : w'.cell? ⟨wq.heap.size, 2, none⟩ = some (.int .i64 0) := rowOf_cell N 2; have t2 : w'.frozen? ⟨wq.heap.size, 2, none⟩ = false := rowOf_frozen N 2))))
            · refine gen_q (fun W2 => Below wq.heap.size wq W2 ∧ Own3 W2 w'.heap.size (.int .i64 z.t.k) (.int .i64 z.t.v) (.int .i64 z.n)) ⟨hB6.alloc hz6 _, Own3.new _ _ _ _ _⟩ ?_
              clear hB6 hz6
              rintro W2 ⟨hB7, p0, p1, p2⟩
              have HO7 := Lib.hid (HO1.out.below hB7)
              have HW7 := Lib.hid (HW1.out.trans (hB7.mono HW1.out.size))
              have hz7 := HW7.out.size
              clear hB7 a0 a1 a2 d2
              by_cases hz0 : z.n = 0
              · have hzb : (z.n != 0) = false := by simp [hz0]
                have HX : Hid (res = acc ++ mergedI A B) := by show _ = _; have h := HR.out; rw [M3.out HQ0.out hz0] at h; exact h
                have HO8 := HO7; have HW8 := HW7
                clear M3 M4 HM HR HO1 HW1
                go_wp2_with fail
                by_cases hc1 : c1 = 1
                · by_cases hc2 : c2 = 1
                  · subst hc1
                    obtain rfl : n1 = 0 := by omega
                    have HTT1 : Hid (RI.Is w (.slice (some ⟨b1, o1, none⟩) 0 0) A) := HT1.out
                    have CT1 : Hid (capOk (.slice (some ⟨b1, o1, none⟩) 0 0)) := fun p n c e => by cases e; exact Nat.le_refl _
                    subst hc2
                    obtain rfl : n2 = 0 := by omega
                    have HTT2 : Hid (RI.Is w (.slice (some ⟨b2, o2, none⟩) 0 0) B) := HT2.out
                    have CT2 : Hid (capOk (.slice (some ⟨b2, o2, none⟩) 0 0)) := fun p n c e => by cases e; exact Nat.le_refl _
                    go_quiet (fail)
                    go_wp2
                    go_roundg (0 + 0)
                    case measure => omega
                    case rel =>
                      have e1 := HN1.out
                      have e2 := HN2.out
                      exact ⟨A, B, acc, by omega, by omega, HTT1.out, HTT2.out, CT1.out, CT2.out, HO8.out.below (below_drewN (Below.refl _ _) _), HX.out, NA'.out, NB'.out, below_drewN HW8.out _⟩
                  · subst hc1
                    obtain rfl : n1 = 0 := by omega
                    have HTT1 : Hid (RI.Is w (.slice (some ⟨b1, o1, none⟩) 0 0) A) := HT1.out
                    have CT1 : Hid (capOk (.slice (some ⟨b1, o1, none⟩) 0 0)) := fun p n c e => by cases e; exact Nat.le_refl _
                    have HTT2 : Hid (RI.Is w (.slice (some ⟨b2, o2 + 3, none⟩) n2 (c2 - 1)) B) := by have h := HT2.out; rw [if_neg hc2] at h; exact h
                    have CT2 : Hid (capOk (.slice (some ⟨b2, o2 + 3, none⟩) n2 (c2 - 1))) := fun p n c e => by cases e; omega
                    go_quiet (fail)
                    go_wp2
                    go_roundg (0 + n2)
                    case measure => omega
                    case rel =>
                      have e1 := HN1.out
                      have e2 := HN2.out
                      exact ⟨A, B, acc, by omega, by omega, HTT1.out, HTT2.out, CT1.out, CT2.out, HO8.out.below (below_drewN (Below.refl _ _) _), HX.out, NA'.out, NB'.out, below_drewN HW8.out _⟩
                · by_cases hc2 : c2 = 1
                  · have HTT1 : Hid (RI.Is w (.slice (some ⟨b1, o1 + 3, none⟩) n1 (c1 - 1)) A) := by have h := HT1.out; rw [if_neg hc1] at h; exact h
                    have CT1 : Hid (capOk (.slice (some ⟨b1, o1 + 3, none⟩) n1 (c1 - 1))) := fun p n c e => by cases e; omega
                    subst hc2
                    obtain rfl : n2 = 0 := by omega
                    have HTT2 : Hid (RI.Is w (.slice (some ⟨b2, o2, none⟩) 0 0) B) := HT2.out
                    have CT2 : Hid (capOk (.slice (some ⟨b2, o2, none⟩) 0 0)) := fun p n c e => by cases e; exact Nat.le_refl _
                    go_quiet (fail)
                    go_wp2
                    go_roundg (n1 + 0)
                    case measure => omega
                    case rel =>
                      have e1 := HN1.out
                      have e2 := HN2.out
                      exact ⟨A, B, acc, by omega, by omega, HTT1.out, HTT2.out, CT1.out, CT2.out, HO8.out.below (below_drewN (Below.refl _ _) _), HX.out, NA'.out, NB'.out, below_drewN HW8.out _⟩
                  · have HTT1 : Hid (RI.Is w (.slice (some ⟨b1, o1 + 3, none⟩) n1 (c1 - 1)) A) := by have h := HT1.out; rw [if_neg hc1] at h; exact h
                    have CT1 : Hid (capOk (.slice (some ⟨b1, o1 + 3, none⟩) n1 (c1 - 1))) := fun p n c e => by cases e; omega
                    have HTT2 : Hid (RI.Is w (.slice (some ⟨b2, o2 + 3, none⟩) n2 (c2 - 1)) B) := by have h := HT2.out; rw [if_neg hc2] at h; exact h
                    have CT2 : Hid (capOk (.slice (some ⟨b2, o2 + 3, none⟩) n2 (c2 - 1))) := fun p n c e => by cases e; omega
                    go_quiet (fail)
                    go_wp2
                    go_roundg (n1 + n2)
                    case measure => omega
                    case rel =>
                      have e1 := HN1.out
                      have e2 := HN2.out
                      exact ⟨A, B, acc, by omega, by omega, HTT1.out, HTT2.out, CT1.out, CT2.out, HO8.out.below (below_drewN (Below.refl _ _) _), HX.out, NA'.out, NB'.out, below_drewN HW8.out _⟩
              · have hzb : (z.n != 0) = true := by simp [hz0]
                have HX : Hid (res = (acc ++ [z]) ++ mergedI A B) := by show _ = _; have h := HR.out; rw [M4.out HQ0.out hz0] at h; simpa using h
                clear M3 M4 HM HR HO1 HW1
                go_wp2_with (at_builtin; refine RowKind.Own.push (R := RI) (y := z) HO7.out HW7.out hz7 rfl _ _ rfl rfl _ rfl hlen (Nat.le_refl _) ?_; intro v8 w8 hO8 hB8 hz8)
                have HO8 := Lib.hid hO8; have HW8 := Lib.hid hB8
                clear hO8 hB8 p0 p1 p2
                by_cases hc1 : c1 = 1
                · by_cases hc2 : c2 = 1
                  · subst hc1
                    obtain rfl : n1 = 0 := by omega
                    have HTT1 : Hid (RI.Is w (.slice (some ⟨b1, o1, none⟩) 0 0) A) := HT1.out
                    have CT1 : Hid (capOk (.slice (some ⟨b1, o1, none⟩) 0 0)) := fun p n c e => by cases e; exact Nat.le_refl _
                    subst hc2
                    obtain rfl : n2 = 0 := by omega
                    have HTT2 : Hid (RI.Is w (.slice (some ⟨b2, o2, none⟩) 0 0) B) := HT2.out
                    have CT2 : Hid (capOk (.slice (some ⟨b2, o2, none⟩) 0 0)) := fun p n c e => by cases e; exact Nat.le_refl _
                    go_quiet (fail)
                    go_wp2
                    go_roundg (0 + 0)
                    case measure => omega
                    case rel =>
                      have e1 := HN1.out
                      have e2 := HN2.out
                      exact ⟨A, B, acc ++ [z], by omega, by simp only [List.length_append, List.length_cons, List.length_nil]; omega, HTT1.out, HTT2.out, CT1.out, CT2.out, HO8.out.below (below_drewN (Below.refl _ _) _), HX.out, NA'.out, NB'.out, below_drewN HW8.out _⟩
                  · subst hc1
                    obtain rfl : n1 = 0 := by omega
                    have HTT1 : Hid (RI.Is w (.slice (some ⟨b1, o1, none⟩) 0 0) A) := HT1.out
                    have CT1 : Hid (capOk (.slice (some ⟨b1, o1, none⟩) 0 0)) := fun p n c e => by cases e; exact Nat.le_refl _
                    have HTT2 : Hid (RI.Is w (.slice (some ⟨b2, o2 + 3, none⟩) n2 (c2 - 1)) B) := by have h := HT2.out; rw [if_neg hc2] at h; exact h
                    have CT2 : Hid (capOk (.slice (some ⟨b2, o2 + 3, none⟩) n2 (c2 - 1))) := fun p n c e => by cases e; omega
                    go_quiet (fail)
                    go_wp2
                    go_roundg (0 + n2)
                    case measure => omega
                    case rel =>
                      have e1 := HN1.out
                      have e2 := HN2.out
                      exact ⟨A, B, acc ++ [z], by omega, by simp only [List.length_append, List.length_cons, List.length_nil]; omega, HTT1.out, HTT2.out, CT1.out, CT2.out, HO8.out.below (below_drewN (Below.refl _ _) _), HX.out, NA'.out, NB'.out, below_drewN HW8.out _⟩
                · by_cases hc2 : c2 = 1
                  · have HTT1 : Hid (RI.Is w (.slice (some ⟨b1, o1 + 3, none⟩) n1 (c1 - 1)) A) := by have h := HT1.out; rw [if_neg hc1] at h; exact h
                    have CT1 : Hid (capOk (.slice (some ⟨b1, o1 + 3, none⟩) n1 (c1 - 1))) := fun p n c e => by cases e; omega
                    subst hc2
                    obtain rfl : n2 = 0 := by omega
                    have HTT2 : Hid (RI.Is w (.slice (some ⟨b2, o2, none⟩) 0 0) B) := HT2.out
                    have CT2 : Hid (capOk (.slice (some ⟨b2, o2, none⟩) 0 0)) := fun p n c e => by cases e; exact Nat.le_refl _
                    go_quiet (fail)
                    go_wp2
                    go_roundg (n1 + 0)
                    case measure => omega
                    case rel =>
                      have e1 := HN1.out
                      have e2 := HN2.out
                      exact ⟨A, B, acc ++ [z], by omega, by simp only [List.length_append, List.length_cons, List.length_nil]; omega, HTT1.out, HTT2.out, CT1.out, CT2.out, HO8.out.below (below_drewN (Below.refl _ _) _), HX.out, NA'.out, NB'.out, below_drewN HW8.out _⟩
                  · have HTT1 : Hid (RI.Is w (.slice (some ⟨b1, o1 + 3, none⟩) n1 (c1 - 1)) A) := by have h := HT1.out; rw [if_neg hc1] at h; exact h
                    have CT1 : Hid (capOk (.slice (some ⟨b1, o1 + 3, none⟩) n1 (c1 - 1))) := fun p n c e => by cases e; omega
                    have HTT2 : Hid (RI.Is w (.slice (some ⟨b2, o2 + 3, none⟩) n2 (c2 - 1)) B) := by have h := HT2.out; rw [if_neg hc2] at h; exact h
                    have CT2 : Hid (capOk (.slice (some ⟨b2, o2 + 3, none⟩) n2 (c2 - 1))) := fun p n c e => by cases e; omega
                    go_quiet (fail)
                    go_wp2
                    go_roundg (n1 + n2)
                    case measure => omega
                    case rel =>
                      have e1 := HN1.out
                      have e2 := HN2.out
                      exact ⟨A, B, acc ++ [z], by omega, by simp only [List.length_append, List.length_cons, List.length_nil]; omega, HTT1.out, HTT2.out, CT1.out, CT2.out, HO8.out.below (below_drewN (Below.refl _ _) _), HX.out, NA'.out, NB'.out, below_drewN HW8.out _⟩
            · refine gen_q (fun W2 => Below wq.heap.size wq W2 ∧ Own3 W2 wq.heap.size (.int .i64 z.t.k) (.int .i64 z.t.v) (.int .i64 z.n)) ⟨by repeat' (first | (with_reducible first | assumption | exact Nat.le_refl _ | apply Below.setCell)), Own3.set s0 s1 s2⟩ ?_
              clear s0 s1 s2 t0 t1 t2 N
              clear hB6 hz6
              rintro W2 ⟨hB7, p0, p1, p2⟩
              have HO7 := Lib.hid (HO1.out.below hB7)
              have HW7 := Lib.hid (HW1.out.trans (hB7.mono HW1.out.size))
              have hz7 := HW7.out.size
              clear hB7 a0 a1 a2 d2
              by_cases hz0 : z.n = 0
              · have hzb : (z.n != 0) = false := by simp [hz0]
                have HX : Hid (res = acc ++ mergedI A B) := by show _ = _; have h := HR.out; rw [M3.out HQ0.out hz0] at h; exact h
                have HO8 := HO7; have HW8 := HW7
                clear M3 M4 HM HR HO1 HW1
                go_wp2_with fail
                by_cases hc1 : c1 = 1
                · by_cases hc2 : c2 = 1
                  · subst hc1
                    obtain rfl : n1 = 0 := by omega
                    have HTT1 : Hid (RI.Is w (.slice (some ⟨b1, o1, none⟩) 0 0) A) := HT1.out
                    have CT1 : Hid (capOk (.slice (some ⟨b1, o1, none⟩) 0 0)) := fun p n c e => by cases e; exact Nat.le_refl _
                    subst hc2
                    obtain rfl : n2 = 0 := by omega
                    have HTT2 : Hid (RI.Is w (.slice (some ⟨b2, o2, none⟩) 0 0) B) := HT2.out
                    have CT2 : Hid (capOk (.slice (some ⟨b2, o2, none⟩) 0 0)) := fun p n c e => by cases e; exact Nat.le_refl _
                    go_quiet (fail)
                    go_wp2
                    go_roundg (0 + 0)
                    case measure => omega
                    case rel =>
                      have e1 := HN1.out
                      have e2 := HN2.out
                      exact ⟨A, B, acc, by omega, by omega, HTT1.out, HTT2.out, CT1.out, CT2.out, HO8.out.below (below_drewN (Below.refl _ _) _), HX.out, NA'.out, NB'.out, below_drewN HW8.out _⟩
                  · subst hc1
                    obtain rfl : n1 = 0 := by omega
                    have HTT1 : Hid (RI.Is w (.slice (some ⟨b1, o1, none⟩) 0 0) A) := HT1.out
                    have CT1 : Hid (capOk (.slice (some ⟨b1, o1, none⟩) 0 0)) := fun p n c e => by cases e; exact Nat.le_refl _
                    have HTT2 : Hid (RI.Is w (.slice (some ⟨b2, o2 + 3, none⟩) n2 (c2 - 1)) B) := by have h := HT2.out; rw [if_neg hc2] at h; exact h
                    have CT2 : Hid (capOk (.slice (some ⟨b2, o2 + 3, none⟩) n2 (c2 - 1))) := fun p n c e => by cases e; omega
                    go_quiet (fail)
                    go_wp2
                    go_roundg (0 + n2)
                    case measure => omega
                    case rel =>
                      have e1 := HN1.out
                      have e2 := HN2.out
                      exact ⟨A, B, acc, by omega, by omega, HTT1.out, HTT2.out, CT1.out, CT2.out, HO8.out.below (below_drewN (Below.refl _ _) _), HX.out, NA'.out, NB'.out, below_drewN HW8.out _⟩
                · by_cases hc2 : c2 = 1
                  · have HTT1 : Hid (RI.Is w (.slice (some ⟨b1, o1 + 3, none⟩) n1 (c1 - 1)) A) := by have h := HT1.out; rw [if_neg hc1] at h; exact h
                    have CT1 : Hid (capOk (.slice (some ⟨b1, o1 + 3, none⟩) n1 (c1 - 1))) := fun p n c e => by cases e; omega
                    subst hc2
                    obtain rfl : n2 = 0 := by omega
                    have HTT2 : Hid (RI.Is w (.slice (some ⟨b2, o2, none⟩) 0 0) B) := HT2.out
                    have CT2 : Hid (capOk (.slice (some ⟨b2, o2, none⟩) 0 0)) := fun p n c e => by cases e; exact Nat.le_refl _
                    go_quiet (fail)
                    go_wp2
                    go_roundg (n1 + 0)
                    case measure => omega
                    case rel =>
                      have e1 := HN1.out
                      have e2 := HN2.out
                      exact ⟨A, B, acc, by omega, by omega, HTT1.out, HTT2.out, CT1.out, CT2.out, HO8.out.below (below_drewN (Below.refl _ _) _), HX.out, NA'.out, NB'.out, below_drewN HW8.out _⟩
                  · have HTT1 : Hid (RI.Is w (.slice (some ⟨b1, o1 + 3, none⟩) n1 (c1 - 1)) A) := by have h := HT1.out; rw [if_neg hc1] at h; exact h
                    have CT1 : Hid (capOk (.slice (some ⟨b1, o1 + 3, none⟩) n1 (c1 - 1))) := fun p n c e => by cases e; omega
                    have HTT2 : Hid (RI.Is w (.slice (some ⟨b2, o2 + 3, none⟩) n2 (c2 - 1)) B) := by have h := HT2.out; rw [if_neg hc2] at h; exact h
                    have CT2 : Hid (capOk (.slice (some ⟨b2, o2 + 3, none⟩) n2 (c2 - 1))) := fun p n c e => by cases e; omega
                    go_quiet (fail)
                    go_wp2
                    go_roundg (n1 + n2)
                    case measure => omega
                    case rel =>
                      have e1 := HN1.out
                      have e2 := HN2.out
                      exact ⟨A, B, acc, by omega, by omega, HTT1.out, HTT2.out, CT1.out, CT2.out, HO8.out.below (below_drewN (Below.refl _ _) _), HX.out, NA'.out, NB'.out, below_drewN HW8.out _⟩
              · have hzb : (z.n != 0) = true := by simp [hz0]
                have HX : Hid (res = (acc ++ [z]) ++ mergedI A B) := by show _ = _; have h := HR.out; rw [M4.out HQ0.out hz0] at h; simpa using h
                clear M3 M4 HM HR HO1 HW1
                go_wp2_with (at_builtin; refine RowKind.Own.push (R := RI) (y := z) HO7.out HW7.out hz7 rfl _ _ rfl rfl _ rfl hlen (Nat.le_refl _) ?_; intro v8 w8 hO8 hB8 hz8)
                have HO8 := Lib.hid hO8; have HW8 := Lib.hid hB8
                clear hO8 hB8 p0 p1 p2
                by_cases hc1 : c1 = 1
                · by_cases hc2 : c2 = 1
                  · subst hc1
                    obtain rfl : n1 = 0 := by omega
                    have HTT1 : Hid (RI.Is w (.slice (some ⟨b1, o1, none⟩) 0 0) A) := HT1.out
                    have CT1 : Hid (capOk (.slice (some ⟨b1, o1, none⟩) 0 0)) := fun p n c e => by cases e; exact Nat.le_refl _
                    subst hc2
                    obtain rfl : n2 = 0 := by omega
                    have HTT2 : Hid (RI.Is w (.slice (some ⟨b2, o2, none⟩) 0 0) B) := HT2.out
                    have CT2 : Hid (capOk (.slice (some ⟨b2, o2, none⟩) 0 0)) := fun p n c e => by cases e; exact Nat.le_refl _
                    go_quiet (fail)
                    go_wp2
                    go_roundg (0 + 0)
                    case measure => omega
                    case rel =>
                      have e1 := HN1.out
                      have e2 := HN2.out
                      exact ⟨A, B, acc ++ [z], by omega, by simp only [List.length_append, List.length_cons, List.length_nil]; omega, HTT1.out, HTT2.out, CT1.out, CT2.out, HO8.out.below (below_drewN (Below.refl _ _) _), HX.out, NA'.out, NB'.out, below_drewN HW8.out _⟩
                  · subst hc1
                    obtain rfl : n1 = 0 := by omega
                    have HTT1 : Hid (RI.Is w (.slice (some ⟨b1, o1, none⟩) 0 0) A) := HT1.out
                    have CT1 : Hid (capOk (.slice (some ⟨b1, o1, none⟩) 0 0)) := fun p n c e => by cases e; exact Nat.le_refl _
                    have HTT2 : Hid (RI.Is w (.slice (some ⟨b2, o2 + 3, none⟩) n2 (c2 - 1)) B) := by have h := HT2.out; rw [if_neg hc2] at h; exact h
                    have CT2 : Hid (capOk (.slice (some ⟨b2, o2 + 3, none⟩) n2 (c2 - 1))) := fun p n c e => by cases e; omega
                    go_quiet (fail)
                    go_wp2
                    go_roundg (0 + n2)
                    case measure => omega
                    case rel =>
                      have e1 := HN1.out
                      have e2 := HN2.out
                      exact ⟨A, B, acc ++ [z], by omega, by simp only [List.length_append, List.length_cons, List.length_nil]; omega, HTT1.out, HTT2.out, CT1.out, CT2.out, HO8.out.below (below_drewN (Below.refl _ _) _), HX.out, NA'.out, NB'.out, below_drewN HW8.out _⟩
                · by_cases hc2 : c2 = 1
                  · have HTT1 : Hid (RI.Is w (.slice (some ⟨b1, o1 + 3, none⟩) n1 (c1 - 1)) A) := by have h := HT1.out; rw [if_neg hc1] at h; exact h
                    have CT1 : Hid (capOk (.slice (some ⟨b1, o1 + 3, none⟩) n1 (c1 - 1))) := fun p n c e => by cases e; omega
                    subst hc2
                    obtain rfl : n2 = 0 := by omega
                    have HTT2 : Hid (RI.Is w (.slice (some ⟨b2, o2, none⟩) 0 0) B) := HT2.out
                    have CT2 : Hid (capOk (.slice (some ⟨b2, o2, none⟩) 0 0)) := fun p n c e => by cases e; exact Nat.le_refl _
                    go_quiet (fail)
                    go_wp2
                    go_roundg (n1 + 0)
                    case measure => omega
                    case rel =>
                      have e1 := HN1.out
                      have e2 := HN2.out
                      exact ⟨A, B, acc ++ [z], by omega, by simp only [List.length_append, List.length_cons, List.length_nil]; omega, HTT1.out, HTT2.out, CT1.out, CT2.out, HO8.out.below (below_drewN (Below.refl _ _) _), HX.out, NA'.out, NB'.out, below_drewN HW8.out _⟩
                  · have HTT1 : Hid (RI.Is w (.slice (some ⟨b1, o1 + 3, none⟩) n1 (c1 - 1)) A) := by have h := HT1.out; rw [if_neg hc1] at h; exact h
                    have CT1 : Hid (capOk (.slice (some ⟨b1, o1 + 3, none⟩) n1 (c1 - 1))) := fun p n c e => by cases e; omega
                    have HTT2 : Hid (RI.Is w (.slice (some ⟨b2, o2 + 3, none⟩) n2 (c2 - 1)) B) := by have h := HT2.out; rw [if_neg hc2] at h; exact h
                    have CT2 : Hid (capOk (.slice (some ⟨b2, o2 + 3, none⟩) n2 (c2 - 1))) := fun p n c e => by cases e; omega
                    go_quiet (fail)
                    go_wp2
                    go_roundg (n1 + n2)
                    case measure => omega
                    case rel =>
                      have e1 := HN1.out
                      have e2 := HN2.out
                      exact ⟨A, B, acc ++ [z], by omega, by simp only [List.length_append, List.length_cons, List.length_nil]; omega, HTT1.out, HTT2.out, CT1.out, CT2.out, HO8.out.below (below_drewN (Below.refl _ _) _), HX.out, NA'.out, NB'.out, below_drewN HW8.out _⟩
end Go.Proofs.YthhceggcdaljdaaGreat
