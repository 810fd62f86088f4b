/- the program's whole: a number of 128 bits -/
import Derived.Test.YthhceggcdaljdaaGreatK14
import Derived.Test.YthhceggcdaljdaaGreatK10
namespace Go.Proofs.YthhceggcdaljdaaGreat
open Go.RowKit Go.Shelf
set_option linter.unusedVariables false
set_option linter.unusedSimpArgs false

/-- a number of 128 bits in a box, its high half ahead -/
def W128 (hi lo : Int) : Prop := 0 ≤ hi ∧ hi < 18446744073709551616 ∧ 0 ≤ lo ∧ lo < 18446744073709551616
/-- another one, which is as much more, but for what has no room -/
def More (hi lo d hi' lo' : Int) : Prop := W128 hi' lo' ∧ ∃ q : Int, hi' * 18446744073709551616 + lo' = hi * 18446744073709551616 + lo + d + q * 340282366920938463463374607431768211456
theorem more_pos {hi lo : Int} (P : Int) (hw : W128 hi lo) (hP : 0 ≤ P) : More hi lo P ((hi + P / 18446744073709551616 + (lo + P % 18446744073709551616) / 18446744073709551616) % 18446744073709551616) ((lo + P % 18446744073709551616) % 18446744073709551616) := by
  obtain ⟨h1, h2, h3, h4⟩ := hw
  refine ⟨⟨by omega, by omega, by omega, by omega⟩, -((hi + P / 18446744073709551616 + (lo + P % 18446744073709551616) / 18446744073709551616) / 18446744073709551616), ?_⟩
  omega
theorem more_neg {hi lo : Int} (P m : Int) (hw : W128 hi lo) (hP : 0 ≤ P) : More hi lo (P - 18446744073709551616 * m) ((hi + (P / 18446744073709551616 - m) % 18446744073709551616 + (lo + P % 18446744073709551616) / 18446744073709551616) % 18446744073709551616) ((lo + P % 18446744073709551616) % 18446744073709551616) := by
  obtain ⟨h1, h2, h3, h4⟩ := hw
  refine ⟨⟨by omega, by omega, by omega, by omega⟩, -((hi + (P / 18446744073709551616 - m) % 18446744073709551616 + (lo + P % 18446744073709551616) / 18446744073709551616) / 18446744073709551616) - (P / 18446744073709551616 - m) / 18446744073709551616, ?_⟩
  omega
theorem w_value {hi lo S q : Int} (hw : W128 hi lo) (hS : -85070591730234615865843651857942052864 ≤ S ∧ S ≤ 85070591730234615865843651857942052864) (hq : hi * 18446744073709551616 + lo = S + q * 340282366920938463463374607431768211456) :
    (hi = IntKind.u64.wrap (wrap64 lo / 9223372036854775808) ↔ inR S) ∧ (inR S → wrap64 lo = S) := by
  obtain ⟨h1, h2, h3, h4⟩ := hw
  rw [IntKind.wrap_u64]
  by_cases h : lo < 9223372036854775808
  · have e : wrap64 lo = lo := by unfold wrap64; omega
    rw [e, show lo / 9223372036854775808 = 0 by omega]
    unfold inR
    omega
  · have e : wrap64 lo = lo - 18446744073709551616 := by unfold wrap64; omega
    rw [e, show (lo - 18446744073709551616) / 9223372036854775808 = -1 by omega]
    unfold inR
    omega
set_option maxRecDepth 100000 in
set_option maxHeartbeats 4000000 in
theorem wadd_any (e : Nat) (hi lo v n : Int) (w : World) (hw : W128 hi lo) (hv : inR v) (hn : 0 ≤ n ∧ n ≤ 2147483648)
    (c0 : w.cell? ⟨e, 0, none⟩ = some (.int .u64 hi)) (c1 : w.cell? ⟨e, 1, none⟩ = some (.int .u64 lo)) (f0 : w.frozen? ⟨e, 0, none⟩ = false) (f1 : w.frozen? ⟨e, 1, none⟩ = false) :
    Calls Tryz.prog 267 #[.pointer (some ⟨e, 0, none⟩), .int .i64 v, .int .i64 n] w (fun r w' => (∃ tv, r = .returned tv) ∧ ∃ hi' lo', w' = (w.setCell ⟨e, 1, none⟩ (.int .u64 lo')).setCell ⟨e, 0, none⟩ (.int .u64 hi') ∧ More hi lo (v * n) hi' lo') := by
  obtain ⟨m, rfl⟩ := Int.eq_ofNat_of_zero_le hn.1
  have hx0 : ∃ x : Nat, x < 18446744073709551616 ∧ IntKind.u64.wrap v = (x : Int) ∧ ((0 ≤ v ∧ v = x) ∨ (v < 0 ∧ v = x - 18446744073709551616)) := by
    refine ⟨(v % 18446744073709551616).toNat, by omega, by rw [IntKind.wrap_u64]; omega, ?_⟩
    unfold inR at hv
    omega
  obtain ⟨x, hx, hxw, hxv⟩ := hx0
  have HM := Lib.hid (fun W => mul64_any x m hx (by omega) W)
  have hP : (0 : Int) ≤ ((x * m : Nat) : Int) := Int.natCast_nonneg _
  have hmh : ((x * m / 18446744073709551616 : Nat) : Int) = ((x * m : Nat) : Int) / 18446744073709551616 := by omega
  have hml : ((x * m % 18446744073709551616 : Nat) : Int) = ((x * m : Nat) : Int) % 18446744073709551616 := by omega
  have h1 := more_pos _ hw hP
  have h2 := more_neg _ (m : Int) hw hP
  have e1 : v = x → v * (m : Int) = ((x * m : Nat) : Int) := fun h => by rw [h, Int.natCast_mul]
  have e2 : v = x - 18446744073709551616 → v * (m : Int) = ((x * m : Nat) : Int) - 18446744073709551616 * (m : Int) := fun h => by rw [h, Int.sub_mul, Int.natCast_mul]
  have hlo := hw.2.2.1
  have hhi := hw.1
  have hlo2 := hw.2.2.2
  rw [hmh, hml] at HM
  generalize ((x * m : Nat) : Int) = P at *
  have y1 : 0 ≤ P % 18446744073709551616 := by omega
  have y0 : 0 ≤ P / 18446744073709551616 := by omega
  have k0 : 0 ≤ (lo + P % 18446744073709551616) / 18446744073709551616 := by omega
  have k1 : (lo + P % 18446744073709551616) / 18446744073709551616 ≤ 1 := by omega
  clear hmh hml hP hw hx hv
  generalize P % 18446744073709551616 = ml at *
  generalize P / 18446744073709551616 = mh at *
  rcases hxv with ⟨hs, hxv⟩ | ⟨hs, hxv⟩
  · have e3 := e1 hxv
    have H1 := Lib.hid h1
    have hs' : decide (v < 0) = false := decide_eq_false (by omega)
    clear e1 e2 h2 hs hxv h1
    generalize v * (m : Int) = vm at *
    subst e3
    go_enter Tryz.func267, Tryz.ntmps267
    go_wp2_with fail
    refine (HM.out _).mono ?_
    rintro r w1 ⟨rfl, rfl⟩
    clear HM hxw
    go_wp2_with (first | simp only [add64_0 lo ml hlo y1] | simp only [add64_any hi mh _ hhi y0 k0 k1])
    go_end0
    exact ⟨⟨_, rfl⟩, _, _, rfl, H1.out⟩
  · have e3 := e2 hxv
    have H1 := Lib.hid h2
    have hs' : decide (v < 0) = true := decide_eq_true hs
    have hwn : IntKind.u64.wrap (mh - (m : Int)) = (mh - (m : Int)) % 18446744073709551616 := IntKind.wrap_u64 _
    have y2 : 0 ≤ (mh - (m : Int)) % 18446744073709551616 := by omega
    clear e1 e2 h1 hs hxv h2
    generalize v * (m : Int) = vm at *
    subst e3
    go_enter Tryz.func267, Tryz.ntmps267
    go_wp2_with fail
    refine (HM.out _).mono ?_
    rintro r w1 ⟨rfl, rfl⟩
    clear HM hxw
    go_wp2_with (first | simp only [add64_0 lo ml hlo y1] | simp only [hwn, add64_any hi _ _ hhi y2 k0 k1])
    go_end0
    exact ⟨⟨_, rfl⟩, _, _, rfl, H1.out⟩
set_option maxRecDepth 100000 in
set_option maxHeartbeats 4000000 in
theorem wvalue_any (hi lo : Int) (w : World) : 
    Calls Tryz.prog 268 #[.agg #[.int .u64 hi, .int .u64 lo]] w (fun r w' => r = .returned (.tuple #[.int .i64 (wrap64 lo), .bool (hi == IntKind.u64.wrap (wrap64 lo / 9223372036854775808))]) ∧ Below w.heap.size w w') := by
  have HB : Hid (Below w.heap.size w (w.alloc (.cells #[.int .u64 hi, .int .u64 lo] 290)).drew) := ((Below.refl _ _).alloc (Nat.le_refl _) _).drew
  go_enter Tryz.func268, Tryz.ntmps268
  go_wp2
  go_region
  all_goals go_wp2
  all_goals go_returns
  all_goals exact ⟨rfl, HB.out⟩
end Go.Proofs.YthhceggcdaljdaaGreat
/- the program's total -/
namespace Go.Proofs.YthhceggcdaljdaaGreat
open Go.RowKit Go.Shelf
set_option linter.unusedVariables false
set_option linter.unusedSimpArgs false

def Tot (hi lo S : Int) : Prop := W128 hi lo ∧ ∃ q : Int, hi * 18446744073709551616 + lo = S + q * 340282366920938463463374607431768211456
theorem Tot.zero : Tot 0 0 0 := ⟨⟨by omega, by omega, by omega, by omega⟩, 0, by omega⟩
theorem Tot.more {hi lo S d hi' lo' : Int} (h : Tot hi lo S) (k : More hi lo d hi' lo') : Tot hi' lo' (S + d) := by
  obtain ⟨_, q, hq⟩ := h
  obtain ⟨hw, r, hr⟩ := k
  exact ⟨hw, q + r, by omega⟩
theorem Tot.value {hi lo S : Int} (h : Tot hi lo S) (hS : -85070591730234615865843651857942052864 ≤ S ∧ S ≤ 85070591730234615865843651857942052864) :
    ((hi == IntKind.u64.wrap (wrap64 lo / 9223372036854775808)) = decide (inR S)) ∧ (inR S → wrap64 lo = S) := by
  obtain ⟨hw, q, hq⟩ := h
  have h1 := w_value hw hS hq
  refine ⟨?_, h1.2⟩
  by_cases hr : inR S
  · rw [decide_eq_true hr]; simpa using h1.1.2 hr
  · rw [decide_eq_false hr]
    have : ¬ hi = IntKind.u64.wrap (wrap64 lo / 9223372036854775808) := fun e => hr (h1.1.1 e)
    simpa using this
theorem vals_next {xs : List IV} {k : Nat} (hk : k < xs.length) : valsO (xs.take (k + 1)) = valsO (xs.take k) + xs[k]!.t.v * xs[k]!.n := by
  rw [take_getA xs k hk]
  simp [valsO]
theorem mul_bd {v n : Int} (hv : inR v) (hn : 0 ≤ n ∧ n ≤ 2147483648) : -19807040628566084398385987584 ≤ v * n ∧ v * n ≤ 19807040628566084398385987584 := by
  unfold inR at hv
  have h1 : v * n ≤ 9223372036854775808 * n := Int.mul_le_mul_of_nonneg_right (by omega) hn.1
  have h2 : -9223372036854775808 * n ≤ v * n := Int.mul_le_mul_of_nonneg_right (by omega) hn.1
  omega
theorem vals_bd {xs : List IV} (h : ∀ c ∈ xs, inR c.t.v ∧ 0 ≤ c.n ∧ c.n ≤ 2147483648) : -(xs.length * 19807040628566084398385987584) ≤ valsO xs ∧ valsO xs ≤ xs.length * 19807040628566084398385987584 := by
  induction xs with
  | nil => simp [valsO]
  | cons c xs ih =>
    have h1 := h c (by simp)
    have h2 := ih fun d hd => h d (by simp [hd])
    have h3 := mul_bd h1.1 h1.2
    have e : valsO (c :: xs) = c.t.v * c.n + valsO xs := by simp [valsO]
    rw [e, List.length_cons]
    omega
set_option maxRecDepth 100000 in
set_option maxHeartbeats 8000000 in
theorem total_row (k : Int) (xs : List IV) (b off cap : Nat) (w : World) (hl : xs.length ≤ 900000) (hb : b < w.heap.size) (hr : RI.Row w b off xs) (hq : ∀ c ∈ xs, inR c.t.v ∧ 0 ≤ c.n ∧ c.n ≤ 2147483648) :
    Calls Tryz.prog 251 #[.int .i64 k, .slice (some ⟨b, off, none⟩) xs.length cap] w (Ret ((totalO k xs).val) w) := by
  have hrow : Hid (∀ (W : World), Below w.heap.size w W → ∀ j, j < xs.length → _) := fun W hW j hj => atI (hr.below hW hb) j hj
  have hel : Hid (∀ j, j < xs.length → inR xs[j]!.t.v ∧ 0 ≤ xs[j]!.n ∧ xs[j]!.n ≤ 2147483648) := fun j hj => hq _ (getA_mem hj)
  have hstep : Hid (∀ j, j < xs.length → valsO (xs.take (j + 1)) = valsO (xs.take j) + xs[j]!.t.v * xs[j]!.n) := fun j hj => vals_next hj
  have hfin : Hid (valsO (xs.take xs.length) = valsO xs) := by rw [List.take_length]; exact rfl
  have h0 : Hid (valsO (xs.take 0) = 0) := rfl
  have hbd := vals_bd hq
  have HO := Lib.hid (fun W => over_any k W)
  have HV := Lib.hid (fun hi lo W => wvalue_any hi lo W)
  have HA := Lib.hid (fun hi lo v n W => wadd_any (w.heap.size + 1) hi lo v n W)
  have HT1 : Hid (inR (valsO xs) → (totalO k xs).val = .agg #[.int .i64 k, .int .i64 (valsO xs)]) := fun h => by unfold totalO; rw [if_pos h]
  have HT2 : Hid (¬ inR (valsO xs) → (totalO k xs).val = .agg #[.int .i64 k, .int .i64 (-9223372036854775806)]) := fun h => by unfold totalO; rw [if_neg h]; rfl
  generalize (totalO k xs).val = tot at HT1 HT2 ⊢
  generalize valsO xs = res at hfin hbd HT1 HT2
  generalize hn : xs.length = n at hl hrow hstep hfin hbd hel
  clear hr hq hn
  go_enter Tryz.func251, Tryz.ntmps251
  go_wp2
  have HR0 : Hid (rowOf ((w.alloc (.cells #[.int .i64 0, .int .i64 0] 27)).alloc (.cells #[.int .u64 0, .int .u64 0] 290)) w.heap.size = some #[.int .i64 0, .int .i64 0]) := row_old (row_new rfl)
  have HR1 : Hid (rowOf ((w.alloc (.cells #[.int .i64 0, .int .i64 0] 27)).alloc (.cells #[.int .u64 0, .int .u64 0] 290)) (w.heap.size + 1) = some #[.int .u64 0, .int .u64 0]) := row_new (by rw [World.size_alloc])
  have HB0 : Hid (Below w.heap.size w ((w.alloc (.cells #[.int .i64 0, .int .i64 0] 27)).alloc (.cells #[.int .u64 0, .int .u64 0] 290))) := ((Below.refl _ _).alloc (Nat.le_refl _) _).alloc (by rw [World.size_alloc]; omega) _
  go_loopg [12] n (fun gg i wr => ∃ (j : Nat) (hi lo : Int), j ≤ n ∧ n - j ≤ gg ∧ i = .int .i64 j ∧ Hid (Tot hi lo (valsO (xs.take j))) ∧ Hid (rowOf wr w.heap.size = some #[.int .i64 0, .int .i64 0]) ∧ Hid (rowOf wr (w.heap.size + 1) = some #[.int .u64 hi, .int .u64 lo]) ∧ Hid (Below w.heap.size w wr))
  case atStart => exact ⟨0, 0, 0, Nat.zero_le _, by omega, rfl, by rw [h0.out]; exact Tot.zero, HR0.out, HR1.out, HB0.out⟩
  case round =>
    obtain ⟨j, hi, lo, hjn, hg, rfl, HT, HX0, HX1, HB⟩ := hrel
    by_cases hlt : j < n
    · have hlz : (j : Int) < (n : Int) := by omega
      have hc := hrow.out wr HB.out j hlt
      have hs := hstep.out j hlt
      have he := hel.out j hlt
      generalize valsO (xs.take j) = a at hs HT
      generalize hy : valsO (xs.take (j + 1)) = y at hs
      generalize xs[j]! = c at hc hs he
      obtain ⟨t, m⟩ := c
      obtain ⟨e0, e1, e2⟩ := hc
      simp only at e0 e1 e2 hs he
      have HBn := Lib.hid ((HB.out).alloc HB.out.size (.cells #[.int .i64 t.k, .int .i64 t.v, .int .i64 m] 57))
      have hx0 : rowOf (wr.alloc (.cells #[.int .i64 t.k, .int .i64 t.v, .int .i64 m] 57)) w.heap.size = some #[.int .i64 0, .int .i64 0] := row_old HX0.out
      have hx1 : rowOf (wr.alloc (.cells #[.int .i64 t.k, .int .i64 t.v, .int .i64 m] 57)) (w.heap.size + 1) = some #[.int .u64 hi, .int .u64 lo] := row_old HX1.out
      have HC := Lib.hid (HA.out hi lo t.v m _ HT.out.1 he.1 he.2 (rowOf_cell hx1 0) (rowOf_cell hx1 1) (rowOf_frozen hx1 0) (rowOf_frozen hx1 1))
      have HH := Lib.hid (And.intro hx0 hx1)
      have HS : Hid (y = a + t.v * m) := hs
      have HY := Lib.hid hy
      clear hrow hstep hfin h0 hy hel HA HO HV HR0 HR1 HB0 HT1 HT2 hbd hs he hx0 hx1 HX0 HX1
      go_wp2_with fail
      refine (HC.out).mono ?_
      rintro r w1 ⟨⟨tv, rfl⟩, hi', lo', rfl, hm⟩
      have HB2 := Lib.hid ((HBn.out.setCell (p := ⟨w.heap.size + 1, 1, none⟩) (by simp) (.int .u64 lo')).setCell (p := ⟨w.heap.size + 1, 0, none⟩) (by simp) (.int .u64 hi'))
      have HN0 := Lib.hid (row_cell_other (i := 0) (v := .int .u64 hi') (row_cell_other (i := 1) (v := .int .u64 lo') HH.out.1 (show w.heap.size ≠ w.heap.size + 1 by omega)) (show w.heap.size ≠ w.heap.size + 1 by omega))
      have HN1 := Lib.hid (row_cell_same (i := 0) (v := .int .u64 hi') (c' := #[.int .u64 hi', .int .u64 lo']) (row_cell_same (i := 1) (v := .int .u64 lo') (c' := #[.int .u64 hi, .int .u64 lo']) HH.out.2 rfl) rfl)
      have HTn := Lib.hid (HT.out.more hm)
      clear HC HH HBn HB hm HT
      go_wp2
      go_roundg (n - (j + 1))
      case measure => omega
      case rel => exact ⟨j + 1, hi', lo', by omega, by omega, by go_num, by rw [HY.out, HS.out]; exact HTn.out, HN0.out, HN1.out, HB2.out⟩
    · have hlz : ¬ (j : Int) < (n : Int) := by omega
      have : j = n := by omega
      subst this
      have HT' : Tot hi lo res := by
        have := HT.out
        rw [hfin.out] at this
        exact this
      have hval := HT'.value (by omega)
      have x1 := HX1.out
      have x0 := HX0.out
      have c0 : wr.cell? ⟨w.heap.size + 1, 0, none⟩ = some (.int .u64 hi) := rowOf_cell x1 0
      have c1 : wr.cell? ⟨w.heap.size + 1, 1, none⟩ = some (.int .u64 lo) := rowOf_cell x1 1
      have HVV := Lib.hid (HV.out hi lo)
      have HK := Lib.hid (And.intro x0 x1)
      clear hrow hstep hfin h0 hel HA HV HR0 HR1 HB0 hbd HT HT' x0 HX0 HX1
      by_cases hin : inR res
      · have HE := Lib.hid (HT1.out hin)
        have hw64 := hval.2 hin
        have hbt := hval.1
        rw [decide_eq_true hin] at hbt
        clear HT1 HT2 hval hin HO
        go_wp2_with fail
        refine (HVV.out _).mono ?_
        rintro r w1 ⟨rfl, hb1⟩
        rw [hbt, hw64]
        have HB2 := Lib.hid (HB.out.trans (hb1.mono HB.out.size))
        have hx := rowOf_below HK.out.1 hb1 (rowOf_lt HK.out.1)
        have d0 : w1.cell? ⟨w.heap.size, 0, none⟩ = some (.int .i64 0) := rowOf_cell hx 0
        have d1 : w1.cell? ⟨w.heap.size, 1, none⟩ = some (.int .i64 0) := rowOf_cell hx 1
        have g0 := rowOf_frozen hx 0
        have g1 := rowOf_frozen hx 1
        have L0 : w.heap.size < w1.heap.size := rowOf_lt hx
        have s0 : ∀ v, (w1.setCell ⟨w.heap.size, 0, none⟩ v).cell? ⟨w.heap.size, 0, none⟩ = some v := fun v => World.cell?_setCell_same' _ _ _ (by rw [d0]; rfl)
        clear hx hb1 HK HVV c0 c1 x1
        go_wp2
        refine bodyPost_ret (v := tot) (by rw [HE.out]; simp [results, go_sem, s0, d1]) rfl ⟨rfl, (HB2.out.setCell (by simp) _).setCell (by simp) _⟩
      · have HE := Lib.hid (HT2.out hin)
        have hbt := hval.1
        rw [decide_eq_false hin] at hbt
        clear HT1 HT2 hval hin
        go_wp2_with fail
        refine (HVV.out _).mono ?_
        rintro r w1 ⟨rfl, hb1⟩
        rw [hbt]
        have HB2 := Lib.hid (HB.out.trans (hb1.mono HB.out.size))
        have HX := Lib.hid (rowOf_below HK.out.1 hb1 (rowOf_lt HK.out.1))
        clear hb1 HK HVV c0 c1 x1
        go_wp2_with fail
        refine (HO.out _).mono ?_
        rintro r w2 ⟨rfl, hb1⟩
        have HB3 := Lib.hid (HB2.out.trans (hb1.mono HB2.out.size))
        have hx := rowOf_below HX.out hb1 (rowOf_lt HX.out)
        have d0 : w2.cell? ⟨w.heap.size, 0, none⟩ = some (.int .i64 0) := rowOf_cell hx 0
        have d1 : w2.cell? ⟨w.heap.size, 1, none⟩ = some (.int .i64 0) := rowOf_cell hx 1
        have g0 := rowOf_frozen hx 0
        have g1 := rowOf_frozen hx 1
        have L0 : w.heap.size < w2.heap.size := rowOf_lt hx
        have s0 : ∀ v, (w2.setCell ⟨w.heap.size, 0, none⟩ v).cell? ⟨w.heap.size, 0, none⟩ = some v := fun v => World.cell?_setCell_same' _ _ _ (by rw [d0]; rfl)
        clear hx hb1 HO HX
        go_wp2
        refine bodyPost_ret (v := tot) (by rw [HE.out]; simp [results, go_sem, s0, d1]) rfl ⟨rfl, (HB3.out.setCell (by simp) _).setCell (by simp) _⟩
set_option maxRecDepth 100000 in
set_option maxHeartbeats 8000000 in
theorem total_nil (k : Int) (p : Option Addr) (cap : Nat) (w : World) : Calls Tryz.prog 251 #[.int .i64 k, .slice p 0 cap] w (Ret ((totalO k []).val) w) := by
  have hv : totalO k [] = ⟨k, 0⟩ := by
    have h0 : valsO [] = 0 := rfl
    unfold totalO
    rw [h0]
    exact if_pos (by unfold inR; omega)
  rw [hv]
  have HR0 : Hid (rowOf ((w.alloc (.cells #[.int .i64 0, .int .i64 0] 27)).alloc (.cells #[.int .u64 0, .int .u64 0] 290)) w.heap.size = some #[.int .i64 0, .int .i64 0]) := row_old (row_new rfl)
  have HB0 : Hid (Below w.heap.size w ((w.alloc (.cells #[.int .i64 0, .int .i64 0] 27)).alloc (.cells #[.int .u64 0, .int .u64 0] 290))) := ((Below.refl _ _).alloc (Nat.le_refl _) _).alloc (by rw [World.size_alloc]; omega) _
  have HV := Lib.hid (fun W => wvalue_any 0 0 W)
  have hin : inR 0 := by unfold inR; omega
  have hz := Tot.zero.value (by omega)
  have hbt := hz.1
  have hw64 := hz.2 hin
  rw [decide_eq_true hin] at hbt
  clear hz hin
  go_enter Tryz.func251, Tryz.ntmps251
  go_wp2
  refine wp_loop_rounds 1 ?_
  rw [rounds_succ]
  go_wp2_with fail
  refine (HV.out _).mono ?_
  rintro r w1 ⟨rfl, hb1⟩
  rw [hbt, hw64]
  have HB2 := Lib.hid (HB0.out.trans (hb1.mono HB0.out.size))
  have hx := rowOf_below HR0.out hb1 (rowOf_lt HR0.out)
  have d0 : w1.cell? ⟨w.heap.size, 0, none⟩ = some (.int .i64 0) := rowOf_cell hx 0
  have d1 : w1.cell? ⟨w.heap.size, 1, none⟩ = some (.int .i64 0) := rowOf_cell hx 1
  have g0 := rowOf_frozen hx 0
  have g1 := rowOf_frozen hx 1
  have L0 : w.heap.size < w1.heap.size := rowOf_lt hx
  have s0 : ∀ v, (w1.setCell ⟨w.heap.size, 0, none⟩ v).cell? ⟨w.heap.size, 0, none⟩ = some v := fun v => World.cell?_setCell_same' _ _ _ (by rw [d0]; rfl)
  clear hx hb1 HV HR0 HB0 hv
  go_wp2
  refine bodyPost_ret (v := .agg #[.int .i64 k, .int .i64 0]) (by simp [results, go_sem, s0, d1]) rfl ⟨rfl, (HB2.out.setCell (by simp) _).setCell (by simp) _⟩
theorem total_any (k : Int) (xs : List IV) (v : Value) (w : World) (hl : xs.length ≤ 900000) (h : RI.Is w v xs) (hq : ∀ c ∈ xs, inR c.t.v ∧ 0 ≤ c.n ∧ c.n ≤ 2147483648) : Calls Tryz.prog 251 #[.int .i64 k, v] w (Ret ((totalO k xs).val) w) := by
  rcases h with ⟨rfl, p, cap, rfl, _⟩ | ⟨h0, b, off, cap, rfl, hb, hr⟩
  · exact total_nil k p cap w
  · exact total_row k xs b off cap w hl hb hr hq
end Go.Proofs.YthhceggcdaljdaaGreat
/- the program's figure -/
namespace Go.Proofs.YthhceggcdaljdaaGreat
open Go.RowKit Go.Shelf
set_option linter.unusedVariables false
set_option linter.unusedSimpArgs false

set_option maxRecDepth 100000 in
set_option maxHeartbeats 8000000 in
theorem figure_any (kind : Int) (mine others : List IV) (b off cap : Nat) (vo : Value) (w : World) (h0 : 0 < mine.length) (hl : mine.length ≤ 900000) (hlo : others.length ≤ 900000) (hb : b < w.heap.size) (hr : RI.Row w b off mine) (ho : RI.Is w vo others)
    (hq : ∀ c ∈ mine, inR c.t.v ∧ 0 ≤ c.n ∧ c.n ≤ 2147483648) (hqo : ∀ c ∈ others, inR c.t.v ∧ 0 ≤ c.n ∧ c.n ≤ 2147483648) :
    Calls Tryz.prog 226 #[.int .i64 kind, .slice (some ⟨b, off, none⟩) mine.length cap, vo] w (Ret ((figureO kind mine others).val) w) := by
  have hne : mine ≠ [] := fun e => by rw [e] at h0; exact absurd h0 (Nat.lt_irrefl _)
  have e0 : w.cell? ⟨b, off, none⟩ = some (.int .i64 mine[0]!.t.k) := by
    have := (atI hr 0 h0).1
    simpa using this
  have HMy : Hid (∀ W, Below w.heap.size w W → Calls Tryz.prog 250 #[.slice (some ⟨b, off, none⟩) mine.length cap] W (Ret (.int .i64 (manyO mine)) W)) := fun W hW => many_row mine b off cap W hl (Nat.lt_of_lt_of_le hb hW.size) (hr.below hW hb) fun c hc => (hq c hc).2
  have HTm : Hid (∀ W k, Below w.heap.size w W → Calls Tryz.prog 251 #[.int .i64 k, .slice (some ⟨b, off, none⟩) mine.length cap] W (Ret ((totalO k mine).val) W)) := fun W k hW => total_row k mine b off cap W hl (Nat.lt_of_lt_of_le hb hW.size) (hr.below hW hb) hq
  have HTo : Hid (∀ W k, Below w.heap.size w W → Calls Tryz.prog 251 #[.int .i64 k, vo] W (Ret ((totalO k others).val) W)) := fun W k hW => total_any k others vo W hlo (ho.below hW) hqo
  have HF7 : Hid (kind = 7 → figureO kind mine others = ⟨mine[0]!.t.k, manyO mine⟩) := fun h => by unfold figureO; rw [if_pos h]
  have HF14 : Hid (kind = 14 → figureO kind mine others = totalO mine[0]!.t.k others) := fun h => by unfold figureO; rw [if_neg (by omega), if_pos h]
  have HF : Hid (¬ kind = 7 → ¬ kind = 14 → figureO kind mine others = totalO mine[0]!.t.k mine) := fun h k => by unfold figureO; rw [if_neg h, if_neg k]
  generalize figureO kind mine others = fig at HF7 HF14 HF ⊢
  generalize mine[0]!.t.k = key at *
  generalize manyO mine = mm at *
  generalize hm : mine.length = m at *
  have h0z : (0 : Int) < (m : Int) := by omega
  have HX0 : Hid (rowOf (w.alloc (.cells #[.int .i64 0, .int .i64 0] 27)) w.heap.size = some #[.int .i64 0, .int .i64 0]) := row_new rfl
  have HB0 : Hid (Below w.heap.size w (w.alloc (.cells #[.int .i64 0, .int .i64 0] 27))) := (Below.refl _ _).alloc (Nat.le_refl _) _
  clear hr ho hq hqo hne hlo hm
  by_cases h7 : kind = 7
  · have HE := Lib.hid (HF7.out h7)
    clear HF7 HF14 HF
    subst h7
    skip
    go_enter Tryz.func226, Tryz.ntmps226
    go_wp2_with fail
    refine (HMy.out _ HB0.out).mono ?_
    rintro r w1 ⟨rfl, hb1⟩
    have HB2 := Lib.hid (HB0.out.trans (hb1.mono HB0.out.size))
    have hx := rowOf_below HX0.out hb1 (rowOf_lt HX0.out)
    have d0 : w1.cell? ⟨w.heap.size, 0, none⟩ = some (.int .i64 0) := rowOf_cell hx 0
    have d1 : w1.cell? ⟨w.heap.size, 1, none⟩ = some (.int .i64 0) := rowOf_cell hx 1
    have g0 := rowOf_frozen hx 0
    have g1 := rowOf_frozen hx 1
    have L0 : w.heap.size < w1.heap.size := rowOf_lt hx
    have s0 : ∀ v, (w1.setCell ⟨w.heap.size, 0, none⟩ v).cell? ⟨w.heap.size, 0, none⟩ = some v := fun v => World.cell?_setCell_same' _ _ _ (by rw [d0]; rfl)
    clear hx hb1 HMy HTm HTo HX0 HB0
    go_wp2
    refine bodyPost_ret (v := fig.val) (by rw [HE.out]; simp [results, go_sem, s0, d1]) rfl ⟨rfl, (HB2.out.setCell (by simp) _).setCell (by simp) _⟩
  · have h7b : (kind == 7) = false := by simpa using h7
    by_cases h14 : kind = 14
    · have HE := Lib.hid (HF14.out h14)
      clear HF7 HF14 HF
      subst h14
      obtain ⟨tk, tv⟩ := totalO key others
      skip
      go_enter Tryz.func226, Tryz.ntmps226
      go_wp2_with fail
      refine (HTo.out _ _ HB0.out).mono ?_
      rintro r w1 ⟨rfl, hb1⟩
      have HB2 := Lib.hid (HB0.out.trans (hb1.mono HB0.out.size))
      have hx := rowOf_below HX0.out hb1 (rowOf_lt HX0.out)
      have d0 : w1.cell? ⟨w.heap.size, 0, none⟩ = some (.int .i64 0) := rowOf_cell hx 0
      have d1 : w1.cell? ⟨w.heap.size, 1, none⟩ = some (.int .i64 0) := rowOf_cell hx 1
      have g0 := rowOf_frozen hx 0
      have g1 := rowOf_frozen hx 1
      have L0 : w.heap.size < w1.heap.size := rowOf_lt hx
      have s0 : ∀ v, (w1.setCell ⟨w.heap.size, 0, none⟩ v).cell? ⟨w.heap.size, 0, none⟩ = some v := fun v => World.cell?_setCell_same' _ _ _ (by rw [d0]; rfl)
      clear hx hb1 HMy HTm HTo HX0 HB0
      go_wp2
      refine bodyPost_ret (v := fig.val) (by rw [HE.out]; simp [results, go_sem, s0, d1]) rfl ⟨rfl, (HB2.out.setCell (by simp) _).setCell (by simp) _⟩
    · have h14b : (kind == 14) = false := by simpa using h14
      have HE := Lib.hid (HF.out h7 h14)
      clear HF7 HF14 HF
      skip
      go_enter Tryz.func226, Tryz.ntmps226
      go_wp2_with fail
      refine (HTm.out _ _ HB0.out).mono ?_
      rintro r w1 ⟨rfl, hb1⟩
      have HB2 := Lib.hid (HB0.out.trans (hb1.mono HB0.out.size))
      have hx := rowOf_below HX0.out hb1 (rowOf_lt HX0.out)
      have d0 : w1.cell? ⟨w.heap.size, 0, none⟩ = some (.int .i64 0) := rowOf_cell hx 0
      have d1 : w1.cell? ⟨w.heap.size, 1, none⟩ = some (.int .i64 0) := rowOf_cell hx 1
      have g0 := rowOf_frozen hx 0
      have g1 := rowOf_frozen hx 1
      have L0 : w.heap.size < w1.heap.size := rowOf_lt hx
      have s0 : ∀ v, (w1.setCell ⟨w.heap.size, 0, none⟩ v).cell? ⟨w.heap.size, 0, none⟩ = some v := fun v => World.cell?_setCell_same' _ _ _ (by rw [d0]; rfl)
      clear hx hb1 HMy HTm HTo HX0 HB0
      go_wp2
      refine bodyPost_ret (v := fig.val) (by rw [HE.out]; simp [results, go_sem, s0, d1]) rfl ⟨rfl, (HB2.out.setCell (by simp) _).setCell (by simp) _⟩
end Go.Proofs.YthhceggcdaljdaaGreat
/- what comes of a key's items, as an iterator: ofKey's closure, where it tells one record -/
namespace Go.Proofs.YthhceggcdaljdaaGreat
open Go.RowKit Go.Shelf
attribute [local go_sem] Oper.semAt_some
set_option linter.unusedVariables false
set_option linter.unusedSimpArgs false

set_option maxRecDepth 100000 in
set_option maxHeartbeats 4000000 in
theorem ofKey_iter (Kp : World → World → Prop) (Bk Bm Bo : Nat) (kind : Int) (mine others : List IV) (b off cap : Nat) (vo : Value) (w : World)
    (hBk : Bk < w.heap.size) (hBm : Bm < w.heap.size) (hBo : Bo < w.heap.size) (c1 : w.cell? ⟨Bk, 0, none⟩ = some (.int .i64 kind)) (c2 : w.cell? ⟨Bm, 0, none⟩ = some (.slice (some ⟨b, off, none⟩) mine.length cap)) (c3 : w.cell? ⟨Bo, 0, none⟩ = some vo)
    (h0 : 0 < mine.length) (hl : mine.length ≤ 900000) (hlo : others.length ≤ 900000) (hb : b < w.heap.size) (hr : RI.Row w b off mine) (ho : RI.Is w vo others)
    (hq : ∀ c ∈ mine, inR c.t.v ∧ 0 ≤ c.n ∧ c.n ≤ 2147483648) (hqo : ∀ c ∈ others, inR c.t.v ∧ 0 ≤ c.n ∧ c.n ≤ 2147483648) :
    Iter Tryz.prog 225 #[.pointer (some ⟨Bk, 0, none⟩), .pointer (some ⟨Bm, 0, none⟩), .pointer (some ⟨Bo, 0, none⟩)] encO Kp [(figureO kind mine others, 1)] w := fun l J Jx W hW hJ hJx hY hj => by
  have d1 := (hW.cell (p := ⟨Bk, 0, none⟩) hBk).trans c1
  have d2 := (hW.cell (p := ⟨Bm, 0, none⟩) hBm).trans c2
  have d3 := (hW.cell (p := ⟨Bo, 0, none⟩) hBo).trans c3
  have HF := Lib.hid (figure_any kind mine others b off cap vo W h0 hl hlo (Nat.lt_of_lt_of_le hb hW.size) (hr.below hW hb) (ho.below hW) hq hqo)
  clear c1 c2 c3 hr ho hq hqo h0 hl hlo
  generalize figureO kind mine others = fig at *
  refine (callsIn_wide (n := 3)).1 ?_
  refine callsIn_of_wp Tryz.func225 rfl trivial ?_ rfl
  simp only [Tryz.ntmps225, List.size_toArray, List.length_cons, List.length_nil, Nat.reduceAdd, Nat.reduceSub, Array.replicate_succ, Array.replicate_zero, List.push_toArray, List.append_toArray, List.nil_append, List.cons_append]
  gi_wp2_with (refine ⟨trivial, ?_⟩; gi_at_call 226; refine (callsIn_wide.2 HF.out).mono ?_; rintro e W1 ⟨rfl, hb1⟩; obtain ⟨fn, tmps, assign, body, hy, hR⟩ := (yield_any (hY [] (fig, 1) W1 (by simp) (hJ [] W W1 none hj (grown_of_below hb1) (fun r e => by cases e)))).1 2; dsimp only [encO] at hy)
  refine hR.mono ?_
  rintro e W2 (⟨rfl, hJ2, _⟩ | ⟨rfl, hx2⟩)
  · gi_wp2
    go_end0
    exact ⟨⟨_, rfl⟩, .inl hJ2⟩
  · gi_wp2
    go_end0
    exact ⟨⟨_, rfl⟩, .inr ⟨_, List.prefix_rfl, hx2.1⟩⟩
end Go.Proofs.YthhceggcdaljdaaGreat
