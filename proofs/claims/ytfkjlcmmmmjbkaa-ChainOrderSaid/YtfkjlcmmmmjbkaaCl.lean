import Derived.Test.YtfkjlcmmmmjbkaaCk
import Derived.Deep.RegionHeldLaw
namespace Go.Proofs.Ytfkjlcmmmmjbkaa
open Go.RowKit
set_option linter.unusedVariables false
set_option linter.unusedSimpArgs false

/- the law ChainOrder -/
theorem IsT.cut {w : World} {p : Option Addr} {n c : Nat} {xs : List TV} (h : IsT w (.slice p n c) xs) (m : Nat) (hm : m ≤ n) (h0 : m = 0 → n = 0) : IsT w (.slice p m c) (xs.take m) := by
  rcases h with ⟨rfl, q, d, e, hq⟩ | ⟨hne, b, off, d, e, hb, hr⟩
  · simp only [Value.slice.injEq] at e
    obtain ⟨rfl, rfl, rfl⟩ := e
    obtain rfl : m = 0 := by omega
    exact .inl ⟨rfl, p, c, rfl, hq⟩
  · simp only [Value.slice.injEq] at e
    obtain ⟨rfl, e2, rfl⟩ := e
    have hl : 0 < xs.length := by cases xs with | nil => exact absurd rfl hne | cons => simp
    have hlen : (xs.take m).length = m := by rw [List.length_take]; omega
    refine .inr ⟨fun e => ?_, b, off, c, by rw [hlen], hb, ?_⟩
    · rw [e] at hlen
      simp at hlen
      omega
    · intro j hj i u hu
      rw [hlen] at hj
      have hg : (xs.take m)[j]! = xs[j]! := by
        rw [getElem!_pos (xs.take m) j (by omega), getElem!_pos xs j (by omega), List.getElem_take]
      rw [hg] at hu
      exact hr j (by omega) i u hu
theorem cutn_ok (n : Nat) : ∃ m : Nat, imin (n : Int) 100 = (m : Int) ∧ m ≤ n ∧ m ≤ 100 ∧ (m = 0 → n = 0) := by
  unfold imin
  split
  · exact ⟨100, rfl, by omega, by omega, by omega⟩
  · exact ⟨n, rfl, by omega, by omega, by omega⟩
attribute [local go_sem ↓] run_imin
/-- append of a timestamp, twice, in a region that draws its order -/
theorem OwnT.push2 {ops : Array Oper} {o : Oper} {a : Act} {K : Act → World → Prop} {Q : Exit → Act → World → Prop} {E : Prop} {w0 w : World} {B : Nat} {v : Value} {xs : List TV} {x y : TV} (hown : OwnT B w v xs) (hb : Below B w0 w) (hB : B ≤ w.heap.size)
    (hgd : o.guard = none) (s z : Operand) (ho : o.op = .call { callee := .builtin .append, args := #[s, z], argTypes := #[45, 45] }) (hs : a.eval s = v) (t : TypeId)
    (hx : a.eval z = .slice (some ⟨w.heap.size, 0, none⟩) 2 2) (hlen : xs.length ≤ 900000)
    (h : ∀ v' w', OwnT B w' v' (xs ++ [x, y]) → Below B w0 w' → K (a.put o.dst v') w') :
    if Region.wanted o (yielded ops a.tmps) = true then Oper.wp Try.prog o a (w.alloc (.cells #[.int .i64 x.d, .int .i64 x.c0, .int .i64 x.c1, .int .i64 x.c2, .int .i64 x.c3, .int .i64 y.d, .int .i64 y.c0, .int .i64 y.c1, .int .i64 y.c2, .int .i64 y.c3] t)) K Q else E := by
  have hw : Region.wanted o (yielded ops a.tmps) = true := by simp [Region.wanted, hgd]
  rw [if_pos hw]
  have hown' : OwnT B (w.alloc (.cells #[.int .i64 x.d, .int .i64 x.c0, .int .i64 x.c1, .int .i64 x.c2, .int .i64 x.c3, .int .i64 y.d, .int .i64 y.c0, .int .i64 y.c1, .int .i64 y.c2, .int .i64 y.c3] t)) v xs := hown.alloc _
  have hr := RowT.new2 w x y t
  obtain ⟨i0, hi, hz0, hz1, hz2⟩ := info_parts infoT
  refine wp_append_own _ s z 45 ho B 26 i0 (.agg #[.int .i64 0, .int .i64 0, .int .i64 0, .int .i64 0, .int .i64 0]) 5 40 Try.underlying45 hi hz0 hz1 hz2 rfl (by decide) v xs.length (cellsT xs) hs hown' ⟨w.heap.size, 0, none⟩ 2 2 (cellsT [x, y]) hx rfl ?_ ?_ ?_ ?_ (by simp; omega) ?_
  · intro j u hu
    have hj : j < 10 := by have := (List.getElem?_eq_some_iff.1 hu).1; rw [cellsT_len] at this; exact this
    have e : j = j / 5 * 5 + j % 5 := by omega
    have hq : j / 5 < [x, y].length := by simp; omega
    rw [e, cellsT_get [x, y] _ hq _ (by omega)] at hu
    have := hr _ hq _ _ hu
    rw [show 0 + j / 5 * 5 + j % 5 = 0 + j by omega] at this
    rw [Addr.add_lit]
    exact this
  · intro u hu
    obtain ⟨y, _, hy⟩ := List.mem_flatMap.1 hu
    exact enc_one y u hy
  · unfold maxLen; omega
  · omega
  · intro v' w' h1 h2 _
    have hlt := World.ownsRow.lt hown'
    refine h v' w' ?_ ((hb.alloc hB _).grown h2 (by simp; omega) (fun k hk => (hlt k hk).1))
    unfold OwnT
    rw [cellsT_append, List.length_append]
    exact h1
def dbl (X : List TV) : List TV := X.flatMap fun x => [x, x]
theorem dbl_len : ∀ X : List TV, (dbl X).length = X.length * 2
  | [] => rfl
  | x :: X => by have := dbl_len X; simp only [dbl, List.flatMap_cons, List.length_append, List.length_cons, List.length_nil] at *; omega
theorem dbl_drop (X : List TV) (j : Nat) (hj : j < X.length) : dbl (X.drop j).reverse = dbl (X.drop (j + 1)).reverse ++ [X[j]!, X[j]!] := by
  rw [List.drop_eq_getElem_cons hj, List.reverse_cons, getElem!_pos X j hj]
  simp [dbl]
set_option maxRecDepth 100000 in
set_option maxHeartbeats 8000000 in
theorem chainOrder_walk (xs ys zs : List TV) (va vb vc : Value) (w : World) (ha : IsT w va xs) (hb : IsT w vb ys) (hc : IsT w vc zs) (ca : capOk va) (cb : capOk vb) (cc : capOk vc) :
    Calls Try.prog 10 #[va, vb, vc] w (Ret (.bool true) w) := by
  obtain ⟨p1, c1, rfl⟩ := ha.slice
  obtain ⟨p2, c2, rfl⟩ := hb.slice
  obtain ⟨p3, c3, rfl⟩ := hc.slice
  have k1 := ca _ _ _ rfl
  have k2 := cb _ _ _ rfl
  have k3 := cc _ _ _ rfl
  clear ca cb cc
  generalize xs.length = n1 at *
  generalize ys.length = n2 at *
  generalize zs.length = n3 at *
  have HA := Lib.hid ha; have HB := Lib.hid hb; have HC := Lib.hid hc
  clear ha hb hc
  obtain ⟨m1, e1, l1, h1, z1⟩ := cutn_ok n1
  obtain ⟨m2, e2, l2, h2, z2⟩ := cutn_ok n2
  obtain ⟨m3, e3, l3, h3, z3⟩ := cutn_ok n3
  have d1 : m1 ≤ c1 := by omega
  have d2 : m2 ≤ c2 := by omega
  have d3 : m3 ≤ c3 := by omega
  have HA2 := Lib.hid (HA.out.cut m1 l1 z1); have HB2 := Lib.hid (HB.out.cut m2 l2 z2); have HC2 := Lib.hid (HC.out.cut m3 l3 z3)
  clear l1 l2 l3 z1 z2 z3 HA HB HC k1 k2 k3
  have HAW := Lib.hid chainAwake
  go_enter Try.func10, Try.ntmps10
  go_wp2_with fail
  refine (HAW.out _).mono ?_
  rintro e w1 ⟨rfl, hb1⟩
  have HB1 := Lib.hid hb1
  clear hb1 HAW
  go_wp2_with fail
  go_quiet (fail)
  have hBq : Below w.heap.size w (w1.drewN nq) := below_drewN HB1.out nq
  generalize w1.drewN nq = v0 at hBq ⊢
  have HA := Lib.hid (HA2.out.below hBq); have HB := Lib.hid (HB2.out.below hBq); have HC := Lib.hid (HC2.out.below hBq)
  have HV0 := Lib.hid hBq
  clear hBq HB1 HA2 HB2 HC2 e1 e2 e3 d1 d2 d3
  have LA : Hid ((xs.take m1).length ≤ 100) := by show _ ≤ _; rw [List.length_take]; omega
  have LB : Hid ((ys.take m2).length ≤ 100) := by show _ ≤ _; rw [List.length_take]; omega
  have LC : Hid ((zs.take m3).length ≤ 100) := by show _ ≤ _; rw [List.length_take]; omega
  clear h1 h2 h3
  generalize xs.take m1 = A at *
  generalize ys.take m2 = B at *
  generalize zs.take m3 = C at *
  have HALL : Hid (∀ (l r : List TV) (u v : Value) (W : World), l.length ≤ 300 → r.length ≤ 300 → IsT W u l → IsT W v r → Calls Try.prog 34 #[u, v] W (MadeT (ofT (l ++ r)) W)) := fun l r u v W h1 h2 h3 h4 => all_any l r u v W (by omega) (by omega) h3 h4
  go_wp2_with fail
  refine (HALL.out _ _ _ _ _ (by have := LA.out; omega) (by have := LB.out; omega) HA.out HB.out).mono ?_
  rintro e v1 ⟨u1, rfl, hO1, hB1⟩
  have HU1 := Lib.hid hO1.is
  obtain ⟨r1, s1, rfl⟩ := hO1.is.slice
  have L1 : Hid ((ofT (A ++ B)).length ≤ 200) := by show _ ≤ _; have := ofT_length (A ++ B); have := LA.out; have := LB.out; rw [List.length_append] at *; omega
  have HA1 := Lib.hid (HA.out.below hB1); have HB1 := Lib.hid (HB.out.below hB1); have HC1 := Lib.hid (HC.out.below hB1)
  have HV1 := Lib.hid (HV0.out.trans (hB1.mono HV0.out.size))
  clear hO1 hB1 HA HB HC HV0
  go_wp2_with fail
  refine (HALL.out _ _ _ _ _ (by have := L1.out; omega) (by have := LC.out; omega) HU1.out HC1.out).mono ?_
  rintro e v2 ⟨u2, rfl, hO2, hB2⟩
  have HX2 := Lib.hid hO2.is
  obtain ⟨r2, s2, rfl⟩ := hO2.is.slice
  have HA2 := Lib.hid (HA1.out.below hB2); have HB2 := Lib.hid (HB1.out.below hB2); have HC2 := Lib.hid (HC1.out.below hB2)
  have HV2 := Lib.hid (HV1.out.trans (hB2.mono HV1.out.size))
  clear hO2 hB2 HA1 HB1 HC1 HV1 HU1
  go_wp2_with fail
  refine (HALL.out _ _ _ _ _ (by have := LC.out; omega) (by have := LB.out; omega) HC2.out HB2.out).mono ?_
  rintro e v3 ⟨u3, rfl, hO3, hB3⟩
  have HU3 := Lib.hid hO3.is
  obtain ⟨r3, s3, rfl⟩ := hO3.is.slice
  have L3 : Hid ((ofT (C ++ B)).length ≤ 200) := by show _ ≤ _; have := ofT_length (C ++ B); have := LC.out; have := LB.out; rw [List.length_append] at *; omega
  have HA3 := Lib.hid (HA2.out.below hB3); have HX3 := Lib.hid (HX2.out.below hB3)
  have HV3 := Lib.hid (HV2.out.trans (hB3.mono HV2.out.size))
  clear hO3 hB3 HA2 HB2 HC2 HV2 HX2
  go_wp2_with fail
  refine (HALL.out _ _ _ _ _ (by have := LA.out; omega) (by have := L3.out; omega) HA3.out HU3.out).mono ?_
  rintro e v4 ⟨u4, rfl, hO4, hB4⟩
  rw [← order_all] at hO4
  have HY := Lib.hid hO4.is
  obtain ⟨r4, s4, rfl⟩ := hO4.is.slice
  have HA4 := Lib.hid (HA3.out.below hB4); have HX4 := Lib.hid (HX3.out.below hB4)
  have HV4 := Lib.hid (HV3.out.trans (hB4.mono HV3.out.size))
  have LX : Hid ((ofT (ofT (A ++ B) ++ C)).length ≤ 300) := by show _ ≤ _; have := ofT_length (ofT (A ++ B) ++ C); have := L1.out; have := LC.out; rw [List.length_append] at *; omega
  have HT : Hid (ofT ((ofT (ofT (A ++ B) ++ C)).reverse.flatMap fun x => [x, x]) = ofT (ofT (A ++ B) ++ C)) := order_turned _
  have HG : Hid (ofT (ofT (ofT (A ++ B) ++ C) ++ A) = ofT (ofT (A ++ B) ++ C)) := order_again A B C
  clear hO4 hB4 HA3 HX3 HV3 HU3 L1 L3
  generalize ofT (ofT (A ++ B) ++ C) = X at *
  generalize hx : X.length = n at *
  have HN := Lib.hid hx
  clear hx
  go_wp2
  go_loopg [9, 10] n (fun gg v i wr => ∃ j : Nat, j ≤ n ∧ j ≤ gg ∧ i = .int .i64 ((j : Int) - 1) ∧ Hid (Below v4.heap.size v4 wr) ∧ Hid (OwnT v4.heap.size wr v (dbl (X.drop j).reverse)))
  case atStart =>
    refine ⟨n, Nat.le_refl _, Nat.le_refl _, by rw [show wrap64 ((n : Int) - 1) = (n : Int) - 1 by have := LX.out; unfold wrap64; omega], Below.refl _ _, ?_⟩
    show OwnT _ _ _ _
    rw [List.drop_of_length_le (by rw [HN.out]; exact Nat.le_refl _)]
    exact OwnT.nil _ _
  case round =>
    obtain ⟨j, hjn, hg, rfl, HBr, HOr⟩ := hrel
    by_cases hj : j = 0
    · subst hj
      have HW := Lib.hid (HV4.out.trans (HBr.out.mono HV4.out.size))
      have hT := HOr.out
      rw [List.drop_zero] at hT
      have HTi := Lib.hid hT.is
      obtain ⟨r5, s5, rfl⟩ := hT.is.slice
      have HXr := Lib.hid (HX4.out.below HBr.out); have HYr := Lib.hid (HY.out.below HBr.out); have HAr := Lib.hid (HA4.out.below HBr.out)
      clear hT HOr HX4 HY HA4
      have HSAME : Hid (∀ (u v : Value) (W : World), IsT W u X → IsT W v X → Calls Try.prog 30 #[u, v] W (Ret (.bool true) W)) := fun u v W h1 h2 => by
        have h3 : X.length ≤ 900000 := by rw [HN.out]; have := LX.out; omega
        have q := same_any X X u v W h3 h3 h1 h2
        rw [decide_eq_true rfl] at q
        exact q
      have HOF : Hid (∀ (u : Value) (W : World), IsT W u (dbl X.reverse) → Calls Try.prog 31 #[u] W (MadeT X W)) := fun u W h => by
        have q := of_any (dbl X.reverse) u W (by rw [dbl_len, List.length_reverse, HN.out]; have := LX.out; omega) h
        rw [show ofT (dbl X.reverse) = X from HT.out] at q
        exact q
      have HAL : Hid (∀ (u v : Value) (W : World), IsT W u X → IsT W v A → Calls Try.prog 34 #[u, v] W (MadeT X W)) := fun u v W h1 h2 => by
        have q := HALL.out X A u v W (by rw [HN.out]; exact LX.out) (by have := LA.out; omega) h1 h2
        rw [HG.out] at q
        exact q
      clear HALL
      go_wp2_with fail
      refine (HSAME.out _ _ _ HXr.out HYr.out).mono ?_
      rintro e k1 ⟨rfl, hc1⟩
      have HT1 := Lib.hid (HTi.out.below hc1); have HX1 := Lib.hid (HXr.out.below hc1); have HA1 := Lib.hid (HAr.out.below hc1)
      have HW1 := Lib.hid (HW.out.trans (hc1.mono HW.out.size))
      clear hc1 HTi HXr HYr HAr
      go_wp2_with fail
      refine (HOF.out _ _ HT1.out).mono ?_
      rintro e k2 ⟨u6, rfl, hO6, hc2⟩
      have HI6 := Lib.hid hO6.is
      obtain ⟨r6, s6, rfl⟩ := hO6.is.slice
      have HX2 := Lib.hid (HX1.out.below hc2); have HA2 := Lib.hid (HA1.out.below hc2)
      have HW2 := Lib.hid (HW1.out.trans (hc2.mono HW1.out.size))
      clear hc2 hO6 HT1 HX1 HA1
      go_wp2_with fail
      refine (HSAME.out _ _ _ HI6.out HX2.out).mono ?_
      rintro e k3 ⟨rfl, hc3⟩
      have HX3 := Lib.hid (HX2.out.below hc3); have HA3 := Lib.hid (HA2.out.below hc3)
      have HW3 := Lib.hid (HW2.out.trans (hc3.mono HW2.out.size))
      clear hc3 HI6 HX2 HA2
      go_wp2_with fail
      refine (HAL.out _ _ _ HX3.out HA3.out).mono ?_
      rintro e k4 ⟨u7, rfl, hO7, hc4⟩
      have HI7 := Lib.hid hO7.is
      obtain ⟨r7, s7, rfl⟩ := hO7.is.slice
      have HX4 := Lib.hid (HX3.out.below hc4)
      have HW4 := Lib.hid (HW3.out.trans (hc4.mono HW3.out.size))
      clear hc4 hO7 HX3 HA3
      go_wp2_with fail
      refine (HSAME.out _ _ _ HI7.out HX4.out).mono ?_
      rintro e k5 ⟨rfl, hc5⟩
      have HW5 := Lib.hid (HW4.out.trans (hc5.mono HW4.out.size))
      clear hc5
      go_wp2
      go_returns
      exact ⟨rfl, HW5.out⟩
    · obtain ⟨k, rfl⟩ : ∃ k, j = k + 1 := ⟨j - 1, by omega⟩
      have hk : k < n := by omega
      rw [show (((k + 1 : Nat) : Int) - 1) = (k : Int) by omega]
      rcases HX4.out with ⟨hX0, _⟩ | ⟨_, b, off, cap, e, hbl, hrow⟩
      · have := HN.out; rw [hX0] at this; simp at this; omega
      simp only [Value.slice.injEq] at e
      obtain ⟨rfl, hnx, rfl⟩ := e; clear hnx
      have HRow : Hid (∀ W, Below v4.heap.size v4 W → W.cell? ⟨b, off + k * 5, none⟩ = some (.int .i64 X[k]!.d) ∧ W.cell? ⟨b, off + k * 5 + 1, none⟩ = some (.int .i64 X[k]!.c0) ∧ W.cell? ⟨b, off + k * 5 + 2, none⟩ = some (.int .i64 X[k]!.c1) ∧ W.cell? ⟨b, off + k * 5 + 3, none⟩ = some (.int .i64 X[k]!.c2) ∧ W.cell? ⟨b, off + k * 5 + 4, none⟩ = some (.int .i64 X[k]!.c3)) := fun W hW => (hrow.below hW hbl).at k (by rw [HN.out]; exact hk)
      have hc := HRow.out wr HBr.out
      have hd := dbl_drop X k (by rw [HN.out]; exact hk)
      have hlen : (dbl (X.drop (k + 1)).reverse).length ≤ 900000 := by
        rw [dbl_len, List.length_reverse, List.length_drop, HN.out]
        have := LX.out
        omega
      generalize X[k]! = x at hc hd HRow
      obtain ⟨x0, x1, x2, x3, x4⟩ := hc
      have HD := Lib.hid hd
      have hz := HBr.out.size
      have hbr : b < wr.heap.size := Nat.lt_of_lt_of_le hbl hz
      have hbn : b ≠ wr.heap.size := Nat.ne_of_lt hbr
      have hge : ¬ ((k : Int) < 0) := by omega
      clear hrow hd
      go_wp2_with fail
      go_region_held_law (fun w' => w'.cell? ⟨b, off + k * 5, none⟩ = some (.int .i64 x.d) ∧ w'.cell? ⟨b, off + k * 5 + 1, none⟩ = some (.int .i64 x.c0) ∧ w'.cell? ⟨b, off + k * 5 + 2, none⟩ = some (.int .i64 x.c1) ∧ w'.cell? ⟨b, off + k * 5 + 3, none⟩ = some (.int .i64 x.c2) ∧ w'.cell? ⟨b, off + k * 5 + 4, none⟩ = some (.int .i64 x.c3)) (first | exact HRow.out _ (by assumption) | go_keep) (first | (refine OwnT.push2 (x := x) (y := x) HOr.out.drew HBr.out.drew hz rfl _ _ rfl rfl _ rfl hlen ?_; intro v5 w5 hO5 hB5))
      all_goals
        go_wp2
        go_roundg k
        case measure => omega
        case rel =>
          refine ⟨k, by omega, Nat.le_refl _, by rw [show wrap64 ((k : Int) - 1) = (k : Int) - 1 by have := LX.out; unfold wrap64; omega], hB5, ?_⟩
          show OwnT _ _ _ _
          rw [HD.out]
          exact hO5
end Go.Proofs.Ytfkjlcmmmmjbkaa
