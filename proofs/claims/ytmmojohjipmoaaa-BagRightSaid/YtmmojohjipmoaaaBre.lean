/- the document's Join on bags -/
import Derived.Test.YtmmojohjipmoaaaBrc
import Derived.Test.YtmmojohjipmoaaaBi
import Derived.Deep.RegionHeldLaw
namespace Go.Proofs.Ytmmojohjipmoaaa
open Go.RowKit
set_option linter.unusedVariables false
set_option linter.unusedSimpArgs false

def joinI (a b : List IV) (t : Int) : List IV := b.foldl (fun o c => addI o c.t (t * c.n)) a
def joinR (a b : List IV) (t : Int) : List IV := if rightI b = true then joinI a b t else a
theorem joinI_cons (a : List IV) (c : IV) (b : List IV) (t : Int) : joinI a (c :: b) t = joinI (addI a c.t (t * c.n)) b t := rfl
theorem joinI_take {a b : List IV} {t : Int} {k : Nat} (hk : k < b.length) : joinI a (b.take (k + 1)) t = addI (joinI a (b.take k) t) (b[k]!).t (t * (b[k]!).n) := by
  unfold joinI
  rw [take_getA b k hk, List.foldl_append]
  rfl
theorem addI_len (b : List IV) (r : RV) (n : Int) : (addI b r n).length ≤ b.length + 1 := plusI_len b [⟨r, n⟩]
theorem joinI_len : ∀ (b a : List IV) (t : Int), (joinI a b t).length ≤ a.length + b.length
  | [], a, t => by simp [joinI]
  | c :: b, a, t => by
    rw [joinI_cons]
    have h1 := joinI_len b (addI a c.t (t * c.n)) t
    have h2 := addI_len a c.t (t * c.n)
    simp only [List.length_cons]
    omega
theorem addF_zero {x : Int} (h : -2147483648 ≤ x ∧ x ≤ 2147483648) : addF x 0 = x := by rw [addF_fit (by omega)]; omega
theorem sign_fit {t n : Int} (ht : t = 1 ∨ t = -1) (h : n ≠ 0 ∧ -2147483648 ≤ n ∧ n ≤ 2147483648) : t * n ≠ 0 ∧ -2147483648 ≤ t * n ∧ t * n ≤ 2147483648 := by
  rcases ht with rfl | rfl <;> omega
theorem join_is {t : Int} (ht : t = 1 ∨ t = -1) : ∀ (b a : List IV), goodI a → goodI b → goodI (joinI a b t) ∧ ∀ u, atS (joinI a b t) u = addF (atS a u) (t * atS b u)
  | [], a, ha, _ => ⟨ha, fun u => by rw [atS_nil, Int.mul_zero, addF_zero (atS_fits ha u)]; rfl⟩
  | c :: b, a, ha, hb => by
    rw [joinI_cons]
    have hc := (IV.ok_iff c).1 (hb.1 c (by simp))
    have hs := sign_fit ht hc
    have P := plusI_is ha (one_good c.t hs)
    have hat : ∀ u, atS (addI a c.t (t * c.n)) u = addF (atS a u) (if c.t = u then t * c.n else 0) := fun u => by
      show atS (plusI a [⟨c.t, t * c.n⟩]) u = _
      rw [P.at_, atS_one]
    have ih := join_is ht b (addI a c.t (t * c.n)) P.good (good_tail hb)
    refine ⟨ih.1, fun u => ?_⟩
    rw [ih.2 u, atS_cons]
    have hf := atS_fits (f := addI a c.t (t * c.n)) P.good u
    by_cases e : c.t = u
    · subst e
      rw [if_pos rfl, atS_head hb, Int.mul_zero, addF_zero hf, hat, if_pos rfl, Int.add_zero]
    · rw [if_neg e, Int.zero_add, hat, if_neg e, addF_zero (atS_fits ha u)]
theorem join_not {a : List IV} (h : rightI a = false) (t : Int) : ∀ (b : List IV), joinI a b t = a
  | [] => rfl
  | c :: b => by rw [joinI_cons, addI_not _ _ h]; exact join_not h t b
theorem join_plus (a b : List IV) : joinR a b 1 = plusI a b := by
  unfold joinR
  by_cases hb : rightI b = true
  · rw [if_pos hb]
    by_cases ha : rightI a = true
    · have ga := (rightI_iff a).1 ha; have gb := (rightI_iff b).1 hb
      have J := join_is (.inl rfl) b a ga gb
      have P := plusI_is ga gb
      exact good_ext J.1 P.good fun u => by rw [J.2, P.at_, Int.one_mul]
    · have hf : rightI a = false := by simpa using ha
      rw [join_not hf]
      unfold plusI
      rw [if_neg (by rw [hf]; simp)]
  · rw [if_neg hb]
    unfold plusI
    rw [if_neg (fun h => hb h.2)]
theorem neg_right {b : List IV} (h64 : in64 b) (h : rightI (b.map negI) = true) : rightI b = true := by
  have g := (rightI_iff _).1 h
  refine (rightI_iff b).2 ⟨fun c hc => ?_, ?_⟩
  · have h1 := (IV.ok_iff _).1 (g.1 (negI c) (List.mem_map_of_mem hc))
    have h2 := h64 c hc
    rw [IV.ok_iff]
    have e : negN c.n ≠ 0 ∧ -2147483648 ≤ negN c.n ∧ negN c.n ≤ 2147483648 := h1
    unfold negN at e
    split at e <;> omega
  · have h2 := g.2
    rw [List.pairwise_map] at h2
    exact h2
theorem join_minus {a b : List IV} (h64 : in64 b) : joinR a b (-1) = minusI a b := by
  unfold joinR
  by_cases hb : rightI b = true
  · rw [if_pos hb]
    have gb := (rightI_iff b).1 hb
    by_cases ha : rightI a = true
    · have ga := (rightI_iff a).1 ha
      have J := join_is (.inr rfl) b a ga gb
      have M := minus_is ga gb
      exact good_ext J.1 M.1 fun u => by rw [J.2, M.2.1, Int.neg_one_mul]
    · have hf : rightI a = false := by simpa using ha
      rw [join_not hf]
      unfold minusI plusI
      rw [if_neg (by rw [hf]; simp)]
  · rw [if_neg hb]
    unfold minusI plusI
    rw [if_neg (fun h => hb (neg_right h64 h.2))]
set_option maxRecDepth 100000 in
set_option maxHeartbeats 8000000 in
theorem rjoin_any (xs ys : List IV) (t : Int) (ht : t = 1 ∨ t = -1) (va vb : Value) (w : World) (hl : xs.length ≤ 100000) (hm : ys.length ≤ 100000) (ha : RI.Is w va xs) (hb : RI.Is w vb ys) :
    Calls Try.prog 16 #[va, vb, .int .i64 t] w (RI.Made (joinR xs ys t) w) := by
  obtain ⟨p, c, rfl⟩ := ha.slice
  have HA := Lib.hid ha; have HI := Lib.hid hb
  clear ha
  have HO := Lib.hid (show RI.Own w.heap.size (w.alloc (.cells #[] 43)) (.slice (some ⟨w.heap.size, 0, none⟩) 0 0) [] from World.ownsRow_made w #[] 0 (Nat.le_refl _) (Nat.zero_le _) rfl)
  have HB := Lib.hid ((Below.refl w.heap.size w).alloc (Nat.le_refl _) (.cells #[] 43))
  have HL : Hid (([] : List IV).length + xs.length ≤ 1000000) := by show _ ≤ _; simp; omega
  have HZ := Lib.hid HB.out.size
  have HA2 := Lib.hid (HA.out.below HB.out)
  have HR := Lib.hid (fun (W : World) (u : Value) (hu : RI.Is W u ys) => rright_any ys u W (by omega) hu)
  have hno : rightI ys = false → joinR xs ys t = xs := fun h => by unfold joinR; rw [if_neg (by rw [h]; simp)]
  have hyes : rightI ys = true → joinR xs ys t = joinI xs ys t := fun h => by unfold joinR; rw [if_pos h]
  have HG : Hid (rightI ys = true → goodI ys) := fun h => (rightI_iff ys).1 h
  generalize joinR xs ys t = res at *
  generalize rightI ys = q at *
  have HNo := Lib.hid hno; have HYes := Lib.hid hyes
  clear hno hyes
  have HX : Hid (xs.length ≤ 100000) := hl
  generalize xs.length = n0 at HA HA2 ⊢
  obtain ⟨p2, c2, rfl⟩ := hb.slice
  clear hb
  generalize hn : ys.length = m at *
  have HN := Lib.hid hn
  clear hn
  go_enter Try.func16, Try.ntmps16
  go_wp2_with (at_builtin; refine RowKind.Own.appendAny (R := RI) (ys := xs) HO.out HB.out HZ.out rfl _ _ rfl rfl rfl HA2.out HL.out ?_; intro v2 w2 hO2 hB2 hz2)
  have HO2 : Hid (RI.Own w.heap.size w2 v2 xs) := hO2
  have HB2 := Lib.hid hB2
  have HI2 := Lib.hid (HI.out.below hB2)
  clear hO2 hB2 HO HB HL HZ HA HA2
  go_wp2_with fail
  refine (HR.out _ _ HI2.out).mono ?_
  rintro e w3 ⟨rfl, hb⟩
  have HO3 := Lib.hid (HO2.out.below hb)
  have HB3 := Lib.hid (HB2.out.trans (hb.mono HB2.out.size))
  clear hb HO2 HB2 HI2 HR
  cases q
  · go_wp2
    go_returns
    rw [HNo.out (by trivial)]
    exact ⟨_, rfl, HO3.out, HB3.out⟩
  have HRes := Lib.hid (HYes.out (by trivial))
  have HGd := Lib.hid (HG.out (by trivial))
  clear HNo HYes HG
  rcases HI.out with ⟨hx, q0, d0, eq0, _⟩ | ⟨hne, b, off, cap, eq0, hbl, hrow⟩
  · have hm0 : m = 0 := by have := HN.out; rw [hx] at this; simpa using this.symm
    subst hm0
    have HR0 : Hid (res = xs) := by show _ = _; rw [HRes.out, hx]; rfl
    clear hx eq0 HRes HGd HN HI
    go_wp2
    refine wp_loop_rounds 1 ?_
    rw [rounds_succ]
    go_wp2
    go_returns
    rw [HR0.out]
    exact ⟨_, rfl, HO3.out, HB3.out⟩
  · simp only [Value.slice.injEq] at eq0
    obtain ⟨rfl, hnx, rfl⟩ := eq0
    clear hnx
    have HRow : Hid (∀ W, Below w.heap.size w W → ∀ j, j < m → _) := fun W hW j hj => atI (hrow.below hW hbl) j (by rw [HN.out]; exact hj)
    clear hrow hne HI hbl
    go_wp2
    go_loopg [7, 8] m (fun gg vo i wr => ∃ k : Nat, k ≤ m ∧ m - k ≤ gg ∧ i = .int .i64 k ∧ Hid (RI.Own w.heap.size wr vo (joinI xs (ys.take k) t)) ∧ Hid (Below w.heap.size w wr))
    case atStart => exact ⟨0, Nat.zero_le _, by omega, rfl, HO3.out, HB3.out⟩
    case round =>
      obtain ⟨k, hkm, hgg, rfl, HO, HB⟩ := hrel
      by_cases hlt : k < m
      · have hlz : (k : Int) < (m : Int) := by omega
        have hkl : k < ys.length := by rw [HN.out]; exact hlt
        have HK := Lib.hid (fun W (hW : Below wr.heap.size wr W) => HRow.out W (HB.out.trans (hW.mono HB.out.size)) k hlt)
        have hst := joinI_take (a := xs) (t := t) hkl
        have hxm : ys[k]! ∈ ys := by rw [getElem!_pos ys k hkl]; exact List.getElem_mem hkl
        have hok := sign_fit ht ((IV.ok_iff _).1 (HGd.out.1 _ hxm))
        have hjl := joinI_len (ys.take k) xs t
        have hx2 := HX.out
        rw [List.length_take] at hjl
        have HAdd := Lib.hid (fun W (hW : Below wr.heap.size wr W) => radd_any (joinI xs (ys.take k) t) (ys[k]!).t (t * (ys[k]!).n) u7 W (by omega) (by omega) (HO.out.below hW).is)
        rw [← hst] at HAdd
        clear hst hxm hjl HRow hx2
        generalize hnx : joinI xs (ys.take (k + 1)) t = nxt at *
        have HNx := Lib.hid hnx
        clear hnx
        generalize ys[k]! = y at *
        obtain ⟨⟨tk, tv⟩, yn⟩ := y
        simp only at hok
        have hw1 : -9223372036854775808 ≤ t * yn := by omega
        have hw2 : t * yn ≤ 9223372036854775807 := by omega
        have hwr : IntKind.i64.wrap (t * yn) = t * yn := by
          generalize t * yn = z at *
          rw [IntKind.wrap_i64]; omega
        have HAdd : Hid (∀ W, Below wr.heap.size wr W → Calls Try.prog 14 #[u7, .agg #[.int .i64 tk, .int .i64 tv], .int .i64 (IntKind.i64.wrap (t * yn))] W (RI.Made nxt W)) := by
          rw [hwr]
          exact HAdd
        clear hwr hw1 hw2
        obtain ⟨e0, e1, e2⟩ := HK.out wr (Below.refl _ _)
        clear hok
        have HW2 := Lib.hid HB.out.size
        go_wp2_with fail
        go_region_held_law (fun w' => w'.cell? ⟨b, off + k * 3, none⟩ = some (.int .i64 tk) ∧ w'.cell? ⟨b, off + k * 3 + 1, none⟩ = some (.int .i64 tv) ∧ w'.cell? ⟨b, off + k * 3 + 2, none⟩ = some (.int .i64 yn)) (first | exact HK.out _ (by assumption) | assumption | go_keep) (first
          | (go_at_call 14; (with_reducible refine Calls.mono (HAdd.out _ (Below.refl _ _).drew) ?_); rintro e w5 ⟨v5, rfl, hO5, hb5⟩; have hB5 : Below wr.heap.size wr w5 := (Below.refl _ _).drew.trans hb5))
        all_goals
          have HO5 := Lib.hid (hO5.mono HW2.out)
          have HB5 := Lib.hid (HB.out.trans (hB5.mono HB.out.size))
          clear hO5 hb5 hB5 HO
          try simp only [List.getElem_toArray, List.getElem_cons_succ, List.getElem_cons_zero, Act.put, List.setIfInBounds_toArray, List.set_cons_zero, List.set_cons_succ]
          go_wp2
          go_roundg (m - (k + 1))
          case measure => omega
          case rel =>
            refine ⟨k + 1, by omega, by omega, by go_num, ?_, HB5.out⟩
            show RI.Own _ _ _ _
            rw [HNx.out]
            exact HO5.out
      · have hlz : ¬ (k : Int) < (m : Int) := by omega
        have hkm2 : k = m := by omega
        subst hkm2
        have HX2 : Hid (RI.Own w.heap.size wr u7 res) := by
          have h := HO.out
          rw [List.take_of_length_le (by rw [HN.out]; exact Nat.le_refl _), ← HRes.out] at h
          exact h
        clear HO HRow
        go_wp2
        go_returns
        exact ⟨_, rfl, HX2.out, HB.out⟩
end Go.Proofs.Ytmmojohjipmoaaa
