/- what the law BagSums asks, as plain facts -/
import Derived.Test.YtmmojohjipmoaaaBg
import Derived.Test.YtmmojohjipmoaaaBd
import Derived.Test.YtmmojohjipmoaaaBl
namespace Go.Proofs.Ytmmojohjipmoaaa
open Go.RowKit
set_option linter.unusedVariables false
set_option linter.unusedSimpArgs false

theorem good_in64 {f : List IV} (h : goodI f) : in64 f := fun c hc => by
  have := (IV.ok_iff c).1 (h.1 c hc)
  omega
theorem negN_fit {n : Int} (h : -2147483648 ≤ n ∧ n ≤ 2147483648) : negN n = -n := by unfold negN; rw [if_neg (by omega)]
theorem neg_good {f : List IV} (h : goodI f) : goodI (f.map negI) ∧ ∀ u, atS (f.map negI) u = - atS f u := by
  induction f with
  | nil => exact ⟨goodI_nil, fun _ => rfl⟩
  | cons c f ih =>
    have i := ih (good_tail h)
    have hc := (IV.ok_iff c).1 (h.1 c (by simp))
    have e := negN_fit hc.2
    rw [List.map_cons]
    refine ⟨good_cons ?_ (fun d hd => ?_) i.1, fun u => ?_⟩
    · rw [IV.ok_iff]
      show negN c.n ≠ 0 ∧ -2147483648 ≤ negN c.n ∧ negN c.n ≤ 2147483648
      omega
    · obtain ⟨d', hd', rfl⟩ := List.mem_map.1 hd
      exact good_low h d' hd'
    · rw [atS_cons, atS_cons, i.2 u]
      show (if c.t = u then negN c.n else 0) + _ = _
      rw [e]
      split <;> omega
theorem minus_is {a b : List IV} (ha : goodI a) (hb : goodI b) : goodI (minusI a b) ∧ (∀ u, atS (minusI a b) u = addF (atS a u) (- atS b u)) ∧ (minusI a b).length ≤ a.length + b.length := by
  have P := plusI_is ha (neg_good hb).1
  refine ⟨P.good, fun u => ?_, ?_⟩
  · show atS (plusI a (b.map negI)) u = _
    rw [P.at_, (neg_good hb).2]
  · have := P.len
    rw [List.length_map] at this
    exact this
theorem cntR_count (xs : List RV) (u : RV) : cntR xs u = (xs.count u : Int) := by
  induction xs with
  | nil => rfl
  | cons r xs ih =>
    rw [cntR_cons, ih, List.count_cons]
    by_cases e : r = u
    · subst e; simp; omega
    · rw [if_neg e, if_neg (by simpa using e)]; simp
theorem perm_of_cnt {xs ys : List RV} (h : ∀ u, cntR xs u = cntR ys u) : xs.Perm ys := by
  rw [List.perm_iff_count]
  intro u
  have := h u
  rw [cntR_count, cntR_count] at this
  omega
theorem cnt_replicate (n : Nat) (t u : RV) : cntR (List.replicate n t) u = if t = u then (n : Int) else 0 := by
  induction n with
  | zero => simp [cntR]
  | succ n ih =>
    rw [List.replicate_succ, cntR_cons, ih]
    split <;> simp <;> omega
theorem cnt_recL {f : List IV} (h : ∀ c ∈ f, 0 < c.n) (u : RV) : cntR (recL f) u = atS f u := by
  induction f with
  | nil => rfl
  | cons c f ih =>
    have hc := h c (by simp)
    have e : recL (c :: f) = List.replicate c.n.toNat c.t ++ recL f := rfl
    rw [e, cntR_append, ih (fun d hd => h d (by simp [hd])), cnt_replicate, atS_cons]
    split <;> omega
theorem pos_of_at {f : List IV} (h : goodI f) (hp : ∀ u, 0 ≤ atS f u) : ∀ c ∈ f, 0 < c.n := by
  induction f with
  | nil => intro c hc; cases hc
  | cons d f ih =>
    have hd := (IV.ok_iff d).1 (h.1 d (by simp))
    have hdp : 0 < d.n := by
      have := hp d.t
      rw [atS_cons, if_pos rfl, atS_head h] at this
      omega
    intro c hc
    rcases List.mem_cons.1 hc with rfl | hc
    · exact hdp
    · refine ih (good_tail h) (fun u => ?_) c hc
      by_cases e : d.t = u
      · subst e; rw [atS_head h]; omega
      · have := hp u
        rw [atS_cons, if_neg e] at this
        omega
structure SumP (A B C : List RV) (X Y Z : List IV) : Prop where
  same : plusI X (plusI Z Y) = plusI (plusI X Y) Z
  gone : minusI (minusI (plusI (plusI X Y) Z) Y) X = Z
  none : minusI X X = []
  right : rightI (plusI (plusI X Y) Z) = true
  ok : okL (plusI (plusI X Y) Z) = true
  len : (listL (plusI (plusI X Y) Z)).length = A.length + B.length + C.length
  back : ofI (listL (plusI (plusI X Y) Z)) = plusI (plusI X Y) Z
  turn : minusI [] (minusI Y X) = minusI X Y
theorem sum_is {A B C : List RV} (la : A.length ≤ 100) (lb : B.length ≤ 100) (lc : C.length ≤ 100) : SumP A B C (ofI A) (ofI B) (ofI C) := by
  obtain ⟨gX, aX, _⟩ := ofI_is (xs := A) (by omega)
  obtain ⟨gY, aY, _⟩ := ofI_is (xs := B) (by omega)
  obtain ⟨gZ, aZ, _⟩ := ofI_is (xs := C) (by omega)
  have cA := cntR_le A; have cB := cntR_le B; have cC := cntR_le C
  generalize ofI A = X at *
  generalize ofI B = Y at *
  generalize ofI C = Z at *
  have P1 := plusI_is gX gY
  have a1 : ∀ u, atS (plusI X Y) u = cntR A u + cntR B u := fun u => by
    have h1 := cA u; have h2 := cB u
    rw [P1.at_, aX, aY, addF_fit (by omega)]
  have P2 := plusI_is P1.good gZ
  have a2 : ∀ u, atS (plusI (plusI X Y) Z) u = cntR A u + cntR B u + cntR C u := fun u => by
    have h1 := cA u; have h2 := cB u; have h3 := cC u
    rw [P2.at_, a1, aZ, addF_fit (by omega)]
  have P3 := plusI_is gZ gY
  have a3 : ∀ u, atS (plusI Z Y) u = cntR C u + cntR B u := fun u => by
    have h2 := cB u; have h3 := cC u
    rw [P3.at_, aZ, aY, addF_fit (by omega)]
  have P4 := plusI_is gX P3.good
  have M1 := minus_is P2.good gY
  have b1 : ∀ u, atS (minusI (plusI (plusI X Y) Z) Y) u = cntR A u + cntR C u := fun u => by
    have h1 := cA u; have h2 := cB u; have h3 := cC u
    rw [M1.2.1, a2, aY, addF_fit (by omega)]; omega
  have M2 := minus_is M1.1 gX
  have M3 := minus_is gX gX
  have M4 := minus_is gX gY
  have b4 : ∀ u, atS (minusI X Y) u = cntR A u - cntR B u := fun u => by
    have h1 := cA u; have h2 := cB u
    rw [M4.2.1, aX, aY, addF_fit (by omega)]; omega
  have M5 := minus_is gY gX
  have b5 : ∀ u, atS (minusI Y X) u = cntR B u - cntR A u := fun u => by
    have h1 := cA u; have h2 := cB u
    rw [M5.2.1, aX, aY, addF_fit (by omega)]; omega
  have M6 := minus_is goodI_nil M5.1
  have hpos := pos_of_at P2.good (fun u => by have h1 := cA u; have h2 := cB u; have h3 := cC u; rw [a2]; omega)
  have hth := thereI_pos_good P2.good hpos
  have hper : (recL (plusI (plusI X Y) Z)).Perm (A ++ B ++ C) := perm_of_cnt fun u => by
    rw [cnt_recL hpos, a2, cntR_append, cntR_append]
  have hlen : (recL (plusI (plusI X Y) Z)).length = A.length + B.length + C.length := by
    rw [hper.length_eq, List.length_append, List.length_append]
  have hok : okL (plusI (plusI X Y) Z) = true := by
    unfold okL
    rw [hth]
    exact decide_eq_true (by omega)
  have hli : listL (plusI (plusI X Y) Z) = recL (plusI (plusI X Y) Z) := by
    unfold listL
    rw [hok, hth]; rfl
  refine ⟨good_ext P4.good P2.good fun u => ?_, good_ext M2.1 gZ fun u => ?_, good_ext M3.1 goodI_nil fun u => ?_, (rightI_iff _).2 P2.good, hok, by rw [hli, hlen], ?_, good_ext M6.1 M4.1 fun u => ?_⟩
  · have h1 := cA u; have h2 := cB u; have h3 := cC u
    rw [P4.at_, aX, a3, a2, addF_fit (by omega)]; omega
  · have h1 := cA u; have h3 := cC u
    rw [M2.2.1, b1, aX, aZ, addF_fit (by omega)]; omega
  · have h1 := cA u
    rw [M3.2.1, aX, atS_nil, addF_fit (by omega)]; omega
  · rw [hli]
    have O := ofI_is (xs := recL (plusI (plusI X Y) Z)) (by omega)
    exact good_ext O.1 P2.good fun u => by rw [O.2.1, cnt_recL hpos]
  · have h1 := cA u; have h2 := cB u
    rw [M6.2.1, b5, b4, atS_nil, addF_fit (by omega)]; omega
end Go.Proofs.Ytmmojohjipmoaaa
