import Derived.Test.YtcaolilhemamiaaCe
namespace Go.Proofs.Ytcaolilhemamiaa
open Go.RowKit
set_option linter.unusedVariables false
set_option linter.unusedSimpArgs false

/- the document's Of, as plain facts: each timestamp is held against all others, and put into its place -/
def badAt (xs : List TV) (i m : Nat) : Bool := (!eqT xs[m]! xs[i]! && (xs[m]!).le xs[i]!) || (decide (m < i) && eqT xs[m]! xs[i]!)
def lowTo (xs : List TV) (i k : Nat) : Bool := (xs[i]!).ok && !((List.range k).any (badAt xs i))
theorem lowTo_zero (xs : List TV) (i : Nat) : lowTo xs i 0 = (xs[i]!).ok := by simp [lowTo]
theorem lowTo_succ (xs : List TV) (i k : Nat) : lowTo xs i (k + 1) = (lowTo xs i k && !badAt xs i k) := by
  simp only [lowTo, List.range_succ, List.any_append, List.any_cons, List.any_nil, Bool.or_false]
  cases (xs[i]!).ok <;> cases (List.range k).any (badAt xs i) <;> cases badAt xs i k <;> rfl
theorem lowTo_iff {xs : List TV} {i k : Nat} : lowTo xs i k = true ↔ (xs[i]!).ok = true ∧ ∀ m, m < k → (xs[m]! ≠ xs[i]! → (xs[m]!).le xs[i]! = false) ∧ (m < i → xs[m]! ≠ xs[i]!) := by
  simp only [lowTo, Bool.and_eq_true, Bool.not_eq_true', List.any_eq_false, List.mem_range]
  constructor
  · rintro ⟨h1, h2⟩
    refine ⟨h1, fun m hm => ?_⟩
    have h := h2 m hm
    simp only [badAt, eqT, Bool.or_eq_true, Bool.and_eq_true, Bool.not_eq_true', decide_eq_true_eq, decide_eq_false_iff_not, not_or, not_and, Bool.not_eq_true] at h
    exact ⟨fun e => h.1 e, fun hl e => h.2 hl e⟩
  · rintro ⟨h1, h2⟩
    refine ⟨h1, fun m hm => ?_⟩
    have h := h2 m hm
    simp only [badAt, eqT, Bool.or_eq_true, Bool.and_eq_true, Bool.not_eq_true', decide_eq_true_eq, decide_eq_false_iff_not, not_or, not_and, Bool.not_eq_true]
    exact ⟨fun e => h.1 e, fun hl e => h.2 hl e⟩
/-- what has been gathered of the first i -/
structure Gat (xs : List TV) (i : Nat) (out : List TV) : Prop where
  s : strict out
  m : ∀ t, t ∈ out ↔ ∃ j, j < i ∧ xs[j]! = t ∧ lowTo xs j xs.length = true
theorem Gat.zero (xs : List TV) : Gat xs 0 [] := ⟨List.Pairwise.nil, fun t => ⟨fun h => (by cases h), fun ⟨j, h, _⟩ => (by omega)⟩⟩
theorem Gat.skip {xs : List TV} {i : Nat} {out : List TV} (h : Gat xs i out) (hl : lowTo xs i xs.length = false) : Gat xs (i + 1) out := by
  refine ⟨h.s, fun t => ?_⟩
  rw [h.m t]
  constructor
  · rintro ⟨j, h1, h2, h3⟩; exact ⟨j, by omega, h2, h3⟩
  · rintro ⟨j, h1, h2, h3⟩
    rcases Nat.lt_or_ge j i with q | q
    · exact ⟨j, q, h2, h3⟩
    · obtain rfl : j = i := by omega
      rw [hl] at h3; cases h3
theorem Gat.len {xs : List TV} {i : Nat} {out : List TV} (h : Gat xs i out) (hi : i < xs.length) (hl : lowTo xs i xs.length = true) : ∀ y ∈ out, y ≠ xs[i]! ∧ y.le xs[i]! = false ∧ (xs[i]!).le y = false ∧ y.ok = true := by
  intro y hy
  obtain ⟨j, h1, rfl, h3⟩ := (h.m y).1 hy
  have a := (lowTo_iff.1 hl).2 j (by omega)
  have b := (lowTo_iff.1 h3).2 i hi
  have e := a.2 h1
  exact ⟨e, a.1 e, b.1 (fun q => e q.symm), (lowTo_iff.1 h3).1⟩
theorem strict_keys {l : List TV} (h : strict l) {a b : Nat} (hab : a < b) (hb : b < l.length) : (l[a]!).key < (l[b]!).key := by
  have := (List.pairwise_iff_getElem.1 h a b (by omega) hb hab).1
  rw [getElem!_pos l a (by omega), getElem!_pos l b hb]
  exact ((TV.lt_iff _ _).1 this).2.2
theorem Gat.put {xs : List TV} {i : Nat} {out : List TV} (h : Gat xs i out) (hi : i < xs.length) (hl : lowTo xs i xs.length = true) {k : Nat} (hk : k ≤ out.length) (hd : ∀ y ∈ out.drop k, (xs[i]!).lt y = true)
    (hs : k = 0 ∨ (xs[i]!).lt out[k - 1]! = false) : Gat xs (i + 1) (out.take k ++ xs[i]! :: out.drop k) := by
  have hx := (lowTo_iff.1 hl).1
  have hn := h.len hi hl
  refine ⟨?_, fun t => ?_⟩
  · have hall : strict (out.take k ++ out.drop k) := by rw [List.take_append_drop]; exact h.s
    rw [strict, List.pairwise_append] at hall ⊢
    refine ⟨hall.1, List.pairwise_cons.2 ⟨fun y hy => ⟨hd y hy, (hn y (List.mem_of_mem_drop hy)).2.2.1⟩, hall.2.1⟩, ?_⟩
    intro a ha b hb
    rcases List.mem_cons.1 hb with e | hb
    · subst e
      obtain ⟨ne, l1, l2, ok⟩ := hn a (List.mem_of_mem_take ha)
      refine ⟨?_, l1⟩
      rw [TV.lt_iff]
      refine ⟨ok, hx, ?_⟩
      have hk0 : k ≠ 0 := fun e => by subst e; simp at ha
      have hlast := hs.resolve_left hk0
      have hkl : k - 1 < out.length := by omega
      have hmem : out[k - 1]! ∈ out := by rw [getElem!_pos out (k - 1) hkl]; exact List.getElem_mem hkl
      have hle := (lt_false (hn _ hmem).2.2.2 hx).1 hlast
      obtain ⟨j, hj, e⟩ := List.mem_iff_getElem.1 ha
      have hj' : j < k := by rw [List.length_take] at hj; omega
      have ea : a = out[j]! := by rw [getElem!_pos out j (by omega), ← e, List.getElem_take]
      have hjk : (out[j]!).key ≤ (out[k - 1]!).key := by
        rcases Nat.lt_or_ge j (k - 1) with q | q
        · exact Int.le_of_lt (strict_keys h.s q hkl)
        · obtain rfl : j = k - 1 := by omega
          exact Int.le_refl _
      rw [← ea] at hjk
      rcases Int.lt_or_eq_of_le (Int.le_trans hjk hle) with q | q
      · exact q
      · exact absurd (TV.key_inj ok hx q) ne
    · exact hall.2.2 a ha b hb
  · have hm : t ∈ out.take k ++ xs[i]! :: out.drop k ↔ t = xs[i]! ∨ t ∈ out := by
      constructor
      · intro q
        rcases List.mem_append.1 q with q | q
        · exact .inr (List.mem_of_mem_take q)
        · rcases List.mem_cons.1 q with q | q
          · exact .inl q
          · exact .inr (List.mem_of_mem_drop q)
      · rintro (q | q)
        · exact List.mem_append.2 (.inr (by rw [q]; simp))
        · rw [← List.take_append_drop k out] at q
          rcases List.mem_append.1 q with q | q
          · exact List.mem_append.2 (.inl q)
          · exact List.mem_append.2 (.inr (List.mem_cons_of_mem _ q))
    rw [hm, h.m t]
    constructor
    · rintro (q | ⟨j, h1, h2, h3⟩)
      · exact ⟨i, by omega, q.symm, hl⟩
      · exact ⟨j, by omega, h2, h3⟩
    · rintro ⟨j, h1, h2, h3⟩
      rcases Nat.lt_or_ge j i with q | q
      · exact .inr ⟨j, q, h2, h3⟩
      · obtain rfl : j = i := by omega
        exact .inl h2.symm
theorem first_at (p : Nat → Prop) [DecidablePred p] : ∀ n, (∃ j, j < n ∧ p j) → ∃ j, j < n ∧ p j ∧ ∀ m, m < j → ¬ p m
  | 0, ⟨j, h, _⟩ => by omega
  | n + 1, ⟨j, h, hp⟩ => by
    by_cases q : ∃ j, j < n ∧ p j
    · obtain ⟨a, b, c, d⟩ := first_at p n q
      exact ⟨a, by omega, c, d⟩
    · refine ⟨j, h, hp, fun m hm hq => q ⟨m, by omega, hq⟩⟩
theorem get_mem {xs : List TV} {j : Nat} (h : j < xs.length) : xs[j]! ∈ xs := by rw [getElem!_pos xs j h]; exact List.getElem_mem h
theorem Gat.all {xs out : List TV} (h : Gat xs xs.length out) : out = ofT xs := by
  refine strict_ext h.s (ofT_strict xs) fun t => ?_
  rw [h.m t, ofT_char]
  constructor
  · rintro ⟨j, h1, rfl, h3⟩
    have q := lowTo_iff.1 h3
    refine ⟨q.1, cov_iff.2 ⟨_, get_mem h1, TV.le_refl q.1⟩, fun s hs hl => ?_⟩
    obtain ⟨r, hr, hrs⟩ := cov_iff.1 hs
    obtain ⟨m, hm, e⟩ := List.mem_iff_getElem.1 hr
    have em : xs[m]! = r := by rw [getElem!_pos xs m hm, e]
    have hrt := TV.le_trans hrs hl
    by_cases ne : xs[m]! = xs[j]!
    · rw [← em, ne] at hrs
      exact TV.le_antisymm hl hrs
    · have := (q.2 m hm).1 ne
      rw [em, hrt] at this
      cases this
  · rintro ⟨h1, h2, h3⟩
    have ht : t ∈ xs := (ofT_mem (ofT_char.2 ⟨h1, h2, h3⟩)).1
    obtain ⟨m, hm, e⟩ := List.mem_iff_getElem.1 ht
    obtain ⟨j, hj, ej, hf⟩ := first_at (fun j => xs[j]! = t) xs.length ⟨m, hm, by rw [getElem!_pos xs m hm, e]⟩
    refine ⟨j, hj, ej, lowTo_iff.2 ⟨by rw [ej]; exact h1, fun a ha => ⟨fun ne => ?_, fun hl => by rw [ej]; exact hf a hl⟩⟩⟩
    cases q : (xs[a]!).le xs[j]!
    · rfl
    · rw [ej] at q ne
      exact absurd (h3 _ (cov_iff.2 ⟨_, get_mem ha, TV.le_refl (TV.le_left q)⟩) q) ne
end Go.Proofs.Ytcaolilhemamiaa
