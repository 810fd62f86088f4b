import Derived.Test.YtcaolilhemamiaaCp
namespace Go.Proofs.Ytcaolilhemamiaa
open Go.RowKit
set_option linter.unusedVariables false
set_option linter.unusedSimpArgs false

/- the lowest of a list, as plain facts -/
def cov (xs : List TV) (t : TV) : Bool := xs.any fun x => x.le t
theorem cov_iff {xs : List TV} {t : TV} : cov xs t = true ↔ ∃ x, x ∈ xs ∧ x.le t = true := by simp [cov]
theorem cov_append (xs ys : List TV) (t : TV) : cov (xs ++ ys) t = (cov xs t || cov ys t) := by simp [cov]
def sortedT (xs : List TV) : List TV := (xs.filter TV.ok).mergeSort fun x y => decide (x.key ≤ y.key)
def lowStep (acc : List TV) (t : TV) : List TV := if cov acc t then acc else acc ++ [t]
def ofT (xs : List TV) : List TV := (sortedT xs).foldl lowStep []

/-- no one is ahead of an earlier one, and none is covered by an earlier one -/
def strict (l : List TV) : Prop := l.Pairwise fun x y => x.lt y = true ∧ x.le y = false
theorem lt_of {x t : TV} (hx : x.ok = true) (ht : t.ok = true) (h : t.lt x = false) (hl : x.le t = false) : x.lt t = true := by
  rw [TV.lt_iff]
  refine ⟨hx, ht, ?_⟩
  rcases Int.lt_trichotomy x.key t.key with k | k | k
  · exact k
  · have e := TV.key_inj hx ht k
    subst e
    rw [TV.le_refl hx] at hl
    cases hl
  · have := (TV.lt_iff t x).2 ⟨ht, hx, k⟩
    rw [h] at this
    cases this
theorem low_mem : ∀ (ys acc : List TV) (t : TV), t ∈ ys.foldl lowStep acc → t ∈ acc ∨ t ∈ ys
  | [], acc, t, h => .inl h
  | y :: ys, acc, t, h => by
    rcases low_mem ys (lowStep acc y) t h with h | h
    · unfold lowStep at h
      split at h
      · exact .inl h
      · rcases List.mem_append.1 h with h | h
        · exact .inl h
        · simp at h; subst h; exact .inr (by simp)
    · exact .inr (by simp [h])
theorem low_keeps : ∀ (ys acc : List TV) (t : TV), t ∈ acc → t ∈ ys.foldl lowStep acc
  | [], acc, t, h => h
  | y :: ys, acc, t, h => low_keeps ys _ t (by unfold lowStep; split; exact h; exact List.mem_append.2 (.inl h))
theorem low_covers : ∀ (ys acc : List TV) (s : TV), s ∈ ys → s.ok = true → cov (ys.foldl lowStep acc) s = true
  | y :: ys, acc, s, h, hs => by
    rcases List.mem_cons.1 h with h | h
    · subst h
      show cov (ys.foldl lowStep (lowStep acc s)) s = true
      rw [cov_iff]
      by_cases hc : cov acc s = true
      · obtain ⟨x, h1, h2⟩ := cov_iff.1 hc
        exact ⟨x, low_keeps ys _ x (by unfold lowStep; rw [if_pos hc]; exact h1), h2⟩
      · exact ⟨s, low_keeps ys _ s (by unfold lowStep; rw [if_neg hc]; simp), TV.le_refl hs⟩
    · exact low_covers ys _ s h hs
theorem low_strict : ∀ (ys acc : List TV), strict acc → (∀ x ∈ acc, x.ok = true) → (∀ y ∈ ys, y.ok = true) → ys.Pairwise (fun x y => y.lt x = false) → (∀ x ∈ acc, ∀ y ∈ ys, y.lt x = false) → strict (ys.foldl lowStep acc)
  | [], acc, h, _, _, _, _ => h
  | y :: ys, acc, h, ha, hy, hp, hc => by
    rw [List.pairwise_cons] at hp
    have hyo := hy y (by simp)
    refine low_strict ys (lowStep acc y) ?_ ?_ (fun z hz => hy z (by simp [hz])) hp.2 ?_
    · unfold lowStep
      split
      · exact h
      · rename_i hn
        refine List.pairwise_append.2 ⟨h, by simp, ?_⟩
        intro x hx z hz
        simp at hz
        subst hz
        have hl : x.le z = false := by
          cases hq : x.le z
          · rfl
          · exact absurd (cov_iff.2 ⟨x, hx, hq⟩) hn
        exact ⟨lt_of (ha x hx) hyo (hc x hx z (by simp)) hl, hl⟩
    · intro x hx
      unfold lowStep at hx
      split at hx
      · exact ha x hx
      · rcases List.mem_append.1 hx with hx | hx
        · exact ha x hx
        · simp at hx; subst hx; exact hyo
    · intro x hx z hz
      unfold lowStep at hx
      split at hx
      · exact hc x hx z (by simp [hz])
      · rcases List.mem_append.1 hx with hx | hx
        · exact hc x hx z (by simp [hz])
        · simp at hx; subst hx; exact hp.1 z hz
theorem sortedT_perm (xs : List TV) : (sortedT xs).Perm (xs.filter TV.ok) := List.mergeSort_perm _ _
theorem mem_sortedT {xs : List TV} {t : TV} : t ∈ sortedT xs ↔ t ∈ xs ∧ t.ok = true := by
  rw [(sortedT_perm xs).mem_iff, List.mem_filter]
/-- what is right stands in the order of the keys -/
theorem lt_false {x y : TV} (hx : x.ok = true) (hy : y.ok = true) : y.lt x = false ↔ x.key ≤ y.key := by
  constructor
  · intro h
    by_cases k : x.key ≤ y.key
    · exact k
    · rw [(TV.lt_iff y x).2 ⟨hy, hx, by omega⟩] at h
      cases h
  · intro h
    cases q : y.lt x
    · rfl
    · have := ((TV.lt_iff y x).1 q).2.2
      omega
theorem ofT_strict_of {ys : List TV} (ho : ∀ y ∈ ys, y.ok = true) (hp : ys.Pairwise fun x y => y.lt x = false) : strict (ys.foldl lowStep []) :=
  low_strict ys [] List.Pairwise.nil (by simp) ho hp (by simp)
theorem sortedT_sorted (xs : List TV) : (sortedT xs).Pairwise fun x y => y.lt x = false := by
  have h : (sortedT xs).Pairwise fun x y => decide (x.key ≤ y.key) = true :=
    List.pairwise_mergeSort (fun a b c h k => by simp only [decide_eq_true_eq] at *; omega) (fun a b => by simp only [Bool.or_eq_true, decide_eq_true_eq]; omega) _
  refine h.imp_of_mem fun {x y} hx hy k => ?_
  exact (lt_false (mem_sortedT.1 hx).2 (mem_sortedT.1 hy).2).2 (of_decide_eq_true k)
/-- a row of what is right, in the one order, is what the sort gives -/
theorem sortedT_eq {xs ys : List TV} (hp : ys.Perm (xs.filter TV.ok)) (hs : ys.Pairwise fun x y => y.lt x = false) : ys = sortedT xs := by
  have ok : ∀ y ∈ ys, y.ok = true := fun y hy => (List.mem_filter.1 (hp.mem_iff.1 hy)).2
  refine List.Perm.eq_of_pairwise (le := fun x y => y.lt x = false) ?_ hs (sortedT_sorted xs) (hp.trans (sortedT_perm xs).symm)
  intro a b ha hb h1 h2
  have ka := ok a ha
  have kb := (mem_sortedT.1 hb).2
  have := (lt_false ka kb).1 h1
  have := (lt_false kb ka).1 h2
  exact TV.key_inj ka kb (by omega)
theorem ofT_strict (xs : List TV) : strict (ofT xs) := ofT_strict_of (fun y hy => (mem_sortedT.1 hy).2) (sortedT_sorted xs)
theorem ofT_mem {xs : List TV} {t : TV} (h : t ∈ ofT xs) : t ∈ xs ∧ t.ok = true := by
  rcases low_mem _ _ _ h with h | h
  · cases h
  · exact mem_sortedT.1 h
theorem ofT_cov (xs : List TV) (t : TV) : cov (ofT xs) t = cov xs t := by
  rw [Bool.eq_iff_iff, cov_iff, cov_iff]
  constructor
  · rintro ⟨x, h1, h2⟩; exact ⟨x, (ofT_mem h1).1, h2⟩
  · rintro ⟨x, h1, h2⟩
    obtain ⟨m, h3, h4⟩ := cov_iff.1 (low_covers (sortedT xs) [] x (mem_sortedT.2 ⟨h1, TV.le_left h2⟩) (TV.le_left h2))
    exact ⟨m, h3, TV.le_trans h4 h2⟩
theorem strict_apart : ∀ {l : List TV}, strict l → ∀ x ∈ l, ∀ y ∈ l, x.le y = true → x = y
  | a :: l, h, x, hx, y, hy, hl => by
    rw [strict, List.pairwise_cons] at h
    rcases List.mem_cons.1 hx with e | hx' <;> rcases List.mem_cons.1 hy with k | hy'
    · rw [e, k]
    · subst e
      rw [(h.1 y hy').2] at hl; cases hl
    · subst k
      have := ((TV.lt_iff _ _).1 (h.1 x hx').1).2.2
      have := TV.le_key hl
      omega
    · exact strict_apart h.2 x hx' y hy' hl
theorem ofT_char {xs : List TV} {t : TV} : t ∈ ofT xs ↔ t.ok = true ∧ cov xs t = true ∧ ∀ s, cov xs s = true → s.le t = true → s = t := by
  constructor
  · intro h
    have hm := ofT_mem h
    refine ⟨hm.2, cov_iff.2 ⟨t, hm.1, TV.le_refl hm.2⟩, fun s hs hl => ?_⟩
    rw [← ofT_cov] at hs
    obtain ⟨m, h1, h2⟩ := cov_iff.1 hs
    have e := strict_apart (ofT_strict xs) m h1 t h (TV.le_trans h2 hl)
    subst e
    exact TV.le_antisymm hl h2
  · rintro ⟨h1, h2, h3⟩
    rw [← ofT_cov] at h2
    obtain ⟨m, h4, h5⟩ := cov_iff.1 h2
    have hm := ofT_mem h4
    have e := h3 m (cov_iff.2 ⟨m, hm.1, TV.le_refl hm.2⟩) h5
    subst e
    exact h4
theorem strict_ext : ∀ {l m : List TV}, strict l → strict m → (∀ t, t ∈ l ↔ t ∈ m) → l = m
  | [], [], _, _, _ => rfl
  | [], b :: m, _, _, h => by have := (h b).2 (by simp); cases this
  | a :: l, [], _, _, h => by have := (h a).1 (by simp); cases this
  | a :: l, b :: m, hl, hm, h => by
    rw [strict, List.pairwise_cons] at hl hm
    have key : ∀ {x y : TV}, x.lt y = true → x.key < y.key := fun q => ((TV.lt_iff _ _).1 q).2.2
    have e : a = b := by
      rcases List.mem_cons.1 ((h a).1 (by simp)) with q | q
      · exact q
      · rcases List.mem_cons.1 ((h b).2 (by simp)) with r | r
        · exact r.symm
        · have := key (hm.1 a q).1
          have := key (hl.1 b r).1
          omega
    subst e
    rw [strict_ext hl.2 hm.2 fun t => ?_]
    constructor
    · intro q
      rcases List.mem_cons.1 ((h t).1 (by simp [q])) with r | r
      · subst r; have := key (hl.1 t q).1; omega
      · exact r
    · intro q
      rcases List.mem_cons.1 ((h t).2 (by simp [q])) with r | r
      · subst r; have := key (hm.1 t q).1; omega
      · exact r
/-- the lowest hang on what is covered alone -/
theorem ofT_congr {xs ys : List TV} (h : ∀ t, cov xs t = cov ys t) : ofT xs = ofT ys :=
  strict_ext (ofT_strict xs) (ofT_strict ys) fun t => by rw [ofT_char, ofT_char]; simp only [h]
theorem ofT_idem (xs : List TV) : ofT (ofT xs) = ofT xs := ofT_congr (ofT_cov xs)
theorem cov_turned (xs : List TV) (t : TV) : cov (xs.reverse.flatMap fun x => [x, x]) t = cov xs t := by
  rw [Bool.eq_iff_iff, cov_iff, cov_iff]
  constructor
  · rintro ⟨x, h1, h2⟩; simp at h1; exact ⟨x, h1, h2⟩
  · rintro ⟨x, h1, h2⟩; exact ⟨x, by simp [h1], h2⟩
theorem order_all (a b c : List TV) : ofT (ofT (a ++ b) ++ c) = ofT (a ++ ofT (c ++ b)) := ofT_congr fun t => by
  simp only [cov_append, ofT_cov]
  cases cov a t <;> cases cov b t <;> cases cov c t <;> rfl
theorem order_turned (x : List TV) : ofT ((ofT x).reverse.flatMap fun x => [x, x]) = ofT x := ofT_congr fun t => by rw [cov_turned, ofT_cov]
theorem order_again (a b c : List TV) : ofT (ofT (ofT (a ++ b) ++ c) ++ a) = ofT (ofT (a ++ b) ++ c) := ofT_congr fun t => by
  simp only [cov_append, ofT_cov]
  cases cov a t <;> cases cov b t <;> cases cov c t <;> rfl
theorem low_length : ∀ (ys acc : List TV), (ys.foldl lowStep acc).length ≤ acc.length + ys.length
  | [], acc => by simp
  | y :: ys, acc => by
    have h := low_length ys (lowStep acc y)
    have : (lowStep acc y).length ≤ acc.length + 1 := by unfold lowStep; split <;> simp
    simp only [List.foldl_cons, List.length_cons]
    omega
theorem sortedT_length (xs : List TV) : (sortedT xs).length ≤ xs.length := by
  rw [(sortedT_perm xs).length_eq]; exact List.length_filter_le _ _
theorem ofT_length (xs : List TV) : (ofT xs).length ≤ xs.length := by
  have := low_length (sortedT xs) []
  have := sortedT_length xs
  simp only [List.length_nil] at *
  unfold ofT
  omega
end Go.Proofs.Ytcaolilhemamiaa
