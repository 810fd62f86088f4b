/- the bag of records, as plain facts -/
import Derived.Test.YtmmojohjipmoaaaBp
namespace Go.Proofs.Ytmmojohjipmoaaa
open Go.RowKit
set_option linter.unusedVariables false
set_option linter.unusedSimpArgs false

def cntR (xs : List RV) (u : RV) : Int := (xs.map fun r => if r = u then (1 : Int) else 0).sum
theorem cntR_nil (u : RV) : cntR [] u = 0 := rfl
theorem cntR_cons (r : RV) (xs : List RV) (u : RV) : cntR (r :: xs) u = (if r = u then 1 else 0) + cntR xs u := by simp [cntR]
theorem cntR_append (xs ys : List RV) (u : RV) : cntR (xs ++ ys) u = cntR xs u + cntR ys u := by simp [cntR]
theorem cntR_le (xs : List RV) (u : RV) : 0 ≤ cntR xs u ∧ cntR xs u ≤ xs.length := by
  induction xs with
  | nil => exact ⟨Int.le_refl _, Int.le_refl _⟩
  | cons r xs ih =>
    rw [cntR_cons, List.length_cons]
    split <;> omega
theorem cntR_perm {xs ys : List RV} (h : xs.Perm ys) (u : RV) : cntR xs u = cntR ys u := by
  induction h with
  | nil => rfl
  | cons x _ ih => rw [cntR_cons, cntR_cons, ih]
  | swap x y l => rw [cntR_cons, cntR_cons, cntR_cons, cntR_cons]; omega
  | trans _ _ h1 h2 => exact h1.trans h2
/-- each of these once, one by one, as the document says it -/
def ofI (xs : List RV) : List IV := xs.foldl (fun b r => addI b r 1) []
theorem one_good (r : RV) {n : Int} (h : n ≠ 0 ∧ -2147483648 ≤ n ∧ n ≤ 2147483648) : goodI [⟨r, n⟩] :=
  good_cons ((IV.ok_iff _).2 h) (fun d hd => (by cases hd)) goodI_nil
theorem atS_one (r : RV) (n : Int) (u : RV) : atS [⟨r, n⟩] u = if r = u then n else 0 := by rw [atS_cons, atS_nil]; simp
theorem fold_is : ∀ (xs : List RV) (b : List IV), goodI b → (∀ u, 0 ≤ atS b u ∧ atS b u + xs.length ≤ 2147483648) →
    goodI (xs.foldl (fun b r => addI b r 1) b) ∧ (∀ u, atS (xs.foldl (fun b r => addI b r 1) b) u = atS b u + cntR xs u) ∧ (xs.foldl (fun b r => addI b r 1) b).length ≤ b.length + xs.length
  | [], b, hb, _ => ⟨hb, fun u => by rw [cntR_nil]; simp, by simp⟩
  | r :: xs, b, hb, hn => by
    simp only [List.length_cons] at hn
    have P := plusI_is hb (one_good r (n := 1) (by omega))
    have hat : ∀ u, atS (addI b r 1) u = atS b u + (if r = u then 1 else 0) := fun u => by
      show atS (plusI b [⟨r, 1⟩]) u = _
      have h := hn u
      rw [P.at_, atS_one]
      exact addF_fit (by split <;> omega)
    have ih := fold_is xs (addI b r 1) P.good (fun u => by
      have h := hn u
      rw [hat]
      split <;> omega)
    refine ⟨ih.1, fun u => ?_, ?_⟩
    · show atS (xs.foldl _ (addI b r 1)) u = _
      rw [ih.2.1 u, hat, cntR_cons]; omega
    · have h1 := ih.2.2
      have h2 := P.len
      have h3 : (addI b r 1).length ≤ b.length + 1 := h2
      simp only [List.foldl_cons, List.length_cons]
      omega
theorem ofI_is {xs : List RV} (h : xs.length ≤ 2147483648) : goodI (ofI xs) ∧ (∀ u, atS (ofI xs) u = cntR xs u) ∧ (ofI xs).length ≤ xs.length := by
  have := fold_is xs [] goodI_nil (fun u => by rw [atS_nil]; omega)
  refine ⟨this.1, fun u => ?_, by have h := this.2.2; rw [List.length_nil, Nat.zero_add] at h; exact h⟩
  have h2 := this.2.1 u
  rw [atS_nil, Int.zero_add] at h2
  exact h2
/-- what the program does with each of the sorted ones -/
def stepO (acc : List IV) (r : RV) : List IV :=
  match acc.getLast? with
  | some c => if c.t = r then acc.dropLast ++ [⟨c.t, c.n + 1⟩] else acc ++ [⟨r, 1⟩]
  | none => acc ++ [⟨r, 1⟩]
theorem stepO_nil (r : RV) : stepO [] r = [⟨r, 1⟩] := rfl
theorem stepO_same (acc : List IV) (c : IV) : stepO (acc ++ [c]) c.t = acc ++ [⟨c.t, c.n + 1⟩] := by simp [stepO]
theorem stepO_other (acc : List IV) (c : IV) {r : RV} (h : ¬ c.t = r) : stepO (acc ++ [c]) r = (acc ++ [c]) ++ [⟨r, 1⟩] := by simp [stepO, h]
theorem good_append {f g : List IV} (hf : goodI f) (hg : goodI g) (h : ∀ c ∈ f, ∀ d ∈ g, c.t.lt d.t = true) : goodI (f ++ g) := by
  refine ⟨fun c hc => ?_, List.pairwise_append.2 ⟨hf.2, hg.2, h⟩⟩
  rcases List.mem_append.1 hc with hc | hc
  · exact hf.1 c hc
  · exact hg.1 c hc
theorem good_left {f g : List IV} (h : goodI (f ++ g)) : goodI f := ⟨fun c hc => h.1 c (List.mem_append.2 (.inl hc)), (List.pairwise_append.1 h.2).1⟩
structure AccP (p : List RV) (acc : List IV) : Prop where
  good : goodI acc
  at_ : ∀ u, atS acc u = cntR p u
  mem : ∀ c ∈ acc, c.t ∈ p
  pos : ∀ c ∈ acc, 0 < c.n ∧ c.n ≤ p.length
  len : acc.length ≤ p.length
theorem acc_step {p : List RV} {acc : List IV} {r : RV} (hl : p.length < 2147483648) (h : AccP p acc) (hs : ∀ x ∈ p, r.lt x = false) : AccP (p ++ [r]) (stepO acc r) := by
  have hplen : (p ++ [r]).length = p.length + 1 := by simp
  rcases List.eq_nil_or_concat acc with rfl | ⟨acc', c, rfl⟩
  · rw [stepO_nil]
    refine ⟨one_good r (by omega), fun u => ?_, fun c hc => ?_, fun c hc => ?_, by simp⟩
    · rw [atS_one, cntR_append, cntR_cons, cntR_nil, ← h.at_ u, atS_nil]; omega
    · simp at hc; subst hc; simp
    · simp at hc; subst hc; rw [hplen]; simp only; omega
  · rw [List.concat_eq_append] at h ⊢
    by_cases e : c.t = r
    · subst e
      rw [stepO_same]
      have hc := h.pos c (by simp)
      have hlow : ∀ x ∈ acc', x.t.lt c.t = true := fun x hx => (List.pairwise_append.1 h.good.2).2.2 x hx c (by simp)
      refine ⟨good_append (good_left h.good) (one_good c.t (by omega)) (fun x hx d hd => ?_), fun u => ?_, fun x hx => ?_, fun x hx => ?_, ?_⟩
      · simp at hd; subst hd; exact hlow x hx
      · have := h.at_ u
        rw [atS_append, atS_cons, atS_nil] at this
        rw [atS_append, atS_one, cntR_append, cntR_cons, cntR_nil, ← this]
        split <;> omega
      · rcases List.mem_append.1 hx with hx | hx
        · have := h.mem x (by simp [hx]); simp [this]
        · simp at hx; subst hx; simp
      · rcases List.mem_append.1 hx with hx | hx
        · have := h.pos x (by simp [hx]); rw [hplen]; omega
        · simp at hx; subst hx; rw [hplen]; simp only; omega
      · have := h.len; simp at *; omega
    · rw [stepO_other _ _ e]
      have hcr : c.t.lt r = true := by
        cases q : c.t.lt r
        · exact absurd (RV.tri q (hs c.t (h.mem c (by simp)))) e
        · rfl
      have hall : ∀ x ∈ acc' ++ [c], x.t.lt r = true := fun x hx => by
        rcases List.mem_append.1 hx with hx | hx
        · exact RV.lt_trans ((List.pairwise_append.1 h.good.2).2.2 x hx c (by simp)) hcr
        · simp at hx; subst hx; exact hcr
      refine ⟨good_append h.good (one_good r (by omega)) (fun x hx d hd => ?_), fun u => ?_, fun x hx => ?_, fun x hx => ?_, ?_⟩
      · simp at hd; subst hd; exact hall x hx
      · rw [atS_append, atS_one, h.at_ u, cntR_append, cntR_cons, cntR_nil]; omega
      · rcases List.mem_append.1 hx with hx | hx
        · have := h.mem x hx; simp [this]
        · simp at hx; subst hx; simp
      · rcases List.mem_append.1 hx with hx | hx
        · have := h.pos x hx; rw [hplen]; omega
        · simp at hx; subst hx; rw [hplen]; simp only; omega
      · have := h.len; simp at *; omega
theorem acc_nil : AccP [] [] := ⟨goodI_nil, fun _ => rfl, fun _ h => (by cases h), fun _ h => (by cases h), Nat.le_refl _⟩
theorem acc_done {xs ys : List RV} {acc : List IV} (hl : xs.length ≤ 2147483648) (hp : ys.Perm xs) (h : AccP ys acc) : acc = ofI xs := by
  have O := ofI_is hl
  exact good_ext h.good O.1 (fun u => by rw [h.at_, O.2.1, cntR_perm hp])
end Go.Proofs.Ytmmojohjipmoaaa
