/- counts as plain facts: what adding one does -/
import Derived.Test.YtcaolilhemamiaaFmp
namespace Go.Proofs.Ytcaolilhemamiaa
open Go.RowKit
set_option linter.unusedVariables false
set_option linter.unusedSimpArgs false

def goodC (f : List CV) : Prop := (∀ c ∈ f, c.ok = true) ∧ f.Pairwise fun a b => a.t.lt b.t = true
theorem CV.ok_iff (c : CV) : c.ok = true ↔ c.t.ok = true ∧ c.n ≠ 0 ∧ -2147483648 ≤ c.n ∧ c.n ≤ 2147483648 := by
  simp [CV.ok, fitsN]
theorem TV.lt_trans {a b c : TV} (h : a.lt b = true) (k : b.lt c = true) : a.lt c = true := by
  rw [TV.lt_iff] at *
  exact ⟨h.1, k.2.1, by omega⟩
theorem TV.lt_irrefl (a : TV) : a.lt a = false := by
  cases h : a.lt a
  · rfl
  · have := ((TV.lt_iff a a).1 h).2.2; omega
theorem TV.tri {a b : TV} (ha : a.ok = true) (hb : b.ok = true) (h : a.lt b = false) (k : b.lt a = false) : a = b := by
  refine TV.key_inj ha hb ?_
  rcases Int.lt_trichotomy a.key b.key with q | q | q
  · rw [(TV.lt_iff a b).2 ⟨ha, hb, q⟩] at h; cases h
  · exact q
  · rw [(TV.lt_iff b a).2 ⟨hb, ha, q⟩] at k; cases k
theorem rightC_iff (f : List CV) : rightC f = true ↔ goodC f := by
  have key : ∀ (j : Nat) (hj : j < f.length), f[j]! = f[j] := fun j hj => getElem!_pos f j hj
  unfold rightC upC
  rw [decide_eq_true_eq]
  constructor
  · intro h
    refine ⟨fun c hc => ?_, ?_⟩
    · obtain ⟨j, hj, rfl⟩ := List.mem_iff_getElem.1 hc
      have := (h j hj).1
      rwa [key j hj] at this
    · have step : ∀ (d j : Nat) (hj : j + d + 1 < f.length), (f[j]'(by omega)).t.lt (f[j + d + 1]).t = true := by
        intro d
        induction d with
        | zero =>
          intro j hj
          have := (h (j + 1) hj).2 (by omega)
          rw [Nat.add_sub_cancel, key _ (by omega), key _ hj] at this
          exact this
        | succ d ih =>
          intro j hj
          have h1 := ih j (by omega)
          have h2 := (h (j + (d + 1) + 1) hj).2 (by omega)
          rw [Nat.add_sub_cancel, key _ (by omega), key _ hj] at h2
          exact TV.lt_trans h1 h2
      rw [List.pairwise_iff_getElem]
      intro i j hi hj hij
      have := step (j - i - 1) i (by omega)
      have e : i + (j - i - 1) + 1 = j := by omega
      simp only [e] at this
      exact this
  · rintro ⟨h1, h2⟩ j hj
    rw [key j hj]
    refine ⟨h1 _ (List.getElem_mem hj), fun h0 => ?_⟩
    rw [key (j - 1) (by omega)]
    exact List.pairwise_iff_getElem.1 h2 (j - 1) j (by omega) hj (by omega)
def atS (f : List CV) (u : TV) : Int := (f.map fun c => if c.t = u then c.n else 0).sum
theorem atS_cons (c : CV) (f : List CV) (u : TV) : atS (c :: f) u = (if c.t = u then c.n else 0) + atS f u := by simp [atS]
theorem atS_zero {f : List CV} {u : TV} (h : ∀ c ∈ f, c.t ≠ u) : atS f u = 0 := by
  induction f with
  | nil => rfl
  | cons c f ih => rw [atS_cons, if_neg (h c (by simp)), ih (fun d hd => h d (by simp [hd]))]; rfl
theorem good_tail {c : CV} {f : List CV} (h : goodC (c :: f)) : goodC f := ⟨fun d hd => h.1 d (by simp [hd]), (List.pairwise_cons.1 h.2).2⟩
theorem atS_head {c : CV} {f : List CV} (h : goodC (c :: f)) : atS f c.t = 0 := by
  refine atS_zero fun d hd e => ?_
  have := (List.pairwise_cons.1 h.2).1 d hd
  rw [e, TV.lt_irrefl] at this
  cases this
/-- nothing is there, at no timestamp -/
theorem good_empty {f : List CV} (h : goodC f) (h0 : ∀ u, atS f u = 0) : f = [] := by
  cases f with
  | nil => rfl
  | cons c f =>
    exfalso
    have := h0 c.t
    rw [atS_cons, if_pos rfl, atS_head h] at this
    exact ((CV.ok_iff c).1 (h.1 c (by simp))).2.1 (by omega)
theorem sumC_cons (c : CV) (f : List CV) : sumC (c :: f) = c.n + sumC f := by simp [sumC]
structure Put (f : List CV) (y : CV) (g : List CV) : Prop where
  good : goodC g
  at_ : ∀ u, atS g u = atS f u + (if y.t = u then y.n else 0)
  sum : sumC g = sumC f + y.n
  len : g.length ≤ f.length + 1
  low : ∀ u : TV, (∀ c ∈ f, u.lt c.t = true) → u.lt y.t = true → ∀ c ∈ g, u.lt c.t = true
theorem put_one {y : CV} (hy : y.ok = true) : ∀ (f : List CV), goodC f → fitsN (atS f y.t + y.n) = true → Put f y (mergedC f [y])
  | [], _, _ => by
    rw [nil_merged]
    refine ⟨⟨fun c hc => ?_, List.pairwise_singleton _ _⟩, fun u => ?_, by simp [sumC], by simp, fun u _ h c hc => ?_⟩
    · simp at hc; subst hc; exact hy
    · simp [atS]
    · simp at hc; subst hc; exact h
  | x :: f, hf, hfit => by
    have hx := (CV.ok_iff x).1 (hf.1 x (by simp))
    have hyk := (CV.ok_iff y).1 hy
    cases h1 : x.t.lt y.t with
    | true =>
      rw [merged_lt f [] h1]
      have hne : x.t ≠ y.t := fun e => by rw [e, TV.lt_irrefl] at h1; cases h1
      rw [atS_cons, if_neg hne, Int.zero_add] at hfit
      have ih := put_one hy f (good_tail hf) hfit
      refine ⟨⟨fun c hc => ?_, List.pairwise_cons.2 ⟨ih.low x.t (List.pairwise_cons.1 hf.2).1 h1, ih.good.2⟩⟩, fun u => ?_, ?_, ?_, fun u hu hl c hc => ?_⟩
      · rcases List.mem_cons.1 hc with rfl | hc
        · exact hf.1 _ (by simp)
        · exact ih.good.1 c hc
      · rw [atS_cons, atS_cons, ih.at_ u]; omega
      · rw [sumC_cons, sumC_cons, ih.sum]; omega
      · have := ih.len; simp; omega
      · rcases List.mem_cons.1 hc with rfl | hc
        · exact hu _ (by simp)
        · exact ih.low u (fun d hd => hu d (by simp [hd])) hl c hc
    | false =>
      cases h2 : y.t.lt x.t with
      | true =>
        rw [merged_gt f [] h1 h2, merged_nil]
        refine ⟨⟨fun c hc => ?_, List.pairwise_cons.2 ⟨fun c hc => ?_, hf.2⟩⟩, fun u => ?_, ?_, by simp, fun u hu hl c hc => ?_⟩
        · rcases List.mem_cons.1 hc with rfl | hc
          · exact hy
          · exact hf.1 c hc
        · rcases List.mem_cons.1 hc with rfl | hc
          · exact h2
          · exact TV.lt_trans h2 ((List.pairwise_cons.1 hf.2).1 c hc)
        · rw [atS_cons]; omega
        · rw [sumC_cons]; omega
        · rcases List.mem_cons.1 hc with rfl | hc
          · exact hl
          · exact hu c hc
      | false =>
        have e : x.t = y.t := TV.tri hx.1 hyk.1 h1 h2
        have h0 := atS_head hf
        rw [atS_cons, if_pos e, ← e, h0, Int.add_zero] at hfit
        have hm : moreC x y.n = ⟨x.t, x.n + y.n⟩ := by unfold moreC; rw [if_pos hfit]
        by_cases hz : x.n + y.n = 0
        · rw [merged_no f [] h1 h2 (by rw [hm]; exact hz), merged_nil]
          refine ⟨good_tail hf, fun u => ?_, ?_, by simp; omega, fun u hu hl c hc => hu c (by simp [hc])⟩
          · rw [atS_cons, ← e]; split <;> omega
          · rw [sumC_cons]; omega
        · rw [merged_one f [] h1 h2 (by rw [hm]; exact hz), merged_nil, hm]
          refine ⟨⟨fun c hc => ?_, List.pairwise_cons.2 ⟨(List.pairwise_cons.1 hf.2).1, (good_tail hf).2⟩⟩, fun u => ?_, ?_, by simp, fun u hu hl c hc => ?_⟩
          · rcases List.mem_cons.1 hc with rfl | hc
            · rw [CV.ok_iff]
              simp only [fitsN, decide_eq_true_eq] at hfit
              exact ⟨hx.1, hz, hfit⟩
            · exact hf.1 c (by simp [hc])
          · rw [atS_cons, atS_cons, ← e]; simp only; split <;> omega
          · rw [sumC_cons, sumC_cons]; simp only; omega
          · rcases List.mem_cons.1 hc with rfl | hc
            · exact hu x (by simp)
            · exact hu c (by simp [hc])
/-- counts and more counts -/
def allC (a b : List CV) : List CV := if rightC a = true ∧ rightC b = true then mergedC a b else a
def addC (f : List CV) (t : TV) (n : Int) : List CV := allC f [⟨t, n⟩]
def eff (t : TV) (n : Int) (u : TV) : Int := if t.ok = true ∧ t = u then n else 0
theorem addC_put {f : List CV} {t : TV} {n : Int} (hf : goodC f) (hn : -2147483648 ≤ n ∧ n ≤ 2147483648) (hs : -2147483648 ≤ atS f t + n ∧ atS f t + n ≤ 2147483648) :
    goodC (addC f t n) ∧ (∀ u, atS (addC f t n) u = atS f u + eff t n u) ∧ sumC (addC f t n) = sumC f + (if t.ok = true then n else 0) ∧ (addC f t n).length ≤ f.length + 1 := by
  unfold addC allC
  have hf1 := (rightC_iff f).2 hf
  by_cases hok : CV.ok ⟨t, n⟩ = true
  · have ht := ((CV.ok_iff _).1 hok).1
    have hr : rightC [⟨t, n⟩] = true := (rightC_iff _).2 ⟨fun c hc => by simp at hc; subst hc; exact hok, List.pairwise_singleton _ _⟩
    rw [if_pos ⟨hf1, hr⟩]
    have P := put_one (y := ⟨t, n⟩) hok f hf (decide_eq_true hs)
    refine ⟨P.good, fun u => ?_, ?_, P.len⟩
    · rw [P.at_ u]; simp only [eff, ht, true_and]
    · rw [P.sum, if_pos ht]
  · have hr : ¬ rightC [⟨t, n⟩] = true := fun h => hok (((rightC_iff _).1 h).1 _ (by simp))
    rw [if_neg (fun h => hr h.2)]
    have hz : t.ok = true → n = 0 := fun ht => by
      by_cases h : n = 0
      · exact h
      · exact absurd ((CV.ok_iff ⟨t, n⟩).2 ⟨ht, h, hn⟩) hok
    refine ⟨hf, fun u => ?_, ?_, by omega⟩
    · unfold eff
      split
      · rename_i h; rw [hz h.1]; omega
      · omega
    · split
      · rename_i h; rw [hz h]; omega
      · omega
/-- timestamps that are there -/
def thereC (f : List CV) : List TV := (f.filter fun c => decide (0 < c.n)).map CV.t
def frontC (f : List CV) : List TV := if rightC f = true then ofT (thereC f) else []
end Go.Proofs.Ytcaolilhemamiaa
