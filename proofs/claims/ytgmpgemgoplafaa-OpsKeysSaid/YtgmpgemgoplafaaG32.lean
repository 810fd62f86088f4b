/- plain: items in their order, put together where they are of the same record -/
import Derived.Test.YtgmpgemgoplafaaG30
import Derived.Test.YtgmpgemgoplafaaG31
namespace Go.Proofs.Ytgmpgemgoplafaa
open Go.RowKit
set_option linter.unusedVariables false
set_option linter.unusedSimpArgs false

theorem atS_perm {f g : List IV} (h : f.Perm g) (u : RV) : atS f u = atS g u := by
  induction h with
  | nil => rfl
  | cons c _ ih => rw [atS_cons, atS_cons, ih]
  | swap c d l => rw [atS_cons, atS_cons, atS_cons, atS_cons]; omega
  | trans _ _ h1 h2 => rw [h1, h2]
theorem manyO_perm {f g : List IV} (h : f.Perm g) : manyO f = manyO g := by
  induction h with
  | nil => rfl
  | cons c _ ih => rw [manyO_cons, manyO_cons, ih]
  | swap c d l => rw [manyO_cons, manyO_cons, manyO_cons, manyO_cons]; omega
  | trans _ _ h1 h2 => rw [h1, h2]
/-- one item more -/
def togStep (acc : List IV) (c : IV) : List IV :=
  if 0 < acc.length ∧ acc[acc.length - 1]!.t = c.t then acc.set (acc.length - 1) ⟨c.t, acc[acc.length - 1]!.n + c.n⟩ else acc ++ [c]
theorem togStep_nil (c : IV) : togStep [] c = [c] := rfl
theorem togStep_last (i : List IV) (l c : IV) : togStep (i ++ [l]) c = if l.t = c.t then i ++ [⟨c.t, l.n + c.n⟩] else i ++ [l] ++ [c] := by
  have hl : (i ++ [l]).length - 1 = i.length := by simp
  have hg : (i ++ [l])[i.length]! = l := by
    rw [getElem!_pos _ _ (by simp)]
    simp
  unfold togStep
  rw [hl, hg]
  by_cases h : l.t = c.t
  · rw [if_pos ⟨by simp, h⟩, if_pos h]
    simp
  · rw [if_neg (fun q => h q.2), if_neg h]
theorem togStep_len (acc : List IV) (c : IV) : (togStep acc c).length ≤ acc.length + 1 := by
  unfold togStep
  split <;> simp
structure TogI (acc : List IV) (S : Int) (ys : List IV) : Prop where
  pos : ∀ c ∈ acc, 0 < c.n ∧ c.n ≤ S
  up : acc.Pairwise fun a b => a.t.lt b.t = true
  low : ∀ c ∈ acc, ∀ d ∈ ys, d.t.lt c.t = false
theorem TogI.step {acc : List IV} {S : Int} {c : IV} {ys : List IV} (h : TogI acc S (c :: ys)) (hs : (c :: ys).Pairwise fun x y => y.t.lt x.t = false) (hc : 0 < c.n) (hS : 0 ≤ S) :
    TogI (togStep acc c) (S + c.n) ys ∧ ∀ u, atS (togStep acc c) u = atS acc u + (if c.t = u then c.n else 0) := by
  obtain ⟨hp, hu, hl⟩ := h
  have hs1 := (List.pairwise_cons.1 hs).1
  have new : TogI (acc ++ [c]) (S + c.n) ys ↔ (∀ x ∈ acc, x.t.lt c.t = true) := by
    constructor
    · intro q x hx
      exact (List.pairwise_append.1 q.up).2.2 x hx c (by simp)
    · intro q
      refine ⟨fun x hx => ?_, List.pairwise_append.2 ⟨hu, by simp, fun x hx y hy => by rw [List.mem_singleton.1 hy]; exact q x hx⟩, fun x hx d hd => ?_⟩
      · rcases List.mem_append.1 hx with hx | hx
        · have := hp x hx; omega
        · rw [List.mem_singleton.1 hx]; omega
      · rcases List.mem_append.1 hx with hx | hx
        · exact hl x hx d (by simp [hd])
        · rw [List.mem_singleton.1 hx]; exact hs1 d hd
  rcases List.eq_nil_or_concat acc with rfl | ⟨i, l, rfl⟩
  · rw [togStep_nil]
    exact ⟨new.2 fun x hx => by simp at hx, fun u => by rw [atS_cons, atS_nil]; omega⟩
  · rw [List.concat_eq_append] at *
    rw [togStep_last]
    have hi := List.pairwise_append.1 hu
    by_cases he : l.t = c.t
    · rw [if_pos he]
      refine ⟨⟨fun x hx => ?_, List.pairwise_append.2 ⟨hi.1, by simp, fun x hx y hy => ?_⟩, fun x hx d hd => ?_⟩, fun u => ?_⟩
      · rcases List.mem_append.1 hx with hx | hx
        · have := hp x (List.mem_append.2 (.inl hx)); omega
        · rw [List.mem_singleton.1 hx]
          have := hp l (by simp)
          show 0 < l.n + c.n ∧ l.n + c.n ≤ S + c.n
          omega
      · rw [List.mem_singleton.1 hy]
        show x.t.lt c.t = true
        rw [← he]
        exact hi.2.2 x hx l (by simp)
      · rcases List.mem_append.1 hx with hx | hx
        · exact hl x (List.mem_append.2 (.inl hx)) d (by simp [hd])
        · rw [List.mem_singleton.1 hx]; exact hs1 d hd
      · rw [atS_append, atS_append, atS_cons, atS_cons, atS_nil]
        show _ + ((if c.t = u then l.n + c.n else 0) + 0) = _
        rw [he]
        split <;> omega
    · rw [if_neg he]
      have hlc : l.t.lt c.t = true := by
        have h1 := hl l (by simp) c (by simp)
        cases h2 : l.t.lt c.t
        · exact absurd (RV.tri h2 h1) he
        · rfl
      refine ⟨new.2 fun x hx => ?_, fun u => ?_⟩
      · rcases List.mem_append.1 hx with hx | hx
        · exact RV.lt_trans (hi.2.2 x hx l (by simp)) hlc
        · rw [List.mem_singleton.1 hx]; exact hlc
      · rw [atS_append (i ++ [l]) [c], atS_cons, atS_nil]; omega
theorem tog_fold : ∀ (ys acc : List IV) (S : Int), TogI acc S ys → ys.Pairwise (fun x y => y.t.lt x.t = false) → (∀ c ∈ ys, 0 < c.n) → 0 ≤ S →
    TogI (ys.foldl togStep acc) (S + manyO ys) [] ∧ ∀ u, atS (ys.foldl togStep acc) u = atS acc u + atS ys u
  | [], acc, S, h, _, _, _ => ⟨by rw [show manyO [] = 0 from rfl, Int.add_zero]; exact h, fun u => by rw [atS_nil]; exact (Int.add_zero _).symm⟩
  | c :: ys, acc, S, h, hs, hp, hS => by
    have hc := hp c (by simp)
    have st := h.step hs hc hS
    have ih := tog_fold ys _ _ st.1 (List.pairwise_cons.1 hs).2 (fun d hd => hp d (by simp [hd])) (by omega)
    rw [List.foldl_cons, manyO_cons]
    refine ⟨by rw [← Int.add_assoc]; exact ih.1, fun u => ?_⟩
    rw [ih.2, st.2, atS_cons]; omega
/-- items in their order, put together: a bag with as many of each record -/
theorem tog_eq {l ys : List IV} (hy : ys.Perm l) (hs : ys.Pairwise fun x y => y.t.lt x.t = false) (hp : ∀ c ∈ l, 0 < c.n) (hm : manyO l ≤ 65536) : ys.foldl togStep [] = togO l := by
  have hpy : ∀ c ∈ ys, 0 < c.n := fun c hc => hp c (hy.mem_iff.1 hc)
  have q := tog_fold ys [] 0 ⟨fun _ h => by simp at h, List.Pairwise.nil, fun _ h => by simp at h⟩ hs hpy (Int.le_refl _)
  have g := togO_is hp hm
  have hmy : manyO ys ≤ 65536 := by rw [manyO_perm hy]; exact hm
  refine good_ext ⟨fun c hc => (IV.ok_iff c).2 ?_, q.1.up⟩ g.1 fun u => ?_
  · have := q.1.pos c hc
    omega
  · rw [q.2, g.2.1, atS_nil, atS_perm hy]; omega
theorem foldl_take_succ {xs : List IV} {k : Nat} (hk : k < xs.length) : (xs.take (k + 1)).foldl togStep [] = togStep ((xs.take k).foldl togStep []) xs[k]! := by
  rw [take_getA xs k hk, List.foldl_append]
  rfl
theorem foldl_len : ∀ (ys acc : List IV), (ys.foldl togStep acc).length ≤ acc.length + ys.length
  | [], acc => by simp
  | c :: ys, acc => by
    have := foldl_len ys (togStep acc c)
    have := togStep_len acc c
    rw [List.foldl_cons, List.length_cons]
    omega
end Go.Proofs.Ytgmpgemgoplafaa
