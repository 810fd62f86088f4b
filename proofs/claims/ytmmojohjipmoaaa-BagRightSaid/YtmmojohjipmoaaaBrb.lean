/- the document's Add on bags -/
import Derived.Test.YtmmojohjipmoaaaBra
import Derived.Test.YtmmojohjipmoaaaBp
import Derived.Test.YtmmojohjipmoaaaBe
import Derived.Test.YtmmojohjipmoaaaRowKeep
namespace Go.Proofs.Ytmmojohjipmoaaa
open Go.RowKit
set_option linter.unusedVariables false
set_option linter.unusedSimpArgs false
attribute [local go_sem ↓] eqRec neRec

/-- what stands behind the items that were gone through -/
def restA (R : List IV) (r : RV) (n : Int) (d : Bool) : List IV := if d = true then R else mergedI R [⟨r, n⟩]
structure AddInv (b : List IV) (r : RV) (n : Int) (k : Nat) (out : List IV) (d : Bool) : Prop where
  res : (if n = 0 then b else mergedI b [⟨r, n⟩]) = out ++ restA (b.drop k) r n d
  open_ : d = false → n ≠ 0 ∧ out = b.take k
  done : d = true → n = 0 ∨ ∀ x ∈ b.drop k, r.lt x.t = true
  len : out.length ≤ k + 1
theorem add_start (b : List IV) (r : RV) (n : Int) : AddInv b r n 0 [] (n == 0) := by
  by_cases h : n = 0
  · subst h
    exact ⟨by simp [restA], fun h => (by cases h), fun _ => .inl rfl, by simp⟩
  · have hb : (n == 0) = false := by simpa using h
    rw [hb]
    exact ⟨by rw [if_neg h]; simp [restA], fun _ => ⟨h, rfl⟩, fun h => (by cases h), by simp⟩
theorem drop_get {b : List IV} {k : Nat} (hk : k < b.length) : b.drop k = b[k]! :: b.drop (k + 1) := by
  rw [getElem!_pos b k hk]; exact List.drop_eq_getElem_cons hk
section
variable {b : List IV} {r : RV} {n : Int} {k : Nat} {out : List IV} {d : Bool}
theorem good_drop (hb : goodI b) (k : Nat) : goodI (b.drop k) := ⟨fun c hc => hb.1 c (List.mem_of_mem_drop hc), hb.2.sublist (List.drop_sublist _ _)⟩
/-- another record, and the one that is put is there already or stands behind it -/
theorem add_pass (hb : goodI b) (h : AddInv b r n k out d) (hk : k < b.length) (hne : ¬ (b[k]!).t = r) (hl : d = true ∨ r.lt (b[k]!).t = false) : AddInv b r n (k + 1) (out ++ [b[k]!]) d := by
  have e := drop_get hk
  have hres := h.res
  have hdone := h.done
  rw [e] at hres hdone
  generalize hx : b[k]! = x at *
  refine ⟨?_, fun hd => ⟨(h.open_ hd).1, by rw [(h.open_ hd).2, take_getA b k hk, hx]⟩, fun hd => ?_, by have := h.len; simp; omega⟩
  · rw [hres, List.append_assoc]
    congr 1
    cases d with
    | true => rfl
    | false =>
      have hl : r.lt x.t = false := by rcases hl with hl | hl; cases hl; exact hl
      have h1 : cmpR x.t r < 0 := by
        have : x.t.lt r = true := by
          cases q : x.t.lt r
          · exact absurd (RV.tri q hl) hne
          · rfl
        rw [← cmpR_lt] at this
        exact of_decide_eq_true this
      show mergedI (x :: b.drop (k + 1)) [⟨r, n⟩] = [x] ++ mergedI (b.drop (k + 1)) [⟨r, n⟩]
      rw [mergedI_lt (x := x) (y := ⟨r, n⟩) _ _ h1]
      rfl
  · rcases hdone hd with q | q
    · exact .inl q
    · exact .inr fun y hy => q y (by simp [hy])
/-- the one that is put stands ahead of it -/
theorem add_ahead (hb : goodI b) (h : AddInv b r n k out false) (hk : k < b.length) (hlt : r.lt (b[k]!).t = true) : AddInv b r n (k + 1) ((out ++ [⟨r, n⟩]) ++ [b[k]!]) true := by
  have e := drop_get hk
  have hres := h.res
  have hg := good_drop hb k
  rw [e] at hres hg
  have ho := (h.open_ rfl).2
  have hlen : out.length ≤ k := by rw [ho, List.length_take]; omega
  generalize b[k]! = x at *
  refine ⟨?_, fun hd => (by cases hd), fun _ => .inr fun y hy => RV.lt_trans hlt (good_low hg y hy), by simp; omega⟩
  rw [hres]
  have h1 : 0 < cmpR x.t r := by rw [← cmpR_gt] at hlt; exact of_decide_eq_true hlt
  show out ++ mergedI (x :: b.drop (k + 1)) [⟨r, n⟩] = _
  rw [mergedI_gt (x := x) (y := ⟨r, n⟩) _ _ h1, mergedI_nil]
  simp [restA]
/-- it is the one, and it fits -/
theorem add_same (hb : goodI b) (h : AddInv b r n k out d) (hk : k < b.length) (he : (b[k]!).t = r) (hf : fitsN ((b[k]!).n + n) = true) :
    AddInv b r n (k + 1) (if (b[k]!).n + n = 0 then out else out ++ [⟨(b[k]!).t, (b[k]!).n + n⟩]) true := by
  have e := drop_get hk
  have hres := h.res
  have hdone := h.done
  have hg := good_drop hb k
  rw [e] at hres hg hdone
  generalize b[k]! = x at *
  have hx := (IV.ok_iff x).1 (hg.1 x (by simp))
  have hlow : ∀ y ∈ b.drop (k + 1), r.lt y.t = true := fun y hy => by rw [← he]; exact good_low hg y hy
  refine ⟨?_, fun hd => (by cases hd), fun _ => .inr hlow, by have := h.len; split <;> simp <;> omega⟩
  rw [hres]
  cases d with
  | true =>
    have hn : n = 0 := by
      rcases hdone rfl with q | q
      · exact q
      · have := q x (by simp)
        rw [he, RV.lt_irrefl] at this; cases this
    subst hn
    rw [Int.add_zero, if_neg hx.1]
    show out ++ (x :: b.drop (k + 1)) = (out ++ [x]) ++ b.drop (k + 1)
    simp
  | false =>
    have h0 : cmpR x.t r = 0 := (cmpR_zero _ _).2 he
    have hm : moreI x n = ⟨x.t, x.n + n⟩ := by unfold moreI; rw [if_pos hf]
    show out ++ mergedI (x :: b.drop (k + 1)) [⟨r, n⟩] = _
    by_cases hz : x.n + n = 0
    · rw [if_pos hz, mergedI_no (x := x) (y := ⟨r, n⟩) _ _ h0 (by show (moreI x n).n = 0; rw [hm]; exact hz), mergedI_nil]
      rfl
    · rw [if_neg hz, mergedI_one (x := x) (y := ⟨r, n⟩) _ _ h0 (by show ¬ (moreI x n).n = 0; rw [hm]; exact hz), mergedI_nil]
      show out ++ (moreI x n :: b.drop (k + 1)) = _
      rw [hm]
      simp [restA]
/-- it is the one, and it does not fit: all stays -/
theorem add_stays (hb : goodI b) (h : AddInv b r n k out d) (hk : k < b.length) (he : (b[k]!).t = r) (hf : fitsN ((b[k]!).n + n) = false) : (if n = 0 then b else mergedI b [⟨r, n⟩]) = b := by
  have e := drop_get hk
  have hres := h.res
  have hopen := h.open_
  have hdone := h.done
  have hg := good_drop hb k
  have htd := List.take_append_drop k b
  rw [e] at hres hg hdone htd
  generalize b[k]! = x at *
  have hx := (IV.ok_iff x).1 (hg.1 x (by simp))
  cases d with
  | true =>
    rcases hdone rfl with q | q
    · rw [if_pos q]
    · have := q x (by simp)
      rw [he, RV.lt_irrefl] at this; cases this
  | false =>
    have h0 : cmpR x.t r = 0 := (cmpR_zero _ _).2 he
    have hm : moreI x n = x := by unfold moreI; rw [if_neg (by rw [hf]; simp)]
    rw [hres]
    show out ++ mergedI (x :: b.drop (k + 1)) [⟨r, n⟩] = _
    rw [mergedI_one (x := x) (y := ⟨r, n⟩) _ _ h0 (by show ¬ (moreI x n).n = 0; rw [hm]; exact hx.1), mergedI_nil]
    show out ++ (moreI x n :: b.drop (k + 1)) = _
    rw [hm, (hopen rfl).2]
    exact htd
theorem add_end (h : AddInv b r n k out d) (hk : b.length ≤ k) : (if n = 0 then b else mergedI b [⟨r, n⟩]) = if d = true then out else out ++ [⟨r, n⟩] := by
  have hres := h.res
  rw [List.drop_eq_nil_of_le hk] at hres
  rw [hres]
  cases d with
  | true => simp [restA]
  | false => simp [restA, nil_mergedI]
end
theorem addI_not {b : List IV} (r : RV) (n : Int) (h : rightI b = false) : addI b r n = b := by
  unfold addI plusI; rw [if_neg (by rw [h]; simp)]
theorem addI_unfit {b : List IV} (r : RV) {n : Int} (h : fitsN n = false) : addI b r n = b := by
  unfold addI plusI
  rw [if_neg]
  rintro ⟨_, h2⟩
  have := ((rightI_iff _).1 h2).1 ⟨r, n⟩ (by simp)
  rw [IV.ok_iff] at this
  rw [(fitsN_iff n).2 this.2] at h
  cases h
theorem addI_fit {b : List IV} (r : RV) {n : Int} (hb : rightI b = true) (h : fitsN n = true) : addI b r n = if n = 0 then b else mergedI b [⟨r, n⟩] := by
  unfold addI plusI
  by_cases hn : n = 0
  · rw [if_pos hn, if_neg]
    rintro ⟨_, h2⟩
    have := ((rightI_iff _).1 h2).1 ⟨r, n⟩ (by simp)
    rw [IV.ok_iff] at this
    exact this.1 hn
  · rw [if_neg hn, if_pos]
    refine ⟨hb, (rightI_iff _).2 ⟨fun c hc => ?_, List.pairwise_singleton _ _⟩⟩
    simp at hc; subst hc
    exact (IV.ok_iff _).2 ⟨hn, (fitsN_iff n).1 h⟩
end Go.Proofs.Ytmmojohjipmoaaa
