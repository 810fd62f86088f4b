/- reading a graph, step by step, from where one stands (conts); a state of the walk along bytes (Gd) -/
import Derived.Test.YtdhmoiiagplbpaaVb
namespace Go.Proofs.Ytdhmoiiagplbpaa
open Go.RowKit
set_option linter.unusedVariables false
set_option linter.unusedSimpArgs false

/-- goes on with what is read, or tells the error -/
def andR {α β : Type} (x : Rd α) (f : α → List Int → Except Nat β) : Except Nat β := match x with
  | .error e => .error e
  | .ok (a, r) => f a r
abbrev CG := List Int → Except Nat GV
abbrev topN : Nat := 2147483647
def contF (g : GV) : CG := fun r => if r = [] then .ok g else .error 4
def contE (p b : List Int) (ns : List GN) (es : List GE) (k : Nat) : CG := fun r => andR (manyR edgeR k r) fun l r => contF ⟨p, b, ns, es ++ l⟩ r
def contEc (p b : List Int) (ns : List GN) : CG := fun r => andR (numR 0 64 11 r) fun k r => contE p b ns [] k r
def contN (p b : List Int) (ns : List GN) (k : Nat) : CG := fun r => andR (manyR nodeR k r) fun l r => contEc p b (ns ++ l) r
def contNc (p b : List Int) : CG := fun r => andR (numR 0 32 11 r) fun k r => contN p b [] k r
def contS (p b : List Int) (k : Nat) : CG := fun r => andR (manyR scopeR k r) fun l r => contNc (p ++ l.map Prod.fst) (b ++ l.map Prod.snd) r
def contI (p b : List Int) (ns : List GN) (k : Nat) (x : GN) (j : Nat) : CG := fun r => andR (manyR insR j r) fun l r => contN p b (ns ++ [⟨x.kind, x.scope, x.arg, x.prog ++ l⟩]) k r

theorem andR_many {α β : Type} (f : List Int → Rd α) (k : Nat) (r : List Int) (F : List α → List Int → Except Nat β) : andR (manyR f (k + 1) r) F = andR (f r) fun a r => andR (manyR f k r) fun l r => F (a :: l) r := by
  unfold andR
  rw [manyR]
  cases f r with
  | error e => rfl
  | ok x =>
    obtain ⟨a, r1⟩ := x
    simp only
    cases manyR f k r1 with
    | error e => rfl
    | ok y => rfl
theorem andR_zero {α β : Type} (f : List Int → Rd α) (r : List Int) (F : List α → List Int → Except Nat β) : andR (manyR f 0 r) F = F [] r := rfl
theorem andR_pair {α β γ : Type} (f : List Int → Rd α) (g : List Int → Rd β) (r : List Int) (F : α × β → List Int → Except Nat γ) : andR (pairR f g r) F = andR (f r) fun a r => andR (g r) fun b r => F (a, b) r := by
  unfold andR pairR
  cases f r with
  | error e => rfl
  | ok x =>
    obtain ⟨a, r1⟩ := x
    simp only
    cases g r1 with
    | error e => rfl
    | ok y => rfl
theorem andR_map {α β γ : Type} (t : α → β) (f : List Int → Rd α) (r : List Int) (F : β → List Int → Except Nat γ) : andR (mapR t f r) F = andR (f r) fun a r => F (t a) r := by
  unfold andR mapR
  cases f r with
  | error e => rfl
  | ok x => rfl
theorem andR_count {α γ : Type} (least most sub : Nat) (f : List Int → Rd α) (r : List Int) (F : List α → List Int → Except Nat γ) : andR (countR least most sub f r) F = andR (numR least most 11 r) fun n r => andR (manyR f (n - sub) r) F := by
  unfold andR countR
  cases numR least most 11 r with
  | error e => rfl
  | ok x => rfl
theorem contS_step (p b : List Int) (k : Nat) : contS p b (k + 1) = fun r => andR (numR 0 topN 2 r) fun a r => andR (numR 0 topN 2 r) fun c r => contS (p ++ [(a : Int)]) (b ++ [(c : Int)]) k r := by
  funext r
  unfold contS
  rw [andR_many]
  unfold scopeR intR
  rw [andR_pair, andR_map]
  congr 1
  funext a r
  rw [andR_map]
  simp only [List.map_cons, List.append_assoc, List.singleton_append]
theorem contS_end (p b : List Int) : contS p b 0 = contNc p b := by
  funext r
  unfold contS
  rw [andR_zero]
  simp only [List.map_nil, List.append_nil]
theorem contN_step (p b : List Int) (ns : List GN) (k : Nat) : contN p b ns (k + 1) = fun r => andR (numR 0 topN 2 r) fun a r => andR (numR 0 topN 2 r) fun c r => andR (sgnR r) fun s r => andR (numR 0 64 11 r) fun n r => contI p b ns k ⟨a, c, s, []⟩ n r := by
  funext r
  unfold contN
  rw [andR_many]
  unfold nodeR intR
  rw [andR_map, andR_pair, andR_map]
  congr 1
  funext a r
  rw [andR_pair, andR_map]
  congr 1
  funext c r
  rw [andR_pair]
  congr 1
  funext s r
  rw [andR_count]
  congr 1
  funext n r
  unfold contI
  rw [Nat.sub_zero]
  congr 1
  funext l r
  simp only [List.nil_append]
  unfold contN
  simp only [List.append_assoc, List.singleton_append]
  rfl
theorem contN_end (p b : List Int) (ns : List GN) : contN p b ns 0 = contEc p b ns := by
  funext r
  unfold contN
  rw [andR_zero, List.append_nil]
theorem contI_step (p b : List Int) (ns : List GN) (k : Nat) (x : GN) (j : Nat) : contI p b ns k x (j + 1) = fun r => andR (numR 0 topN 2 r) fun a r => andR (sgnR r) fun s r => contI p b ns k ⟨x.kind, x.scope, x.arg, x.prog ++ [⟨a, s⟩]⟩ j r := by
  funext r
  unfold contI
  rw [andR_many]
  unfold insR intR
  rw [andR_map, andR_pair, andR_map]
  congr 1
  funext a r
  congr 1
  funext s r
  simp only [List.append_assoc, List.singleton_append]
theorem contI_end (p b : List Int) (ns : List GN) (k : Nat) (x : GN) : contI p b ns k x 0 = contN p b (ns ++ [x]) k := by
  funext r
  unfold contI
  rw [andR_zero, List.append_nil]
theorem contE_step (p b : List Int) (ns : List GN) (es : List GE) (k : Nat) : contE p b ns es (k + 1) = fun r => andR (numR 0 topN 2 r) fun a r => andR (numR 0 topN 2 r) fun c r => andR (numR 0 topN 2 r) fun d r => andR (numR 0 1 4 r) fun x r => contE p b ns (es ++ [⟨a, c, d, x == 1⟩]) k r := by
  funext r
  unfold contE
  rw [andR_many]
  unfold edgeR intR
  rw [andR_map, andR_pair, andR_map]
  congr 1
  funext a r
  rw [andR_pair, andR_map]
  congr 1
  funext c r
  rw [andR_pair, andR_map]
  congr 1
  funext d r
  congr 1
  funext x r
  simp only [List.append_assoc, List.singleton_append]
theorem contE_end (p b : List Int) (ns : List GN) (es : List GE) : contE p b ns es 0 = contF ⟨p, b, ns, es⟩ := by
  funext r
  unfold contE
  rw [andR_zero, List.append_nil]
/-- behind the first bytes -/
def contSc : CG := fun r => andR (numR 1 8 11 r) fun n r => contS [-1] [0] (n - 1) r
theorem readG_is (b : List Int) : readG b = if 8192 < b.length then .error 11 else andR (headR b) fun _ r => contSc r := by
  unfold readG
  split
  · rfl
  · have h : ∀ r, (match bodyR r with | .error e => .error e | .ok (g, r) => if r = [] then .ok g else .error 4) = andR (bodyR r) fun g r => contF g r := fun r => by
      cases bodyR r with
      | error e => rfl
      | ok x => rfl
    refine (h b).trans ?_
    unfold bodyR partsR
    rw [andR_map, andR_pair]
    congr 1
    funext _ r
    rw [andR_pair, andR_count]
    unfold contSc
    congr 1
    funext n r
    unfold contS
    congr 1
    funext l r
    rw [andR_pair, andR_count]
    unfold contNc
    congr 1
    funext k r
    unfold contN
    rw [Nat.sub_zero]
    congr 1
    funext l2 r
    rw [andR_count]
    unfold contEc
    congr 1
/-- so far read: no error, and going on gives res; or an error, which is res -/
def Gd (xs : List Int) (res : Except Nat GV) (at' e : Nat) (c : CG) : Prop := at' ≤ xs.length ∧ ((e = 0 ∧ c (xs.drop at') = res) ∨ (e ≠ 0 ∧ res = .error e))
theorem Gd.bad {xs : List Int} {res : Except Nat GV} {at' e : Nat} {c : CG} (h : Gd xs res at' e c) (he : e ≠ 0) (c' : CG) : Gd xs res at' e c' := ⟨h.1, .inr ⟨he, (h.2.resolve_left (fun q => he q.1)).2⟩⟩
theorem Gd.good {xs : List Int} {res : Except Nat GV} {at' : Nat} {c : CG} (h : Gd xs res at' 0 c) : c (xs.drop at') = res := (h.2.resolve_right (fun q => q.1 rfl)).2
/-- a number is read -/
theorem Gd.num {xs : List Int} {res : Except Nat GV} {at' : Nat} {least most bad : Nat} {f : Nat → CG} (hx : okB xs) (hb : bad ≠ 0) (h : Gd xs res at' 0 (fun r => andR (numR least most bad r) f)) :
    ((readU (xs.drop at')).2.2 = 0 ∧ at' + (readU (xs.drop at')).2.1 ≤ xs.length ∧
      ((least ≤ (readU (xs.drop at')).1 ∧ (readU (xs.drop at')).1 ≤ most ∧ Gd xs res (at' + (readU (xs.drop at')).2.1) 0 (f (readU (xs.drop at')).1)) ∨
       (¬ (least ≤ (readU (xs.drop at')).1 ∧ (readU (xs.drop at')).1 ≤ most) ∧ res = .error bad))) ∨
    ((readU (xs.drop at')).2.2 ≠ 0 ∧ res = .error (readU (xs.drop at')).2.2) := by
  have hg := h.good
  have hl := h.1
  unfold andR numR at hg
  rcases read_cases (okB_drop hx at') with ⟨y, s, hr, h1, h2, h3, h4⟩ | hr | hr
  · rw [hr] at hg ⊢
    simp only [if_true] at hg ⊢
    rw [List.length_drop] at h2
    refine .inl ⟨trivial, by omega, ?_⟩
    by_cases hq : least ≤ y ∧ y ≤ most
    · rw [if_pos hq] at hg
      simp only at hg
      rw [List.drop_drop] at hg
      exact .inl ⟨hq.1, hq.2, by omega, .inl ⟨rfl, hg⟩⟩
    · rw [if_neg hq] at hg
      simp only at hg
      exact .inr ⟨hq, hg.symm⟩
  · rw [hr] at hg ⊢
    simp at hg ⊢
    exact hg.symm
  · rw [hr] at hg ⊢
    simp at hg ⊢
    exact hg.symm
theorem Gd.sgn {xs : List Int} {res : Except Nat GV} {at' : Nat} {f : Int → CG} (hx : okB xs) (h : Gd xs res at' 0 (fun r => andR (sgnR r) f)) :
    ((readU (xs.drop at')).2.2 = 0 ∧ at' + (readU (xs.drop at')).2.1 ≤ xs.length ∧ Gd xs res (at' + (readU (xs.drop at')).2.1) 0 (f (zag (readU (xs.drop at')).1))) ∨
    ((readU (xs.drop at')).2.2 ≠ 0 ∧ res = .error (readU (xs.drop at')).2.2) := by
  have hg := h.good
  have hl := h.1
  unfold andR sgnR at hg
  rcases read_cases (okB_drop hx at') with ⟨y, s, hr, h1, h2, h3, h4⟩ | hr | hr
  · rw [hr] at hg ⊢
    simp only [if_true] at hg ⊢
    rw [List.length_drop] at h2
    rw [List.drop_drop] at hg
    exact .inl ⟨trivial, by omega, by omega, .inl ⟨rfl, hg⟩⟩
  · rw [hr] at hg ⊢
    simp at hg ⊢
    exact hg.symm
  · rw [hr] at hg ⊢
    simp at hg ⊢
    exact hg.symm
end Go.Proofs.Ytdhmoiiagplbpaa
