/- plain: what the document's Check asks gives what ways ask for (Runs) -/
import Derived.Test.YtedjbklejdcknaaG20
namespace Go.Proofs.Ytedjbklejdcknaa
open Go.RowKit
set_option linter.unusedVariables false
set_option linter.unusedSimpArgs false

theorem chainL_more (P : List Int) : ∀ (f : Nat) (x : Int), (chainL P (f + 1) x).length ≤ f → chainL P f x = chainL P (f + 1) x
  | 0, x, h => by
    have : chainL P (0 + 1) x = [] := List.length_eq_zero_iff.1 (Nat.le_zero.1 h)
    rw [this]; rfl
  | f + 1, x, h => by
    unfold chainL
    by_cases hx : 0 ≤ x ∧ x < (P.length : Int)
    · rw [if_pos hx, if_pos hx]
      have h2 : (chainL P (f + 1) P[x.toNat]!).length ≤ f := by
        have e : chainL P (f + 1 + 1) x = chainL P (f + 1) P[x.toNat]! ++ [x] := by
          show (if _ then _ else _) = _
          rw [if_pos hx]
        rw [e] at h
        simp only [List.length_append, List.length_singleton] at h
        omega
      rw [chainL_more P f _ h2]
    · rw [if_neg hx, if_neg hx]
/-- a scope's chain is one longer than its parent's -/
theorem chain_up {P : List Int} {s : Int} (h0 : 0 ≤ s) (h1 : s < (P.length : Int)) (hl : (chainL P 10 P[s.toNat]!).length ≤ 9) : (chainL P 10 s).length = (chainL P 10 P[s.toNat]!).length + 1 := by
  have e : chainL P 10 s = chainL P 9 P[s.toNat]! ++ [s] := by
    show (if _ then _ else _) = _
    rw [if_pos ⟨h0, h1⟩]
  rw [e, chainL_more P 9 _ hl]
  simp
theorem chain_pos {P : List Int} {s : Int} (h0 : 0 ≤ s) (h1 : s < (P.length : Int)) : 1 ≤ (chainL P 10 s).length := by
  have e : chainL P 10 s = chainL P 9 P[s.toNat]! ++ [s] := by
    show (if _ then _ else _) = _
    rw [if_pos ⟨h0, h1⟩]
  rw [e]
  simp
/-- what the document's Check asks of a graph that may run, as far as ways ask for it -/
structure May (g : GV) : Prop where
  parent : g.parent.length ≤ 8
  chain : ∀ s : Int, 0 ≤ s → s < (g.parent.length : Int) → (chainL g.parent 10 s).length ≤ 4
  up : ∀ s : Int, 0 < s → s < (g.parent.length : Int) → 0 ≤ g.parent[s.toNat]! ∧ g.parent[s.toNat]! < (g.parent.length : Int)
  nodes : g.nodes.length ≤ 32
  edges : g.edges.length ≤ 64
  scope : ∀ v, v < g.nodes.length → scopeOk g v
  inner : ∀ v, v < g.nodes.length → (g.nodes[v]!.kind = 10 ∨ g.nodes[v]!.kind = 11 ∨ g.nodes[v]!.kind = 12) → g.nodes[v]!.scope ≠ 0
  ends : ∀ i, i < g.edges.length → 0 ≤ g.edges[i]!.src ∧ g.edges[i]!.src.toNat < g.nodes.length ∧ 0 ≤ g.edges[i]!.dst ∧ g.edges[i]!.dst.toNat < g.nodes.length
  place : ∀ i, i < g.edges.length → placeG g g.edges[i]!.src.toNat true = placeG g g.edges[i]!.dst.toNat false
namespace May
variable {g : GV} (M : May g)
include M
theorem inScope (v : Nat) (hv : v < g.nodes.length) (b : Bool) : 0 ≤ placeG g v b ∧ placeG g v b < (g.parent.length : Int) := by
  have s := M.scope v hv
  unfold placeG
  split
  · rename_i h
    have hne := M.inner v hv (by rcases h with h | h; exact .inl h.1; exact .inr (.inl h.1))
    exact M.up _ (by have := s.1; unfold scopeOk at s; omega) s.2
  · exact s
theorem level (v : Nat) (hv : v < g.nodes.length) (b : Bool) : 1 ≤ levelG g v b ∧ levelG g v b ≤ 4 := by
  have p := M.inScope v hv b
  exact ⟨chain_pos p.1 p.2, M.chain _ p.1 p.2⟩
/-- at which depth an operator gives -/
theorem gives (v : Nat) (hv : v < g.nodes.length) : (levelG g v true : Int) = if g.nodes[v]!.kind = 10 then (levelG g v false : Int) + 1 else if g.nodes[v]!.kind = 11 then (levelG g v false : Int) - 1 else (levelG g v false : Int) := by
  have s := M.scope v hv
  unfold levelG
  by_cases h10 : g.nodes[v]!.kind = 10
  · have hne := M.inner v hv (.inl h10)
    have hs : 0 < g.nodes[v]!.scope := by have := s.1; omega
    have hu := M.up _ hs s.2
    have e1 : placeG g v true = g.nodes[v]!.scope := by unfold placeG; rw [if_neg (by rw [h10]; simp)]
    have e2 : placeG g v false = g.parent[g.nodes[v]!.scope.toNat]! := by unfold placeG; rw [if_pos (.inl ⟨h10, rfl⟩)]
    rw [e1, e2, if_pos h10]
    have := chain_up s.1 s.2 (Nat.le_trans (M.chain _ hu.1 hu.2) (by decide))
    omega
  · rw [if_neg h10]
    by_cases h11 : g.nodes[v]!.kind = 11
    · have hne := M.inner v hv (.inr (.inl h11))
      have hs : 0 < g.nodes[v]!.scope := by have := s.1; omega
      have hu := M.up _ hs s.2
      have e1 : placeG g v true = g.parent[g.nodes[v]!.scope.toNat]! := by unfold placeG; rw [if_pos (.inr ⟨h11, rfl⟩)]
      have e2 : placeG g v false = g.nodes[v]!.scope := by unfold placeG; rw [if_neg (by rw [h11]; simp)]
      rw [e1, e2, if_pos h11]
      have := chain_up s.1 s.2 (Nat.le_trans (M.chain _ hu.1 hu.2) (by decide))
      omega
    · rw [if_neg h11]
      have e1 : placeG g v true = g.nodes[v]!.scope := by unfold placeG; rw [if_neg (fun q => by rcases q with q | q; exact h10 q.1; exact h11 q.1)]
      have e2 : placeG g v false = g.nodes[v]!.scope := by unfold placeG; rw [if_neg (fun q => by rcases q with q | q; exact h10 q.1; exact h11 q.1)]
      rw [e1, e2]
theorem step_facts (v : Nat) (hv : v < g.nodes.length) : (stepH (levelG g v false) g.nodes[v]!.kind).rightB = true ∧ (stepH (levelG g v false) g.nodes[v]!.kind).f = (levelG g v false : Int) ∧
    (stepH (levelG g v false) g.nodes[v]!.kind).k + (stepH (levelG g v false) g.nodes[v]!.kind).t = (levelG g v true : Int) ∧
    ((levelG g v false : Int) ≤ (stepH (levelG g v false) g.nodes[v]!.kind).k ∨ (levelG g v true : Int) ≤ (stepH (levelG g v false) g.nodes[v]!.kind).k) ∧
    ∀ j : Nat, (j : Int) < 4 → (stepH (levelG g v false) g.nodes[v]!.kind).at j ≤ 1 := by
  have l1 := M.level v hv false
  have l2 := M.level v hv true
  have hg := M.gives v hv
  generalize levelG g v false = d at *
  generalize levelG g v true = e at *
  generalize g.nodes[v]!.kind = k at *
  have hd : d = 1 ∨ d = 2 ∨ d = 3 ∨ d = 4 := by omega
  have four : ∀ (x : HV), (x.at 0 ≤ 1 ∧ x.at 1 ≤ 1 ∧ x.at 2 ≤ 1 ∧ x.at 3 ≤ 1) → ∀ j : Nat, (j : Int) < 4 → x.at j ≤ 1 := fun x h j hj => by
    have : j = 0 ∨ j = 1 ∨ j = 2 ∨ j = 3 := by omega
    rcases this with rfl | rfl | rfl | rfl
    · exact h.1
    · exact h.2.1
    · exact h.2.2.1
    · exact h.2.2.2
  unfold stepH
  by_cases h10 : k = 10
  · rw [if_pos h10] at hg ⊢
    rcases hd with rfl | rfl | rfl | rfl
    all_goals first | (exfalso; omega) | skip
    all_goals exact ⟨by decide, rfl, by first | (rw [hg]; done) | (rw [hg]; rfl), .inl (by decide), four _ (by decide)⟩
  · rw [if_neg h10] at hg ⊢
    by_cases h11 : k = 11
    · rw [if_pos h11] at hg ⊢
      rcases hd with rfl | rfl | rfl | rfl
      all_goals first | (exfalso; omega) | skip
      all_goals exact ⟨by decide, rfl, by first | (rw [hg]; done) | (rw [hg]; rfl), .inr (by rw [hg]; decide), four _ (by decide)⟩
    · rw [if_neg h11] at hg ⊢
      by_cases h12 : k = 12
      · rw [if_pos h12]
        rcases hd with rfl | rfl | rfl | rfl
        all_goals exact ⟨by decide, rfl, by first | (rw [hg]; done) | (rw [hg]; rfl), .inl (by decide), four _ (by decide)⟩
      · rw [if_neg h12]
        rcases hd with rfl | rfl | rfl | rfl
        all_goals exact ⟨by decide, rfl, by first | (rw [hg]; done) | (rw [hg]; rfl), .inl (by decide), four _ (by decide)⟩
theorem runs : Runs g := by
  have hdep : ∀ i, i < g.edges.length → (levelG g g.edges[i]!.src.toNat true : Int) = depthG g g.edges[i]!.dst.toNat := fun i hi => by
    unfold depthG levelG
    rw [M.place i hi]
  have hmem : ∀ a ∈ netE g, ∃ i, i < g.edges.length ∧ a = ⟨g.edges[i]!.src.toNat, g.edges[i]!.dst.toNat, stepG g g.edges[i]!⟩ := fun a ha => by
    obtain ⟨e, he, rfl⟩ := List.mem_map.1 ha
    obtain ⟨i, hi, rfl⟩ := List.mem_iff_getElem.1 he
    exact ⟨i, hi, by rw [getElem!_pos g.edges i hi]⟩
  refine ⟨M.nodes, M.edges, M.parent, M.scope, M.ends, fun v hv => M.level v hv false, ?_, ?_, ?_, ?_, ?_, ?_⟩
  · intro a ha
    obtain ⟨i, hi, rfl⟩ := hmem a ha
    exact ⟨(M.ends i hi).2.1, (M.ends i hi).2.2.2⟩
  · intro a ha
    obtain ⟨i, hi, rfl⟩ := hmem a ha
    exact (M.step_facts _ (M.ends i hi).2.1).1
  · intro a ha
    obtain ⟨i, hi, rfl⟩ := hmem a ha
    have f := M.step_facts _ (M.ends i hi).2.1
    exact ⟨f.2.1, by rw [← hdep i hi]; exact f.2.2.1⟩
  · intro a ha
    obtain ⟨i, hi, rfl⟩ := hmem a ha
    have f := M.step_facts _ (M.ends i hi).2.1
    have := f.2.2.2.1
    rw [hdep i hi] at this
    exact this
  · intro a ha j hj
    obtain ⟨i, hi, rfl⟩ := hmem a ha
    have f := M.step_facts _ (M.ends i hi).2.1
    refine f.2.2.2.2 j ?_
    have := (M.level _ (M.ends i hi).2.2.2 false).2
    have : (j : Int) < depthG g g.edges[i]!.dst.toNat := hj
    unfold depthG at this
    omega
  · intro v hv
    have := M.level v hv false
    unfold depthG
    omega
end May
end Go.Proofs.Ytedjbklejdcknaa
