/- plain: what the document's Check asks gives what ways ask for (Runs) -/
import Derived.Test.YtacmdkbmakfdkaaG14
import Derived.BigQuiet
import Derived.Test.YtacmdkbmakfdkaaG05
import Derived.Deep.CutRange
namespace Go.Proofs.Ytacmdkbmakfdkaa
open Go.RowKit
set_option linter.unusedVariables false
set_option linter.unusedSimpArgs false

theorem chainL_more (P : List Int) : ∀ (f : Nat) (x : Int), (chainL P (f + 1) x).length ≤ f → chainL P f x = chainL P (f + 1) x
  | 0, x, h => by
    have : chainL P (0 + 1) x = [] := List.length_eq_zero_iff.1 (Nat.le_zero.1 h)
    rw [this]; rfl
  | f + 1, x, h => by
    unfold chainL
    by_cases hx : 0 ≤ x ∧ x < (P.length : Int)
    · rw [if_pos hx, if_pos hx]
      have h2 : (chainL P (f + 1) P[x.toNat]!).length ≤ f := by
        have e : chainL P (f + 1 + 1) x = chainL P (f + 1) P[x.toNat]! ++ [x] := by
          show (if _ then _ else _) = _
          rw [if_pos hx]
        rw [e] at h
        simp only [List.length_append, List.length_singleton] at h
        omega
      rw [chainL_more P f _ h2]
    · rw [if_neg hx, if_neg hx]
/-- a scope's chain is one longer than its parent's -/
theorem chain_up {P : List Int} {s : Int} (h0 : 0 ≤ s) (h1 : s < (P.length : Int)) (hl : (chainL P 10 P[s.toNat]!).length ≤ 9) : (chainL P 10 s).length = (chainL P 10 P[s.toNat]!).length + 1 := by
  have e : chainL P 10 s = chainL P 9 P[s.toNat]! ++ [s] := by
    show (if _ then _ else _) = _
    rw [if_pos ⟨h0, h1⟩]
  rw [e, chainL_more P 9 _ hl]
  simp
theorem chain_pos {P : List Int} {s : Int} (h0 : 0 ≤ s) (h1 : s < (P.length : Int)) : 1 ≤ (chainL P 10 s).length := by
  have e : chainL P 10 s = chainL P 9 P[s.toNat]! ++ [s] := by
    show (if _ then _ else _) = _
    rw [if_pos ⟨h0, h1⟩]
  rw [e]
  simp
/-- what the document's Check asks of a graph that may run, as far as ways ask for it -/
structure May (g : GV) : Prop where
  parent : g.parent.length ≤ 8
  chain : ∀ s : Int, 0 ≤ s → s < (g.parent.length : Int) → (chainL g.parent 10 s).length ≤ 4
  up : ∀ s : Int, 0 < s → s < (g.parent.length : Int) → 0 ≤ g.parent[s.toNat]! ∧ g.parent[s.toNat]! < (g.parent.length : Int)
  nodes : g.nodes.length ≤ 32
  edges : g.edges.length ≤ 64
  scope : ∀ v, v < g.nodes.length → scopeOk g v
  inner : ∀ v, v < g.nodes.length → (g.nodes[v]!.kind = 10 ∨ g.nodes[v]!.kind = 11 ∨ g.nodes[v]!.kind = 12) → g.nodes[v]!.scope ≠ 0
  ends : ∀ i, i < g.edges.length → 0 ≤ g.edges[i]!.src ∧ g.edges[i]!.src.toNat < g.nodes.length ∧ 0 ≤ g.edges[i]!.dst ∧ g.edges[i]!.dst.toNat < g.nodes.length
  place : ∀ i, i < g.edges.length → placeG g g.edges[i]!.src.toNat true = placeG g g.edges[i]!.dst.toNat false
namespace May
variable {g : GV} (M : May g)
include M
theorem inScope (v : Nat) (hv : v < g.nodes.length) (b : Bool) : 0 ≤ placeG g v b ∧ placeG g v b < (g.parent.length : Int) := by
  have s := M.scope v hv
  unfold placeG
  split
  · rename_i h
    have hne := M.inner v hv (by rcases h with h | h; exact .inl h.1; exact .inr (.inl h.1))
    exact M.up _ (by have := s.1; unfold scopeOk at s; omega) s.2
  · exact s
theorem level (v : Nat) (hv : v < g.nodes.length) (b : Bool) : 1 ≤ levelG g v b ∧ levelG g v b ≤ 4 := by
  have p := M.inScope v hv b
  exact ⟨chain_pos p.1 p.2, M.chain _ p.1 p.2⟩
/-- at which depth an operator gives -/
theorem gives (v : Nat) (hv : v < g.nodes.length) : (levelG g v true : Int) = if g.nodes[v]!.kind = 10 then (levelG g v false : Int) + 1 else if g.nodes[v]!.kind = 11 then (levelG g v false : Int) - 1 else (levelG g v false : Int) := by
  have s := M.scope v hv
  unfold levelG
  by_cases h10 : g.nodes[v]!.kind = 10
  · have hne := M.inner v hv (.inl h10)
    have hs : 0 < g.nodes[v]!.scope := by have := s.1; omega
    have hu := M.up _ hs s.2
    have e1 : placeG g v true = g.nodes[v]!.scope := by unfold placeG; rw [if_neg (by rw [h10]; simp)]
    have e2 : placeG g v false = g.parent[g.nodes[v]!.scope.toNat]! := by unfold placeG; rw [if_pos (.inl ⟨h10, rfl⟩)]
    rw [e1, e2, if_pos h10]
    have := chain_up s.1 s.2 (Nat.le_trans (M.chain _ hu.1 hu.2) (by decide))
    omega
  · rw [if_neg h10]
    by_cases h11 : g.nodes[v]!.kind = 11
    · have hne := M.inner v hv (.inr (.inl h11))
      have hs : 0 < g.nodes[v]!.scope := by have := s.1; omega
      have hu := M.up _ hs s.2
      have e1 : placeG g v true = g.parent[g.nodes[v]!.scope.toNat]! := by unfold placeG; rw [if_pos (.inr ⟨h11, rfl⟩)]
      have e2 : placeG g v false = g.nodes[v]!.scope := by unfold placeG; rw [if_neg (by rw [h11]; simp)]
      rw [e1, e2, if_pos h11]
      have := chain_up s.1 s.2 (Nat.le_trans (M.chain _ hu.1 hu.2) (by decide))
      omega
    · rw [if_neg h11]
      have e1 : placeG g v true = g.nodes[v]!.scope := by unfold placeG; rw [if_neg (fun q => by rcases q with q | q; exact h10 q.1; exact h11 q.1)]
      have e2 : placeG g v false = g.nodes[v]!.scope := by unfold placeG; rw [if_neg (fun q => by rcases q with q | q; exact h10 q.1; exact h11 q.1)]
      rw [e1, e2]
theorem step_facts (v : Nat) (hv : v < g.nodes.length) : (stepH (levelG g v false) g.nodes[v]!.kind).rightB = true ∧ (stepH (levelG g v false) g.nodes[v]!.kind).f = (levelG g v false : Int) ∧
    (stepH (levelG g v false) g.nodes[v]!.kind).k + (stepH (levelG g v false) g.nodes[v]!.kind).t = (levelG g v true : Int) ∧
    ((levelG g v false : Int) ≤ (stepH (levelG g v false) g.nodes[v]!.kind).k ∨ (levelG g v true : Int) ≤ (stepH (levelG g v false) g.nodes[v]!.kind).k) ∧
    ∀ j : Nat, (j : Int) < 4 → (stepH (levelG g v false) g.nodes[v]!.kind).at j ≤ 1 := by
  have l1 := M.level v hv false
  have l2 := M.level v hv true
  have hg := M.gives v hv
  generalize levelG g v false = d at *
  generalize levelG g v true = e at *
  generalize g.nodes[v]!.kind = k at *
  have hd : d = 1 ∨ d = 2 ∨ d = 3 ∨ d = 4 := by omega
  have four : ∀ (x : HV), (x.at 0 ≤ 1 ∧ x.at 1 ≤ 1 ∧ x.at 2 ≤ 1 ∧ x.at 3 ≤ 1) → ∀ j : Nat, (j : Int) < 4 → x.at j ≤ 1 := fun x h j hj => by
    have : j = 0 ∨ j = 1 ∨ j = 2 ∨ j = 3 := by omega
    rcases this with rfl | rfl | rfl | rfl
    · exact h.1
    · exact h.2.1
    · exact h.2.2.1
    · exact h.2.2.2
  unfold stepH
  by_cases h10 : k = 10
  · rw [if_pos h10] at hg ⊢
    rcases hd with rfl | rfl | rfl | rfl
    all_goals first | (exfalso; omega) | skip
    all_goals exact ⟨by decide, rfl, by first | (rw [hg]; done) | (rw [hg]; rfl), .inl (by decide), four _ (by decide)⟩
  · rw [if_neg h10] at hg ⊢
    by_cases h11 : k = 11
    · rw [if_pos h11] at hg ⊢
      rcases hd with rfl | rfl | rfl | rfl
      all_goals first | (exfalso; omega) | skip
      all_goals exact ⟨by decide, rfl, by first | (rw [hg]; done) | (rw [hg]; rfl), .inr (by rw [hg]; decide), four _ (by decide)⟩
    · rw [if_neg h11] at hg ⊢
      by_cases h12 : k = 12
      · rw [if_pos h12]
        rcases hd with rfl | rfl | rfl | rfl
        all_goals exact ⟨by decide, rfl, by first | (rw [hg]; done) | (rw [hg]; rfl), .inl (by decide), four _ (by decide)⟩
      · rw [if_neg h12]
        rcases hd with rfl | rfl | rfl | rfl
        all_goals exact ⟨by decide, rfl, by first | (rw [hg]; done) | (rw [hg]; rfl), .inl (by decide), four _ (by decide)⟩
theorem runs : Runs g := by
  have hdep : ∀ i, i < g.edges.length → (levelG g g.edges[i]!.src.toNat true : Int) = depthG g g.edges[i]!.dst.toNat := fun i hi => by
    unfold depthG levelG
    rw [M.place i hi]
  have hmem : ∀ a ∈ netE g, ∃ i, i < g.edges.length ∧ a = ⟨g.edges[i]!.src.toNat, g.edges[i]!.dst.toNat, stepG g g.edges[i]!⟩ := fun a ha => by
    obtain ⟨e, he, rfl⟩ := List.mem_map.1 ha
    obtain ⟨i, hi, rfl⟩ := List.mem_iff_getElem.1 he
    exact ⟨i, hi, by rw [getElem!_pos g.edges i hi]⟩
  refine ⟨M.nodes, M.edges, M.parent, M.scope, M.ends, fun v hv => M.level v hv false, ?_, ?_, ?_, ?_, ?_, ?_⟩
  · intro a ha
    obtain ⟨i, hi, rfl⟩ := hmem a ha
    exact ⟨(M.ends i hi).2.1, (M.ends i hi).2.2.2⟩
  · intro a ha
    obtain ⟨i, hi, rfl⟩ := hmem a ha
    exact (M.step_facts _ (M.ends i hi).2.1).1
  · intro a ha
    obtain ⟨i, hi, rfl⟩ := hmem a ha
    have f := M.step_facts _ (M.ends i hi).2.1
    exact ⟨f.2.1, by rw [← hdep i hi]; exact f.2.2.1⟩
  · intro a ha
    obtain ⟨i, hi, rfl⟩ := hmem a ha
    have f := M.step_facts _ (M.ends i hi).2.1
    have := f.2.2.2.1
    rw [hdep i hi] at this
    exact this
  · intro a ha j hj
    obtain ⟨i, hi, rfl⟩ := hmem a ha
    have f := M.step_facts _ (M.ends i hi).2.1
    refine f.2.2.2.2 j ?_
    have := (M.level _ (M.ends i hi).2.2.2 false).2
    have : (j : Int) < depthG g g.edges[i]!.dst.toNat := hj
    unfold depthG at this
    omega
  · intro v hv
    have := M.level v hv false
    unfold depthG
    omega
end May
end Go.Proofs.Ytacmdkbmakfdkaa
/- the document's Ports and follows -/
namespace Go.Proofs.Ytacmdkbmakfdkaa
open Go.RowKit
set_option linter.unusedVariables false
set_option linter.unusedSimpArgs false

def portsG (k : Int) : Int := if k = 5 ∨ k = 9 then 2 else if 2 ≤ k ∧ k ≤ 15 then 1 else 0
set_option maxRecDepth 100000 in
theorem ports_ix (k : Int) (h1 : 1 ≤ k) (h2 : k ≤ 15) (W : World) : (Instr.index 103 (.agg #[.int .i64 0, .int .i64 0, .int .i64 1, .int .i64 1, .int .i64 1, .int .i64 2, .int .i64 1, .int .i64 1, .int .i64 1, .int .i64 2, .int .i64 1, .int .i64 1, .int .i64 1, .int .i64 1, .int .i64 1, .int .i64 1]) (.int .i64 k)).run Try.prog W = .ok (.int .i64 (portsG k)) W := by
  have hk : k = 1 ∨ k = 2 ∨ k = 3 ∨ k = 4 ∨ k = 5 ∨ k = 6 ∨ k = 7 ∨ k = 8 ∨ k = 9 ∨ k = 10 ∨ k = 11 ∨ k = 12 ∨ k = 13 ∨ k = 14 ∨ k = 15 := by omega
  rcases hk with rfl | rfl | rfl | rfl | rfl | rfl | rfl | rfl | rfl | rfl | rfl | rfl | rfl | rfl | rfl
  all_goals exact rfl
set_option maxRecDepth 100000 in
set_option maxHeartbeats 8000000 in
theorem rports_any (k : Int) (w : World) : Calls Try.prog 44 #[.int .i64 k] w (Ret (.int .i64 (portsG k)) w) := by
  by_cases h1 : k < 1
  · rw [show portsG k = 0 by unfold portsG; rw [if_neg (by omega), if_neg (by omega)]]
    go_enter Try.func44, Try.ntmps44
    go_wp2
    go_returns
    exact ⟨rfl, Below.refl _ _⟩
  · by_cases h2 : k > 15
    · rw [show portsG k = 0 by unfold portsG; rw [if_neg (by omega), if_neg (by omega)]]
      go_enter Try.func44, Try.ntmps44
      go_wp2
      go_returns
      exact ⟨rfl, Below.refl _ _⟩
    · have ix := ports_ix k (by omega) (by omega)
      generalize portsG k = p at *
      go_enter Try.func44, Try.ntmps44
      go_wp2
      go_returns
      exact ⟨rfl, Below.refl _ _⟩
end Go.Proofs.Ytacmdkbmakfdkaa
/- the document's follows: does an operator's scope fit behind that of the one ahead of it? -/
namespace Go.Proofs.Ytacmdkbmakfdkaa
open Go.RowKit
set_option linter.unusedVariables false
set_option linter.unusedSimpArgs false

def scopeG (g : GV) (n : Nat) : Int := g.nodes[n]!.scope
/-- the scopes around that of the operator ahead -/
def wasG (g : GV) (n : Nat) : List Int := chainL g.parent 10 (scopeG g (n - 1))
def followsG (g : GV) (n : Nat) : Bool :=
  if n = 0 then decide (scopeG g 0 = 0)
  else (wasG g n).any (fun x => decide (x = scopeG g n)) || ((wasG g n).any (fun x => decide (x = g.parent[(scopeG g n).toNat]!)) && !(List.range n).any (fun j => decide (scopeG g j = scopeG g n)))
theorem any_take {l : List Int} {k : Nat} (f : Int → Bool) (hk : k < l.length) : (l.take (k + 1)).any f = ((l.take k).any f || f l[k]!) := by
  rw [take_getA l k hk, List.any_append]
  simp
theorem any_range {k : Nat} (f : Nat → Bool) : (List.range (k + 1)).any f = ((List.range k).any f || f k) := by
  rw [List.range_succ, List.any_append]
  simp
set_option maxRecDepth 100000 in
set_option maxHeartbeats 16000000 in
theorem rfollows_any (g : GV) (v : Value) (n : Nat) (w : World) (h : IsG w v g) (hl : g.parent.length ≤ 900000) (hn : n < g.nodes.length) (hN : g.nodes.length ≤ 900000) (hs : scopeOk g n) :
    Calls Try.prog 70 #[v, .int .i64 (n : Int)] w (Ret (.bool (followsG g n)) w) := by
  have HC := Lib.hid (fun s W (hW : Below w.heap.size w W) => rchain_any g v s W (h.below hW) hl)
  obtain ⟨p1, c1, p2, c2, p3, c3, p4, c4, rfl, G⟩ := h.go
  have HG := Lib.hid G
  clear h G
  obtain ⟨s, hsn⟩ : ∃ s : Nat, scopeG g n = (s : Int) := ⟨(scopeG g n).toNat, by have := hs.1; unfold scopeG; omega⟩
  have hsl : (s : Int) < (g.parent.length : Int) := by have := hs.2; unfold scopeG at hsn; omega
  have hnl : (n : Int) < (g.nodes.length : Int) := by omega
  have HS := Lib.hid hsn
  have HNode : Hid (∀ j, j < g.nodes.length → ∃ b off, p3 = some ⟨b, off, none⟩ ∧ ∀ W, Below w.heap.size w W → W.cell? ⟨b, off + j * 4 + 1, none⟩ = some (.int .i64 (scopeG g j))) := fun j hj => by
    obtain ⟨b, off, p, c, e, _, hc⟩ := HG.out.nod j hj
    exact ⟨b, off, e, fun W hW => (hc W hW).2.1⟩
  obtain ⟨b1, off1, hp1, _⟩ := HG.out.par w (Below.refl _ _) s (by omega)
  subst hp1
  have HPar : Hid (∀ W, Below w.heap.size w W → W.cell? ⟨b1, off1 + s, none⟩ = some (.int .i64 g.parent[s]!)) := fun W hW => by
    obtain ⟨b', off', e, hc'⟩ := HG.out.par W hW s (by omega)
    simp only [Option.some.injEq, Addr.mk.injEq] at e
    obtain ⟨rfl, rfl, _⟩ := e
    exact hc'
  obtain ⟨b3, off3, hp3, _⟩ := HNode.out n hn
  subst hp3
  have HNd : Hid (∀ j, j < g.nodes.length → ∀ W, Below w.heap.size w W → W.cell? ⟨b3, off3 + j * 4 + 1, none⟩ = some (.int .i64 (scopeG g j))) := fun j hj W hW => by
    obtain ⟨b', off', e, hc'⟩ := HNode.out j hj
    simp only [Option.some.injEq, Addr.mk.injEq] at e
    obtain ⟨rfl, rfl, _⟩ := e
    exact hc' W hW
  have HF0 : Hid (n = 0 → followsG g n = decide (scopeG g n = 0)) := fun e => by subst e; rfl
  have HF1 : Hid (¬ n = 0 → followsG g n = ((wasG g n).any (fun x => decide (x = (s : Int))) || ((wasG g n).any (fun x => decide (x = g.parent[s]!)) && !(List.range n).any (fun j => decide (scopeG g j = (s : Int)))))) := fun e => by
    show followsG g n = _
    unfold followsG
    rw [if_neg e, hsn]
    rfl
  clear HG HNode hs
  generalize followsG g n = F at *
  generalize g.parent[s]! = ps at *
  generalize g.parent.length = n1 at *
  generalize g.bound.length = n2 at *
  generalize g.nodes.length = n3 at *
  generalize g.edges.length = n4 at *
  have HX0 : Hid (rowOf (w.alloc (.cells #[.slice (some ⟨b1, off1, none⟩) n1 c1, .slice p2 n2 c2, .slice (some ⟨b3, off3, none⟩) n3 c3, .slice p4 n4 c4] 26)) w.heap.size = some #[.slice (some ⟨b1, off1, none⟩) n1 c1, .slice p2 n2 c2, .slice (some ⟨b3, off3, none⟩) n3 c3, .slice p4 n4 c4]) := row_new rfl
  have HB0 := Lib.hid ((Below.refl w.heap.size w).alloc (Nat.le_refl _) (.cells #[.slice (some ⟨b1, off1, none⟩) n1 c1, .slice p2 n2 c2, .slice (some ⟨b3, off3, none⟩) n3 c3, .slice p4 n4 c4] 26))
  have e0 := HNd.out n hn _ HB0.out
  rw [hsn] at e0
  clear hsn
  by_cases h0 : n = 0
  · have hq := HF0.out h0
    rw [HS.out] at hq
    subst hq
    subst h0
    go_enter Try.func70, Try.ntmps70
    go_wp2
    go_returns
    refine ⟨ret_bool ?_, HB0.out⟩
    rw [Bool.eq_iff_iff]
    simp
  · obtain ⟨m, hm⟩ : ∃ m, n = m + 1 := ⟨n - 1, by omega⟩
    have HF2 := Lib.hid (HF1.out h0)
    have hz : ((n : Int) == 0) = false := by simp; omega
    have hwr : IntKind.i64.wrap ((n : Int) - 1) = (m : Int) := by rw [IntKind.wrap_i64]; omega
    have hmz : (m : Int) < (n3 : Int) := by omega
    clear HF0 HF1 h0
    have HW : Hid (wasG g n = chainL g.parent 10 (scopeG g m)) := by rw [hm]; rfl
    have hmn : m < n3 := by omega
    have HM := Lib.hid hm
    clear hm
    generalize wasG g n = L at *
    go_enter Try.func70, Try.ntmps70
    go_wp2_with fail
    refine gen_world (fun W2 => Hid (Below w.heap.size w W2) ∧ Hid (rowOf W2 w.heap.size = some #[.slice (some ⟨b1, off1, none⟩) n1 c1, .slice p2 n2 c2, .slice (some ⟨b3, off3, none⟩) n3 c3, .slice p4 n4 c4])) ⟨HB0, HX0⟩ ?_
    clear HB0 HX0 e0
    rintro w1 ⟨HB, HX⟩
    have HK : Hid (∀ W, Below w1.heap.size w1 W → W.cell? ⟨w.heap.size, 0, none⟩ = some (.slice (some ⟨b1, off1, none⟩) n1 c1) ∧ W.cell? ⟨w.heap.size, 1, none⟩ = some (.slice p2 n2 c2) ∧ W.cell? ⟨w.heap.size, 2, none⟩ = some (.slice (some ⟨b3, off3, none⟩) n3 c3) ∧ W.cell? ⟨w.heap.size, 3, none⟩ = some (.slice p4 n4 c4) ∧ W.cell? ⟨b3, off3 + m * 4 + 1, none⟩ = some (.int .i64 (scopeG g m))) := fun W hW => by
      have r := rowOf_below HX.out hW (rowOf_lt HX.out)
      exact ⟨rowOf_cell r 0, rowOf_cell r 1, rowOf_cell r 2, rowOf_cell r 3, HNd.out m hmn W (bstep HB.out hW HB.out.size)⟩
    have HC1 : Hid (∀ W, Below w1.heap.size w1 W → Calls Try.prog 23 #[.agg #[.slice (some ⟨b1, off1, none⟩) n1 c1, .slice p2 n2 c2, .slice (some ⟨b3, off3, none⟩) n3 c3, .slice p4 n4 c4], .int .i64 (scopeG g m)] W (RN.Made L W)) := fun W hW => by rw [HW.out]; exact HC.out _ W (bstep HB.out hW HB.out.size)
    obtain ⟨k0, k1, k2, k3, k4⟩ := HK.out w1 (Below.refl _ _)
    generalize scopeG g m = sm' at *
    go_cut [6] from 20 to 28 (fun v6 wx => Hid (Below w1.heap.size w1 wx) ∧ Hid (RN.Is wx v6 L))
    case first =>
      have hc : Below w1.heap.size w1 w1.drew := (Below.refl _ _).drew
      go_region_held_law (fun w' => w'.cell? ⟨w.heap.size, 0, none⟩ = some (.slice (some ⟨b1, off1, none⟩) n1 c1) ∧ w'.cell? ⟨w.heap.size, 1, none⟩ = some (.slice p2 n2 c2) ∧ w'.cell? ⟨w.heap.size, 2, none⟩ = some (.slice (some ⟨b3, off3, none⟩) n3 c3) ∧ w'.cell? ⟨w.heap.size, 3, none⟩ = some (.slice p4 n4 c4) ∧ w'.cell? ⟨b3, off3 + m * 4 + 1, none⟩ = some (.int .i64 sm')) (first | exact HK.out _ hc | go_keep) (first
        | (go_at_call 23; (with_reducible refine Calls.mono (HC1.out _ hc) ?_); rintro e wn ⟨vn, rfl, hO, hb⟩; have hI := hO.is; clear hO; replace hc := bcall hc hb hc.size; clear hb))
      all_goals
        try simp only [List.getElem_toArray, List.getElem_cons_succ, List.getElem_cons_zero, Act.put, List.setIfInBounds_toArray, List.set_cons_zero, List.set_cons_succ]
        go_wp2_with fail
        go_meet
        case rel => exact ⟨hc, hI⟩
    case rest =>
      obtain ⟨HB2, HI⟩ := hcut
      obtain ⟨p6, c6, hv6, ho⟩ := RowKind.Is.opened HI.out
      subst hv6
      have HL : Hid (∀ W, Below wc.heap.size wc W → ∀ j, j < L.length → ∃ b off, p6 = some ⟨b, off, none⟩ ∧ W.cell? ⟨b, off + j, none⟩ = some (.int .i64 L[j]!)) := fun W hW j hj => by
        obtain ⟨b, off, e, hb, hr⟩ := ho j hj
        exact ⟨b, off, e, atN (hr.below hW hb) j hj⟩
      have HBc := Lib.hid (HB.out.trans (HB2.out.mono HB.out.size))
      have HXc := Lib.hid (rowOf_below HX.out HB2.out (rowOf_lt HX.out))
      have hL10 : L.length ≤ 10 := by rw [HW.out]; exact chainL_len _ _ _
      have HStepS := Lib.hid (fun k (hk : k < L.length) => any_take (fun x => decide (x = (s : Int))) hk)
      have HStepP := Lib.hid (fun k (hk : k < L.length) => any_take (fun x => decide (x = ps)) hk)
      have HLs : Hid (L.take L.length = L) := List.take_length
      have HL0 : Hid (L.take 0 = []) := rfl
      generalize hll : L.length = ll at *
      have HLn := Lib.hid hll
      clear ho HI HK HC1 HC HW k0 k1 k2 k3 k4 HX hll
      go_wp2_with fail
      go_loopg [8, 7] ll (fun gg i u wr => ∃ k : Nat, k ≤ ll ∧ ll - k ≤ gg ∧ i = .int .i64 (k : Int) ∧ u = .bool ((L.take k).any (fun x => decide (x = ps))) ∧ Hid ((L.take k).any (fun x => decide (x = (s : Int))) = false) ∧ Hid (Below wc.heap.size wc wr))
      case atStart => exact ⟨0, Nat.zero_le _, by omega, rfl, rfl, rfl, Below.refl _ _⟩
      case round =>
        obtain ⟨k, hk, hg, rfl, rfl, HQ, HBr⟩ := hrel
        by_cases hlt : k < ll
        · have hlz : (k : Int) < (ll : Int) := by omega
          obtain ⟨b6, o6, rfl, e6⟩ := HL.out wr HBr.out k hlt
          have hS := HStepS.out k hlt
          have hP := HStepP.out k hlt
          rw [HQ.out, Bool.false_or] at hS
          have HEnd : Hid (decide (L[k]! = (s : Int)) = true → F = true) := fun e => by
            rw [HF2.out, Bool.or_eq_true]
            refine .inl ?_
            have hkl : k < L.length := by rw [HLn.out]; exact hlt
            exact List.any_eq_true.2 ⟨L[k]!, by rw [getElem!_pos L k hkl]; exact List.getElem_mem hkl, e⟩
          have d0 := bx_cell (rowOf_cell (rowOf_below HXc.out HBr.out (rowOf_lt HXc.out)) 0 : wr.cell? ⟨w.heap.size, 0, none⟩ = some (.slice (some ⟨b1, off1, none⟩) n1 c1))
          have d1 := bx_cell (HPar.out wr (HBc.out.trans (HBr.out.mono HBc.out.size)))
          have d2 := bx_cell e6
          generalize L[k]! = y at *
          by_cases hys : y = (s : Int)
          · have hq := HEnd.out (decide_eq_true hys)
            subst hq
            have hyb : (y == (s : Int)) = true := by simpa using hys
            clear d0 d1 d2 hS hP HEnd HF2
            go_wp2
            go_returns
            exact ⟨rfl, HBc.out.trans (HBr.out.mono HBc.out.size)⟩
          · have hyb : (y == (s : Int)) = false := by simpa using hys
            rw [decide_eq_false hys] at hS
            have HS2 := Lib.hid hS
            have HP2 := Lib.hid hP
            generalize (L.take k).any (fun x => decide (x = ps)) = u0 at *
            clear hS hP HEnd
            go_wp2_with fail
            refine wp_region_bx (by kernel_rfl) (by kernel_rfl) ?_
            cases u0
            all_goals
              repeat (first | go_big_quiet_step (fail) | quiet_step (fail))
              refine wpQuiet_nil ?_
              intro _ hw'
              obtain ⟨g9, hw''⟩ := hw'
              subst hw''
              have hb9 := g9.h
              generalize g9.w = w9 at hb9 ⊢
              clear g9
              have HB9 := Lib.hid (bstep HBr.out hb9 HBr.out.size)
              clear hb9 d0 d1 d2
              go_wp2_with fail
              go_roundg (ll - (k + 1))
              case measure => omega
              case rel => exact ⟨k + 1, by omega, by omega, by go_num, by rw [HP2.out]; simp [Bool.beq_eq_decide_eq], HS2.out, HB9.out⟩
        · have hlz : ¬ (k : Int) < (ll : Int) := by omega
          obtain rfl : ll = k := by omega
          have hS := HQ.out
          rw [HLs.out] at hS ⊢
          have hq := HF2.out
          rw [hS, Bool.false_or] at hq
          have HBw := Lib.hid (HBc.out.trans (HBr.out.mono HBc.out.size))
          have hX := rowOf_below HXc.out HBr.out (rowOf_lt HXc.out)
          have HXr := Lib.hid hX
          generalize L.any (fun x => decide (x = ps)) = u0 at *
          clear hS HQ HStepS HStepP HL HF2 HPar hX HBr HXc HBc
          cases u0
          · rw [Bool.false_and] at hq
            subst hq
            go_wp2
            go_returns
            exact ⟨rfl, HBw.out⟩
          · rw [Bool.true_and] at hq
            have HQ := Lib.hid hq
            have HRs := Lib.hid (fun k => any_range (k := k) (fun j => decide (scopeG g j = (s : Int))))
            have hnn : n ≤ 900000 := by omega
            clear hq
            obtain ⟨wo, rfl⟩ : ∃ wo : World, wo = wr := ⟨_, rfl⟩
            go_wp2_with fail
            go_loopg [9] n (fun gg i wr2 => ∃ j : Nat, j ≤ n ∧ n - j ≤ gg ∧ i = .int .i64 (j : Int) ∧ Hid ((List.range j).any (fun j => decide (scopeG g j = (s : Int))) = false) ∧ Hid (Below wo.heap.size wo wr2))
            case atStart => exact ⟨0, Nat.zero_le _, by omega, rfl, rfl, Below.refl _ _⟩
            case round =>
              obtain ⟨j, hj, hg2, rfl, HA, HBj⟩ := hrel
              by_cases hjl : j < n
              · have hjz : (j : Int) < (n : Int) := by omega
                have hjz3 : (j : Int) < (n3 : Int) := by omega
                have HBj2 := Lib.hid (HBw.out.trans (HBj.out.mono HBw.out.size))
                have e2 := HNd.out j (by omega) wr HBj2.out
                have d2 : wr.cell? ⟨w.heap.size, 2, none⟩ = some (.slice (some ⟨b3, off3, none⟩) n3 c3) := rowOf_cell (rowOf_below HXr.out HBj.out (rowOf_lt HXr.out)) 2
                have hst := HRs.out j
                rw [HA.out, Bool.false_or] at hst
                have HBad : Hid (scopeG g j = (s : Int) → F = false) := fun e => by
                  rw [HQ.out, Bool.not_eq_false', List.any_eq_true]
                  exact ⟨j, List.mem_range.2 hjl, decide_eq_true e⟩
                generalize scopeG g j = y at *
                by_cases hys : y = (s : Int)
                · have hq := HBad.out hys
                  subst hq
                  have hyb : (y == (s : Int)) = true := by simpa using hys
                  clear hst HBad HQ
                  go_wp2
                  go_returns
                  exact ⟨rfl, HBj2.out⟩
                · have hyb : (y == (s : Int)) = false := by simpa using hys
                  rw [decide_eq_false hys] at hst
                  have HA2 := Lib.hid hst
                  clear hst HBad
                  go_wp2
                  go_roundg (n - (j + 1))
                  case measure => omega
                  case rel => exact ⟨j + 1, by omega, by omega, by go_num, HA2.out, HBj.out⟩
              · have hjz : ¬ (j : Int) < (n : Int) := by omega
                obtain rfl : n = j := by omega
                have hq := HQ.out
                rw [HA.out] at hq
                have hq2 : F = true := hq
                subst hq2
                clear hq HQ HA
                go_wp2
                go_returns
                exact ⟨rfl, HBw.out.trans (HBj.out.mono HBw.out.size)⟩
end Go.Proofs.Ytacmdkbmakfdkaa
