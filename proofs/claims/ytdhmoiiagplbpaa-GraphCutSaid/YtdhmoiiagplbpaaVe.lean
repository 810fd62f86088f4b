/- the document's Short -/
import Derived.Test.YtdhmoiiagplbpaaVd
import Derived.Test.YtdhmoiiagplbpaaBoxG
import Derived.Test.YtdhmoiiagplbpaaRowKeep
namespace Go.Proofs.Ytdhmoiiagplbpaa
open Go.RowKit
set_option linter.unusedVariables false
set_option linter.unusedSimpArgs false

theorem isN.len {w : World} {x : NW} {g : GN} (h : isN w x g) : x.n = g.prog.length := by
  obtain ⟨p, c, e⟩ := h.2.2.2.slice
  simp only [Value.slice.injEq] at e
  exact e.2.1
def shortL (ns : List GN) : Bool := ns.all fun x => decide (x.prog.length ≤ 100)
def shortG (g : GV) : Bool := decide (g.parent.length ≤ 20) && (decide (g.bound.length ≤ 20) && (decide (g.nodes.length ≤ 60) && (decide (g.edges.length ≤ 100) && shortL g.nodes)))
theorem all_dropA {α : Type} [Inhabited α] (f : α → Bool) {p : List α} {k : Nat} (h : k < p.length) : (p.drop k).all f = (f p[k]! && (p.drop (k + 1)).all f) := by
  rw [List.drop_eq_getElem_cons h, List.all_cons, getElem!_pos p k h]
theorem shortG_iff (g : GV) : shortG g = true ↔ g.parent.length ≤ 20 ∧ g.bound.length ≤ 20 ∧ g.nodes.length ≤ 60 ∧ g.edges.length ≤ 100 ∧ ∀ x ∈ g.nodes, x.prog.length ≤ 100 := by
  unfold shortG shortL
  simp only [Bool.and_eq_true, decide_eq_true_eq, List.all_eq_true]
set_option maxRecDepth 100000 in
set_option maxHeartbeats 8000000 in
theorem rshort_any (g : GV) (v : Value) (w : World) (h : IsG w v g) : Calls Try.prog 8 #[v] w (Ret (.bool (shortG g)) w) := by
  obtain ⟨pv, bv, nv, ev, rfl, h1, h2, ⟨xs, h3, h3n, h3a⟩, h4⟩ := h
  obtain ⟨p1, c1, rfl⟩ := h1.slice
  obtain ⟨p2, c2, rfl⟩ := h2.slice
  obtain ⟨p4, c4, rfl⟩ := h4.slice
  have h3' := h3
  obtain ⟨p3, c3, rfl, hop⟩ := h3.opened
  clear h1 h2 h4 h3
  have hrow : Hid (∀ (W : World), Below w.heap.size w W → ∀ j, j < g.nodes.length → ∃ b off, p3 = some ⟨b, off, none⟩ ∧ ∃ p' c', W.cell? ⟨b, off + j * 4 + 3, none⟩ = some (.slice p' g.nodes[j]!.prog.length c')) := fun W hW j hj => by
    obtain ⟨b, off, e, hb, hr⟩ := hop j (by omega)
    have := (atW (hr.below hW hb) j (by omega)).2.2.2
    rw [(h3a j hj).len] at this
    exact ⟨b, off, e, _, _, this⟩
  have HStep := Lib.hid (fun j (hj : j < g.nodes.length) => all_dropA (fun x : GN => decide (x.prog.length ≤ 100)) hj)
  have hst : (g.nodes.drop 0).all (fun x : GN => decide (x.prog.length ≤ 100)) = shortL g.nodes := rfl
  have hend : (g.nodes.drop g.nodes.length).all (fun x : GN => decide (x.prog.length ≤ 100)) = true := by rw [List.drop_length]; rfl
  have HSt := Lib.hid hst; have HEnd := Lib.hid hend
  have HB0 := Lib.hid ((Below.refl w.heap.size w).alloc (Nat.le_refl _) (.cells #[.slice p1 g.parent.length c1, .slice p2 g.bound.length c2, .slice p3 xs.length c3, .slice p4 g.edges.length c4] 26))
  have HX : Hid (rowOf (w.alloc (.cells #[.slice p1 g.parent.length c1, .slice p2 g.bound.length c2, .slice p3 xs.length c3, .slice p4 g.edges.length c4] 26)) w.heap.size = some #[.slice p1 g.parent.length c1, .slice p2 g.bound.length c2, .slice p3 xs.length c3, .slice p4 g.edges.length c4]) := rowOf_alloc_at _ _ _ rfl
  unfold shortG
  rw [h3n] at HB0 HX ⊢
  clear h3' h3a hst hend h3n hop
  generalize hL : shortL g.nodes = res at *
  generalize hN : g.nodes.length = n3 at *
  have HN := Lib.hid hN
  clear hN hL
  generalize g.parent.length = n1 at *
  generalize g.bound.length = n2 at *
  generalize g.edges.length = n4 at *
  by_cases a1 : n1 ≤ 20
  · rw [decide_eq_true a1, Bool.true_and]
    have b1 : (n1 : Int) ≤ 20 := by omega
    clear a1
    by_cases a2 : n2 ≤ 20
    · rw [decide_eq_true a2, Bool.true_and]
      have b2 : (n2 : Int) ≤ 20 := by omega
      clear a2
      by_cases a3 : n3 ≤ 60
      · rw [decide_eq_true a3, Bool.true_and]
        have b3 : (n3 : Int) ≤ 60 := by omega
        by_cases a4 : n4 ≤ 100
        · rw [decide_eq_true a4, Bool.true_and]
          have b4 : (n4 : Int) ≤ 100 := by omega
          clear a4
          go_enter Try.func8, Try.ntmps8
          go_wp2
          go_loopg [3] n3 (fun gg i wr => ∃ k : Nat, k ≤ n3 ∧ n3 - k ≤ gg ∧ i = .int .i64 k ∧ Hid (Below w.heap.size w wr) ∧ Hid (rowOf wr w.heap.size = some #[.slice p1 n1 c1, .slice p2 n2 c2, .slice p3 n3 c3, .slice p4 n4 c4]) ∧ Hid ((g.nodes.drop k).all (fun x : GN => decide (x.prog.length ≤ 100)) = res))
          case atStart => exact ⟨0, Nat.zero_le _, by omega, rfl, HB0.out, HX.out, HSt.out⟩
          case round =>
            obtain ⟨k, hkn, hg, rfl, HB, HX1, HQ⟩ := hrel
            have d2 : wr.cell? ⟨w.heap.size, 2, none⟩ = some (.slice p3 n3 c3) := rowOf_cell HX1.out 2
            by_cases hlt : k < n3
            · have hlz : (k : Int) < (n3 : Int) := by omega
              have hq := HQ.out
              rw [HStep.out k hlt] at hq
              obtain ⟨b, off, rfl, p', c', hc⟩ := hrow.out wr HB.out k hlt
              generalize g.nodes[k]!.prog.length = m at hc hq
              clear hrow HStep HQ
              by_cases hm : m ≤ 100
              · rw [decide_eq_true hm, Bool.true_and] at hq
                have HQ2 := Lib.hid hq
                have hmz : ¬ (m : Int) > 100 := by omega
                clear hq
                go_wp2
                go_roundg (n3 - (k + 1))
                case measure => omega
                case rel => exact ⟨k + 1, by omega, by omega, by go_num, HB.out, HX1.out, HQ2.out⟩
              · rw [decide_eq_false hm, Bool.false_and] at hq
                subst hq
                have hmz : (m : Int) > 100 := by omega
                go_wp2
                go_returns
                exact ⟨rfl, HB.out⟩
            · have hlz : ¬ (k : Int) < (n3 : Int) := by omega
              obtain rfl : k = n3 := by omega
              have hq := HQ.out
              rw [HEnd.out] at hq
              subst hq
              clear hrow HStep HQ
              go_wp2
              go_returns
              exact ⟨rfl, HB.out⟩
        · rw [decide_eq_false a4, Bool.false_and]
          have b4 : ¬ (n4 : Int) ≤ 100 := by omega
          clear a3 a4 hrow HStep
          go_enter Try.func8, Try.ntmps8
          go_wp2
          go_returns
          exact ⟨rfl, HB0.out⟩
      · rw [decide_eq_false a3, Bool.false_and]
        have b3 : ¬ (n3 : Int) ≤ 60 := by omega
        clear a3 hrow HStep
        go_enter Try.func8, Try.ntmps8
        go_wp2
        go_returns
        exact ⟨rfl, HB0.out⟩
    · rw [decide_eq_false a2, Bool.false_and]
      have b2 : ¬ (n2 : Int) ≤ 20 := by omega
      clear a2 hrow HStep
      go_enter Try.func8, Try.ntmps8
      go_wp2
      go_returns
      exact ⟨rfl, HB0.out⟩
  · rw [decide_eq_false a1, Bool.false_and]
    have b1 : ¬ (n1 : Int) ≤ 20 := by omega
    clear a1 hrow HStep
    go_enter Try.func8, Try.ntmps8
    go_wp2
    go_returns
    exact ⟨rfl, HB0.out⟩
end Go.Proofs.Ytdhmoiiagplbpaa
