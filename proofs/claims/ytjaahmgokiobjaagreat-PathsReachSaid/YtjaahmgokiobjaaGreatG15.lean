/- the program's small functions of valid: Ports, gathers, scopeSuits, argMayBe, programMayBe -/
import Derived.Test.YtjaahmgokiobjaaGreatG14
namespace Go.Proofs.YtjaahmgokiobjaaGreat
open Go.RowKit
set_option linter.unusedVariables false
set_option linter.unusedSimpArgs false

set_option maxRecDepth 100000 in
set_option maxHeartbeats 8000000 in
theorem pports_any (k : Int) (w : World) : Calls Tryz.prog 57 #[.int .i64 k] w (Ret (.int .i64 (portsG k)) w) := by
  by_cases h5 : k = 5
  · subst h5
    go_enter Tryz.func57, Tryz.ntmps57
    go_wp2
    go_returns
    exact ⟨rfl, by go_grown⟩
  by_cases h9 : k = 9
  · subst h9
    go_enter Tryz.func57, Tryz.ntmps57
    go_wp2
    go_returns
    exact ⟨rfl, by go_grown⟩
  have e5 : (k == 5) = false := by simpa using h5
  have e9 : (k == 9) = false := by simpa using h9
  by_cases h1 : 1 < k
  · by_cases h2 : k ≤ 15
    · rw [show portsG k = 1 by unfold portsG; rw [if_neg (by omega), if_pos (by omega)]]
      clear h5 h9
      go_enter Tryz.func57, Tryz.ntmps57
      go_wp2
      go_returns
      exact ⟨rfl, by go_grown⟩
    · rw [show portsG k = 0 by unfold portsG; rw [if_neg (by omega), if_neg (by omega)]]
      clear h5 h9
      go_enter Tryz.func57, Tryz.ntmps57
      go_wp2
      go_returns
      exact ⟨rfl, by go_grown⟩
  · rw [show portsG k = 0 by unfold portsG; rw [if_neg (by omega), if_neg (by omega)]]
    clear h5 h9
    go_enter Tryz.func57, Tryz.ntmps57
    go_wp2
    go_returns
    exact ⟨rfl, by go_grown⟩
def gathersG (k : Int) : Bool := decide (k = 6 ∨ k = 7 ∨ k = 8 ∨ k = 9 ∨ k = 14)
set_option maxRecDepth 100000 in
set_option maxHeartbeats 8000000 in
theorem pgathers_any (k : Int) (w : World) : Calls Tryz.prog 85 #[.int .i64 k] w (Ret (.bool (gathersG k)) w) := by
  by_cases hk : k = 6 ∨ k = 7 ∨ k = 8 ∨ k = 9 ∨ k = 14
  · rw [show gathersG k = true from decide_eq_true hk]
    rcases hk with rfl | rfl | rfl | rfl | rfl
    all_goals
      go_enter Tryz.func85, Tryz.ntmps85
      go_wp2
      go_returns
      exact ⟨rfl, by go_grown⟩
  · rw [show gathersG k = false from decide_eq_false hk]
    have kb6 : (k == 6) = false := by simp; omega
    have kb7 : (k == 7) = false := by simp; omega
    have kb8 : (k == 8) = false := by simp; omega
    have kb9 : (k == 9) = false := by simp; omega
    have kb14 : (k == 14) = false := by simp; omega
    clear hk
    go_enter Tryz.func85, Tryz.ntmps85
    go_wp2
    go_returns
    exact ⟨rfl, by go_grown⟩
def suitsG (k s : Int) : Bool := if k = 10 ∨ k = 11 ∨ k = 12 then decide (s ≠ 0) else if k = 1 ∨ k = 15 then decide (s = 0) else true
set_option maxRecDepth 100000 in
set_option maxHeartbeats 8000000 in
theorem psuits_any (k s a : Int) (p : Option Addr) (n c : Nat) (w : World) : Calls Tryz.prog 79 #[.agg #[.int .i64 k, .int .i64 s, .int .i64 a, .slice p n c]] w (Ret (.bool (suitsG k s)) w) := by
  have HB0 := Lib.hid ((Below.refl w.heap.size w).alloc (Nat.le_refl _) (.cells #[.int .i64 k, .int .i64 s, .int .i64 a, .slice p n c] 42))
  have two : ∀ V : Bool, Hid (V = V) := fun _ => rfl
  by_cases hk : k = 10 ∨ k = 11 ∨ k = 12
  · rw [show suitsG k s = decide (s ≠ 0) from if_pos hk]
    by_cases hs : s = 0
    · subst hs
      rcases hk with rfl | rfl | rfl
      all_goals
        go_enter Tryz.func79, Tryz.ntmps79
        go_wp2
        go_returns
        exact ⟨rfl, HB0.out⟩
    · have e0 : (s == 0) = false := by simpa using hs
      have e1 : (s != 0) = true := by simpa using hs
      rw [decide_eq_true hs]
      rcases hk with rfl | rfl | rfl
      all_goals
        go_enter Tryz.func79, Tryz.ntmps79
        go_wp2
        go_returns
        exact ⟨by simp [e0, e1], HB0.out⟩
  · by_cases hk2 : k = 1 ∨ k = 15
    · rw [show suitsG k s = decide (s = 0) from by unfold suitsG; rw [if_neg hk, if_pos hk2]]
      clear hk
      by_cases hs : s = 0
      · subst hs
        rcases hk2 with rfl | rfl
        all_goals
          go_enter Tryz.func79, Tryz.ntmps79
          go_wp2
          go_returns
          exact ⟨rfl, HB0.out⟩
      · have e0 : (s == 0) = false := by simpa using hs
        rw [decide_eq_false hs]
        rcases hk2 with rfl | rfl
        all_goals
          go_enter Tryz.func79, Tryz.ntmps79
          go_wp2
          go_returns
          exact ⟨by simp [e0], HB0.out⟩
    · rw [show suitsG k s = true from by unfold suitsG; rw [if_neg hk, if_neg hk2]]
      have kb10 : (k == 10) = false := by simp; omega
      have kb11 : (k == 11) = false := by simp; omega
      have kb12 : (k == 12) = false := by simp; omega
      have kb1 : (k == 1) = false := by simp; omega
      have kb15 : (k == 15) = false := by simp; omega
      clear hk hk2
      go_enter Tryz.func79, Tryz.ntmps79
      go_wp2
      go_returns
      exact ⟨rfl, HB0.out⟩
def argG (k a : Int) : Bool := if k = 4 then decide (1 ≤ a) else if k = 3 then true else decide (a = 0)
set_option maxRecDepth 100000 in
set_option maxHeartbeats 8000000 in
theorem pargs_any (k s a : Int) (p : Option Addr) (n c : Nat) (w : World) : Calls Tryz.prog 81 #[.agg #[.int .i64 k, .int .i64 s, .int .i64 a, .slice p n c]] w (Ret (.bool (argG k a)) w) := by
  have HB0 := Lib.hid ((Below.refl w.heap.size w).alloc (Nat.le_refl _) (.cells #[.int .i64 k, .int .i64 s, .int .i64 a, .slice p n c] 42))
  by_cases h4 : k = 4
  · subst h4
    rw [show argG 4 a = decide (1 ≤ a) from if_pos rfl]
    go_enter Tryz.func81, Tryz.ntmps81
    go_wp2
    go_returns
    exact ⟨by simp, HB0.out⟩
  · have kb4 : (k == 4) = false := by simpa using h4
    by_cases h3 : k = 3
    · subst h3
      rw [show argG 3 a = true from rfl]
      go_enter Tryz.func81, Tryz.ntmps81
      go_wp2
      go_returns
      exact ⟨rfl, HB0.out⟩
    · have kb3 : (k == 3) = false := by simpa using h3
      rw [show argG k a = decide (a = 0) from by unfold argG; rw [if_neg h4, if_neg h3]]
      clear h4 h3
      by_cases ha : a = 0
      · subst ha
        go_enter Tryz.func81, Tryz.ntmps81
        go_wp2
        go_returns
        exact ⟨rfl, HB0.out⟩
      · have e0 : (a == 0) = false := by simpa using ha
        rw [decide_eq_false ha]
        go_enter Tryz.func81, Tryz.ntmps81
        go_wp2
        go_returns
        exact ⟨by simp [e0], HB0.out⟩
def progG (k : Int) (l : List NV) : Bool := if k = 2 then rightC l else decide (l.length = 0)
set_option maxRecDepth 100000 in
set_option maxHeartbeats 8000000 in
theorem pprogM_any (k s a : Int) (p : Option Addr) (c : Nat) (l : List NV) (w : World) (hl : l.length ≤ 900000) (h : RC.Is w (.slice p l.length c) l) : Calls Tryz.prog 82 #[.agg #[.int .i64 k, .int .i64 s, .int .i64 a, .slice p l.length c]] w (Ret (.bool (progG k l)) w) := by
  have HB0 := Lib.hid ((Below.refl w.heap.size w).alloc (Nat.le_refl _) (.cells #[.int .i64 k, .int .i64 s, .int .i64 a, .slice p l.length c] 42))
  have H1 : Hid (∀ W, Below w.heap.size w W → Calls Tryz.prog 106 #[.slice p l.length c] W (Ret (.bool (rightC l)) W)) := fun W hW => pright_any l _ W hl (h.below hW)
  clear h
  by_cases h2 : k = 2
  · subst h2
    rw [show progG 2 l = rightC l from if_pos rfl]
    generalize rightC l = r at *
    generalize l.length = n at *
    go_enter Tryz.func82, Tryz.ntmps82
    go_wp2_with fail
    refine (H1.out _ HB0.out).mono ?_
    rintro e w1 ⟨rfl, hb⟩
    have HB1 := Lib.hid (bstep HB0.out hb HB0.out.size)
    clear hb
    go_wp2
    go_returns
    exact ⟨rfl, HB1.out⟩
  · have kb2 : (k == 2) = false := by simpa using h2
    rw [show progG k l = decide (l.length = 0) from if_neg h2]
    generalize l.length = n at *
    clear H1 h2
    by_cases hn : n = 0
    · subst hn
      go_enter Tryz.func82, Tryz.ntmps82
      go_wp2
      go_returns
      exact ⟨rfl, HB0.out⟩
    · have e0 : ((n : Int) == 0) = false := by simp; omega
      rw [decide_eq_false hn]
      go_enter Tryz.func82, Tryz.ntmps82
      go_wp2
      go_returns
      exact ⟨by simp [e0, hn], HB0.out⟩
end Go.Proofs.YtjaahmgokiobjaaGreat
/- the program's Depth (scopes in order up to one), around, entered, scopeFits, scopeMayBe; written by gen/mb.py -/
namespace Go.Proofs.YtjaahmgokiobjaaGreat
open Go.RowKit
set_option linter.unusedVariables false
set_option linter.unusedSimpArgs false

/-- scopes are in order up to one -/
structure TreeTo (g : GV) (s : Nat) : Prop where
  root : 0 < g.parent.length → g.parent[0]! = -1
  ahead : ∀ j : Nat, 0 < j → j ≤ s → j < g.parent.length → 0 ≤ g.parent[j]! ∧ g.parent[j]! < (j : Int)
  chain : ∀ j : Nat, j ≤ s → j < g.parent.length → (chainL g.parent 10 (j : Int)).length ≤ 9
theorem Tree.to {g : GV} (T : Tree g) (s : Nat) : TreeTo g s := ⟨T.root, fun j h0 _ hj => T.ahead j h0 hj, fun j _ hj => Nat.le_trans (T.chain j (by omega) (by omega)) (by decide)⟩
namespace TreeTo
variable {g : GV} {s : Nat}
theorem zero (T : TreeTo g s) (h : 0 < g.parent.length) : chainL g.parent 10 ((0 : Nat) : Int) = [((0 : Nat) : Int)] := by
  have hr := T.root h
  have hm : chainL g.parent 9 (-1) = [] := by unfold chainL; rw [if_neg (by omega)]
  have e : chainL g.parent 10 ((0 : Nat) : Int) = chainL g.parent 9 g.parent[((0 : Nat) : Int).toNat]! ++ [((0 : Nat) : Int)] := by
    show (if _ then _ else _) = _
    rw [if_pos ⟨by omega, by omega⟩]
  rw [e, Int.toNat_natCast, hr, hm]
  rfl
theorem succ (T : TreeTo g s) (j : Nat) (h0 : 0 < j) (hs : j ≤ s) (hj : j < g.parent.length) : ∃ q : Nat, g.parent[j]! = (q : Int) ∧ q < j ∧ chainL g.parent 10 (j : Int) = chainL g.parent 10 (q : Int) ++ [(j : Int)] := by
  have a := T.ahead j h0 hs hj
  refine ⟨(g.parent[j]!).toNat, by omega, by omega, ?_⟩
  have hq : (((g.parent[j]!).toNat : Nat) : Int) = g.parent[j]! := by omega
  have hc := T.chain (g.parent[j]!).toNat (by omega) (by omega)
  have e : chainL g.parent 10 (j : Int) = chainL g.parent 9 g.parent[(j : Int).toNat]! ++ [(j : Int)] := by
    show (if _ then _ else _) = _
    rw [if_pos ⟨by omega, by omega⟩]
  have e2 := chainL_more g.parent 9 _ hc
  rw [e, Int.toNat_natCast, ← e2, hq]
theorem le (T : TreeTo g s) : ∀ (n j : Nat), j < n → j ≤ s → j < g.parent.length → ∀ x ∈ chainL g.parent 10 (j : Int), 0 ≤ x ∧ x ≤ (j : Int)
  | 0, j, h, _, _, _, _ => absurd h (by omega)
  | n + 1, j, h, hs, hj, x, hx => by
    by_cases h0 : 0 < j
    · obtain ⟨q, _, hq, e⟩ := T.succ j h0 hs hj
      rw [e] at hx
      rcases List.mem_append.1 hx with hx | hx
      · have := le T n q (by omega) (by omega) (by omega) x hx
        omega
      · rw [List.mem_singleton] at hx; omega
    · obtain rfl : j = 0 := by omega
      rw [T.zero (by omega), List.mem_singleton] at hx
      omega
/-- is a scope around another one? -/
theorem in_up (T : TreeTo g s) (o j : Nat) (h0 : o < j) (hs : j ≤ s) (hj : j < g.parent.length) : ∃ q : Nat, g.parent[j]! = (q : Int) ∧ q < j ∧ decide ((o : Int) ∈ chainL g.parent 10 (j : Int)) = decide ((o : Int) ∈ chainL g.parent 10 (q : Int)) := by
  obtain ⟨q, h1, h2, e⟩ := T.succ j (by omega) hs hj
  refine ⟨q, h1, h2, ?_⟩
  rw [decide_eq_decide, e, List.mem_append, List.mem_singleton]
  exact ⟨fun h => h.resolve_right (by omega), .inl⟩
theorem in_end (T : TreeTo g s) (o j : Nat) (h0 : j ≤ o) (hs : j ≤ s) (hj : j < g.parent.length) : decide ((o : Int) ∈ chainL g.parent 10 (j : Int)) = decide ((j : Int) = (o : Int)) := by
  rw [decide_eq_decide]
  constructor
  · intro h
    have := T.le (j + 1) j (by omega) hs hj _ h
    omega
  · intro h
    by_cases hz : 0 < j
    · obtain ⟨q, _, _, e⟩ := T.succ j hz hs hj
      rw [e, ← h]
      simp
    · obtain rfl : j = 0 := by omega
      rw [T.zero (by omega), ← h]
      simp
theorem first_in (T : TreeTo g s) : ∀ (n j : Nat), j < n → j ≤ s → j < g.parent.length → (0 : Int) ∈ chainL g.parent 10 (j : Int)
  | 0, j, h, _, _ => absurd h (by omega)
  | n + 1, j, h, hs, hj => by
    by_cases h0 : 0 < j
    · obtain ⟨q, _, hq, e⟩ := T.succ j h0 hs hj
      rw [e]
      exact List.mem_append_left _ (first_in T n q (by omega) (by omega) (by omega))
    · obtain rfl : j = 0 := by omega
      rw [T.zero (by omega)]
      simp
end TreeTo
set_option maxRecDepth 100000 in
set_option maxHeartbeats 8000000 in
theorem pdepth_to (g : GV) (v : Value) (s : Nat) (w : World) (h : IsG w v g) (T : TreeTo g s) (hs : s < g.parent.length) (hl : g.parent.length ≤ 900000) :
    Calls Tryz.prog 60 #[v, .int .i64 (s : Int)] w (Ret (.int .i64 ((chainL g.parent 10 s).length : Int)) w) := by
  obtain ⟨p1, c1, p2, c2, p3, c3, p4, c4, rfl, G⟩ := h.go
  clear h
  have HP : Hid (∀ W, Below w.heap.size w W → ∀ j, j < g.parent.length → ∃ b off, p1 = some ⟨b, off, none⟩ ∧ W.cell? ⟨b, off + j, none⟩ = some (.int .i64 g.parent[j]!)) := fun W hW j hj => G.par W hW j hj
  have HU : Hid (∀ j : Nat, 0 < j → j ≤ s → j < g.parent.length → ∃ q : Nat, g.parent[j]! = (q : Int) ∧ q < j ∧ (chainL g.parent 10 j).length = (chainL g.parent 10 q).length + 1) := fun j h0 hjs hj => by
    obtain ⟨q, h1, h2, e⟩ := T.succ j h0 hjs hj
    exact ⟨q, h1, h2, by rw [e]; simp⟩
  have H0 : Hid ((chainL g.parent 10 ((0 : Nat) : Int)).length = 1) := by rw [Hid, T.zero (by omega)]; rfl
  have hL9 := T.chain s (Nat.le_refl _) hs
  clear G T
  have hsl : (s : Int) < (g.parent.length : Int) := by omega
  generalize hL : (chainL g.parent 10 (s : Int)).length = L at *
  have HL := Lib.hid hL
  clear hL
  generalize hn1 : g.parent.length = n1 at *
  generalize g.bound.length = n2 at *
  generalize g.nodes.length = n3 at *
  generalize g.edges.length = n4 at *
  clear hn1
  have HB0 := Lib.hid ((Below.refl w.heap.size w).alloc (Nat.le_refl _) (.cells #[.slice p1 n1 c1, .slice p2 n2 c2, .slice p3 n3 c3, .slice p4 n4 c4] 26))
  have HX0 : Hid (rowOf (w.alloc (.cells #[.slice p1 n1 c1, .slice p2 n2 c2, .slice p3 n3 c3, .slice p4 n4 c4] 26)) w.heap.size = some #[.slice p1 n1 c1, .slice p2 n2 c2, .slice p3 n3 c3, .slice p4 n4 c4]) := row_new rfl
  have x1 : decide ((s : Int) < 0) = false := decide_eq_false (by omega)
  have x2 : decide (n1 ≤ s) = false := decide_eq_false (by omega)
  go_enter Tryz.func60, Tryz.ntmps60
  go_wp2
  go_loopg [1, 5] s (fun gg sv dv wr => ∃ t d : Nat, t ≤ gg ∧ t ≤ s ∧ t < n1 ∧ sv = .int .i64 (t : Int) ∧ dv = .int .i64 (d : Int) ∧ Hid (d + (chainL g.parent 10 (t : Int)).length = L + 1) ∧ Hid (Below w.heap.size w wr) ∧ Hid (rowOf wr w.heap.size = some #[.slice p1 n1 c1, .slice p2 n2 c2, .slice p3 n3 c3, .slice p4 n4 c4]))
  case atStart => exact ⟨s, 1, Nat.le_refl _, Nat.le_refl _, hs, rfl, rfl, by rw [Hid, HL.out]; omega, HB0.out, HX0.out⟩
  case round =>
    obtain ⟨t, d, hg, hts, htn, rfl, rfl, HD, HB, HX⟩ := hrel
    have d0 : wr.cell? ⟨w.heap.size, 0, none⟩ = some (.slice p1 n1 c1) := rowOf_cell HX.out 0
    by_cases ht : 0 < t
    · obtain ⟨q, hq, hqt, hch⟩ := HU.out t ht hts htn
      obtain ⟨b, off, rfl, hc⟩ := HP.out wr HB.out t htn
      rw [hq] at hc
      have htz : (t : Int) > 0 := by omega
      have htl : (t : Int) < (n1 : Int) := by omega
      have hqz : (q : Int) < (t : Int) := by omega
      have HD2 : Hid (d + 1 + (chainL g.parent 10 (q : Int)).length = L + 1) := by have := HD.out; rw [hch] at this; rw [Hid]; omega
      have hd4 : d ≤ 10 := by have := HD2.out; omega
      clear hq hch HD HU HP
      go_wp2
      go_roundg q
      case measure => omega
      case rel => exact ⟨q, d + 1, Nat.le_refl _, by omega, by omega, rfl, by go_num, HD2.out, HB.out, HX.out⟩
    · obtain rfl : t = 0 := by omega
      have htz : ¬ ((0 : Nat) : Int) > 0 := by omega
      have hdl : d = L := by have := HD.out; rw [H0.out] at this; omega
      subst hdl
      clear HD HU HP
      go_wp2
      go_returns
      exact ⟨rfl, HB.out⟩
set_option maxRecDepth 100000 in
set_option maxHeartbeats 8000000 in
theorem paround_any (g : GV) (v : Value) (o i : Nat) (w : World) (h : IsG w v g) (T : TreeTo g i) (hi : i < g.parent.length) (hl : g.parent.length ≤ 900000) :
    Calls Tryz.prog 104 #[v, .int .i64 (o : Int), .int .i64 (i : Int)] w (Ret (.bool (decide ((o : Int) ∈ chainL g.parent 10 (i : Int)))) w) := by
  obtain ⟨p1, c1, p2, c2, p3, c3, p4, c4, rfl, G⟩ := h.go
  clear h
  have HP : Hid (∀ W, Below w.heap.size w W → ∀ j, j < g.parent.length → ∃ b off, p1 = some ⟨b, off, none⟩ ∧ W.cell? ⟨b, off + j, none⟩ = some (.int .i64 g.parent[j]!)) := fun W hW j hj => G.par W hW j hj
  have HU : Hid (∀ j : Nat, o < j → j ≤ i → ∃ q : Nat, g.parent[j]! = (q : Int) ∧ q < j ∧ decide ((o : Int) ∈ chainL g.parent 10 (j : Int)) = decide ((o : Int) ∈ chainL g.parent 10 (q : Int))) := fun j h0 hj => T.in_up o j h0 hj (by omega)
  have HE : Hid (∀ j : Nat, j ≤ o → j ≤ i → decide ((o : Int) ∈ chainL g.parent 10 (j : Int)) = decide ((j : Int) = (o : Int))) := fun j h0 hj => T.in_end o j h0 hj (by omega)
  clear G T
  generalize hV : decide ((o : Int) ∈ chainL g.parent 10 (i : Int)) = V
  have HV := Lib.hid hV
  clear hV
  generalize hn1 : g.parent.length = n1 at *
  generalize g.bound.length = n2 at *
  generalize g.nodes.length = n3 at *
  generalize g.edges.length = n4 at *
  clear hn1
  have HB0 := Lib.hid ((Below.refl w.heap.size w).alloc (Nat.le_refl _) (.cells #[.slice p1 n1 c1, .slice p2 n2 c2, .slice p3 n3 c3, .slice p4 n4 c4] 26))
  have HX0 : Hid (rowOf (w.alloc (.cells #[.slice p1 n1 c1, .slice p2 n2 c2, .slice p3 n3 c3, .slice p4 n4 c4] 26)) w.heap.size = some #[.slice p1 n1 c1, .slice p2 n2 c2, .slice p3 n3 c3, .slice p4 n4 c4]) := row_new rfl
  go_enter Tryz.func104, Tryz.ntmps104
  go_wp2
  go_loopg [2] i (fun gg iv wr => ∃ t : Nat, t ≤ gg ∧ t ≤ i ∧ t < n1 ∧ iv = .int .i64 (t : Int) ∧ Hid (decide ((o : Int) ∈ chainL g.parent 10 (t : Int)) = V) ∧ Hid (Below w.heap.size w wr) ∧ Hid (rowOf wr w.heap.size = some #[.slice p1 n1 c1, .slice p2 n2 c2, .slice p3 n3 c3, .slice p4 n4 c4]))
  case atStart => exact ⟨i, Nat.le_refl _, Nat.le_refl _, hi, rfl, HV.out, HB0.out, HX0.out⟩
  case round =>
    obtain ⟨t, hg, hti, htn, rfl, HD, HB, HX⟩ := hrel
    have d0 : wr.cell? ⟨w.heap.size, 0, none⟩ = some (.slice p1 n1 c1) := rowOf_cell HX.out 0
    by_cases ht : o < t
    · obtain ⟨q, hq, hqt, hch⟩ := HU.out t ht hti
      obtain ⟨b, off, rfl, hc⟩ := HP.out wr HB.out t htn
      rw [hq] at hc
      have htz : (t : Int) > (o : Int) := by omega
      have htl : (t : Int) < (n1 : Int) := by omega
      have HD2 : Hid (decide ((o : Int) ∈ chainL g.parent 10 (q : Int)) = V) := by rw [Hid, ← hch]; exact HD.out
      clear hq hch HD HU HP HE HV
      go_wp2
      go_roundg q
      case measure => omega
      case rel => exact ⟨q, Nat.le_refl _, by omega, by omega, rfl, HD2.out, HB.out, HX.out⟩
    · have htz : ¬ (t : Int) > (o : Int) := by omega
      have hq := HE.out t (by omega) hti
      rw [HD.out] at hq
      clear HD HU HP HE HV
      by_cases hto : (t : Int) = (o : Int)
      · obtain rfl : t = o := by omega
        rw [decide_eq_true rfl] at hq
        subst hq
        go_wp2
        go_returns
        exact ⟨by simp, HB.out⟩
      · have tb : ((t : Int) == (o : Int)) = false := by simpa using hto
        rw [decide_eq_false hto] at hq
        subst hq
        clear hto
        go_wp2
        go_returns
        exact ⟨by first | rfl | simp [tb], HB.out⟩
/-- there is room for all nodes and all edges -/
def capsG (v : Value) : Prop := ∃ p1 n1 c1 p2 n2 c2 p3 n3 c3 p4 n4 c4, v = .agg #[.slice p1 n1 c1, .slice p2 n2 c2, .slice p3 n3 c3, .slice p4 n4 c4] ∧ n3 ≤ c3 ∧ n4 ≤ c4
theorem capsG.get {p1 p2 p3 p4 : Option Addr} {n1 c1 n2 c2 n3 c3 n4 c4 : Nat} (h : capsG (.agg #[.slice p1 n1 c1, .slice p2 n2 c2, .slice p3 n3 c3, .slice p4 n4 c4])) : n3 ≤ c3 ∧ n4 ≤ c4 := by
  obtain ⟨_, _, _, _, _, _, _, _, _, _, _, _, e, h3, h4⟩ := h
  simp only [Value.agg.injEq, Array.mk.injEq, List.cons.injEq, Value.slice.injEq] at e
  omega
/-- is an operator ahead of this one in its scope? -/
def enteredG (g : GV) (n : Nat) : Bool := (List.range n).any fun j => decide (scopeG g j = scopeG g n)
set_option maxRecDepth 100000 in
set_option maxHeartbeats 8000000 in
theorem pentered_any (g : GV) (v : Value) (i : Nat) (w : World) (h : IsG w v g) (hcap : capsG v) (hi : i < g.nodes.length) (hl : g.nodes.length ≤ 900000) :
    Calls Tryz.prog 105 #[v, .int .i64 (i : Int)] w (Ret (.bool (enteredG g i)) w) := by
  obtain ⟨p1, c1, p2, c2, p3, c3, p4, c4, rfl, G⟩ := h.go
  clear h
  have hc3 : g.nodes.length ≤ c3 := hcap.get.1
  clear hcap
  obtain ⟨b3, off3, q0, m0, rfl, _, _⟩ := G.nod i hi
  have HN : Hid (∀ j, j < g.nodes.length → ∃ k s a q m c, Hid (s = scopeG g j) ∧ ∀ W, Below w.heap.size w W → W.cell? ⟨b3, off3 + j * 4, none⟩ = some (.int .i64 k) ∧ W.cell? ⟨b3, off3 + j * 4 + 1, none⟩ = some (.int .i64 s) ∧ W.cell? ⟨b3, off3 + j * 4 + 2, none⟩ = some (.int .i64 a) ∧ W.cell? ⟨b3, off3 + j * 4 + 3, none⟩ = some (.slice q m c)) := fun j hj => by
    obtain ⟨b', off', p, c, e, _, hc⟩ := G.nod j hj
    simp only [Option.some.injEq, Addr.mk.injEq] at e
    obtain ⟨rfl, rfl, _⟩ := e
    exact ⟨_, _, _, _, _, _, rfl, hc⟩
  clear G
  have HRs := Lib.hid (fun k => any_range (k := k) (fun j => decide (scopeG g j = scopeG g i)))
  generalize hV : enteredG g i = V
  have HV := Lib.hid hV
  clear hV
  have hil : (i : Int) ≤ (c3 : Int) := by omega
  have hiz : (i : Int) < (g.nodes.length : Int) := by omega
  generalize g.parent.length = n1 at *
  generalize g.bound.length = n2 at *
  generalize g.nodes.length = n3 at *
  generalize g.edges.length = n4 at *
  have HB0 := Lib.hid ((Below.refl w.heap.size w).alloc (Nat.le_refl _) (.cells #[.slice p1 n1 c1, .slice p2 n2 c2, .slice (some ⟨b3, off3, none⟩) n3 c3, .slice p4 n4 c4] 26))
  have HX0 : Hid (rowOf (w.alloc (.cells #[.slice p1 n1 c1, .slice p2 n2 c2, .slice (some ⟨b3, off3, none⟩) n3 c3, .slice p4 n4 c4] 26)) w.heap.size = some #[.slice p1 n1 c1, .slice p2 n2 c2, .slice (some ⟨b3, off3, none⟩) n3 c3, .slice p4 n4 c4]) := row_new rfl
  obtain ⟨ki, si, ai, qi, mi, ci, Hsi, Hci⟩ := HN.out i hi
  have HCi := Lib.hid Hci
  clear Hci
  go_enter Tryz.func105, Tryz.ntmps105
  go_wp2
  go_loopg [12] i (fun gg iv wr => ∃ j : Nat, j ≤ i ∧ i - j ≤ gg ∧ iv = .int .i64 (j : Int) ∧ Hid ((List.range j).any (fun j => decide (scopeG g j = scopeG g i)) = false) ∧ Hid (Below w.heap.size w wr) ∧ Hid (rowOf wr w.heap.size = some #[.slice p1 n1 c1, .slice p2 n2 c2, .slice (some ⟨b3, off3, none⟩) n3 c3, .slice p4 n4 c4]))
  case atStart => exact ⟨0, Nat.zero_le _, by omega, rfl, rfl, HB0.out, HX0.out⟩
  case round =>
    obtain ⟨j, hji, hg, rfl, HD, HB, HX⟩ := hrel
    by_cases hlt : j < i
    · have hlz : (j : Int) < (i : Int) := by omega
      obtain ⟨k, s, a, q, m, c, Hs, hc⟩ := HN.out j (by omega)
      obtain ⟨e0, e1, e2, e3⟩ := hc wr HB.out
      have HB2 : Hid (Below w.heap.size w (wr.alloc (.cells #[.int .i64 k, .int .i64 s, .int .i64 a, .slice q m c] 42))) := HB.out.alloc HB.out.size _
      have HX2 : Hid (rowOf (wr.alloc (.cells #[.int .i64 k, .int .i64 s, .int .i64 a, .slice q m c] 42)) w.heap.size = some #[.slice p1 n1 c1, .slice p2 n2 c2, .slice (some ⟨b3, off3, none⟩) n3 c3, .slice p4 n4 c4]) := row_old HX.out
      have HY2 : Hid (rowOf (wr.alloc (.cells #[.int .i64 k, .int .i64 s, .int .i64 a, .slice q m c] 42)) wr.heap.size = some #[.int .i64 k, .int .i64 s, .int .i64 a, .slice q m c]) := row_new rfl
      clear hc HX HB
      go_upto_region 4 with (fail)
      refine gen_world (fun W2 => Hid (Below w.heap.size w W2) ∧ Hid (rowOf W2 w.heap.size = some #[.slice p1 n1 c1, .slice p2 n2 c2, .slice (some ⟨b3, off3, none⟩) n3 c3, .slice p4 n4 c4]) ∧ Hid (rowOf W2 wr.heap.size = some #[.int .i64 k, .int .i64 s, .int .i64 a, .slice q m c])) ⟨HB2, HX2, HY2⟩ ?_
      clear HB2 HX2 HY2 e0 e1 e2 e3
      rintro w2 ⟨HB, HX, HY⟩
      generalize wr.heap.size = bn at *
      clear wr
      have y1 := bx_cell (rowOf_cell HY.out 1 : _ = some (Value.int .i64 s))
      have y2 := bx_cell (rowOf_cell HX.out 2 : _ = some (Value.slice (some ⟨b3, off3, none⟩) n3 c3))
      have y3 := bx_cell (HCi.out _ HB.out).2.1
      have hst : (List.range (j + 1)).any (fun j => decide (scopeG g j = scopeG g i)) = decide (s = si) := by rw [HRs.out j, HD.out, Bool.false_or, Hs.out, Hsi.out]
      by_cases hs : s = si
      · have sb : (s == si) = true := by simpa using hs
        have hq : V = true := by
          rw [← HV.out]
          unfold enteredG
          rw [List.any_eq_true]
          exact ⟨j, List.mem_range.2 hlt, decide_eq_true (by rw [← Hs.out, ← Hsi.out]; exact hs)⟩
        subst hq
        clear hst HRs HD hs HN HCi
        refine wp_region_bx (by kernel_rfl) (by kernel_rfl) ?_
        repeat (first | go_big_quiet_step (fail) | quiet_step (fail))
        refine wpQuiet_nil ?_
        intro _ hw'
        obtain ⟨g9, hw''⟩ := hw'
        subst hw''
        have hb9 := g9.h
        generalize g9.w = w3 at hb9 ⊢
        clear g9
        have HB3 := Lib.hid (bstep HB.out hb9 HB.out.size)
        clear hb9 y1 y2 y3
        go_wp2
        go_returns
        exact ⟨rfl, HB3.out⟩
      · have sb : (s == si) = false := by simpa using hs
        have HD2 : Hid ((List.range (j + 1)).any (fun j => decide (scopeG g j = scopeG g i)) = false) := by rw [Hid, hst, decide_eq_false hs]
        clear hst HRs HD hs HN HCi
        refine wp_region_bx (by kernel_rfl) (by kernel_rfl) ?_
        repeat (first | go_big_quiet_step (fail) | quiet_step (fail))
        refine wpQuiet_nil ?_
        intro _ hw'
        obtain ⟨g9, hw''⟩ := hw'
        subst hw''
        have hb9 := g9.h
        generalize g9.w = w3 at hb9 ⊢
        clear g9
        have HB3 := Lib.hid (bstep HB.out hb9 HB.out.size)
        have HX3 := Lib.hid (rowOf_below HX.out hb9 (rowOf_lt HX.out))
        clear hb9 y1 y2 y3
        go_wp2
        go_roundg (i - (j + 1))
        case measure => omega
        case rel => exact ⟨j + 1, by omega, by omega, by go_num, HD2.out, HB3.out, HX3.out⟩
    · have hlz : ¬ (j : Int) < (i : Int) := by omega
      obtain rfl : i = j := by omega
      have hq : V = false := by rw [← HV.out]; exact HD.out
      subst hq
      clear HD HRs HN HCi
      go_wp2
      go_returns
      exact ⟨rfl, HB.out⟩
end Go.Proofs.YtjaahmgokiobjaaGreat
