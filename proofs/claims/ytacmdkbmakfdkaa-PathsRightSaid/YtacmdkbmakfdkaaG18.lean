/- the program's Depth (scopes in order up to one), around, entered, scopeFits, scopeMayBe; written by gen/mb.py -/
import Derived.Test.YtacmdkbmakfdkaaG17
import Derived.Test.YtacmdkbmakfdkaaG01
import Derived.Deep.Slices
namespace Go.Proofs.Ytacmdkbmakfdkaa
open Go.RowKit
set_option linter.unusedVariables false
set_option linter.unusedSimpArgs false

/-- scopes are in order up to one -/
structure TreeTo (g : GV) (s : Nat) : Prop where
  root : 0 < g.parent.length → g.parent[0]! = -1
  ahead : ∀ j : Nat, 0 < j → j ≤ s → j < g.parent.length → 0 ≤ g.parent[j]! ∧ g.parent[j]! < (j : Int)
  chain : ∀ j : Nat, j ≤ s → j < g.parent.length → (chainL g.parent 10 (j : Int)).length ≤ 9
theorem Tree.to {g : GV} (T : Tree g) (s : Nat) : TreeTo g s := ⟨T.root, fun j h0 _ hj => T.ahead j h0 hj, fun j _ hj => Nat.le_trans (T.chain j (by omega) (by omega)) (by decide)⟩
namespace TreeTo
variable {g : GV} {s : Nat}
theorem zero (T : TreeTo g s) (h : 0 < g.parent.length) : chainL g.parent 10 ((0 : Nat) : Int) = [((0 : Nat) : Int)] := by
  have hr := T.root h
  have hm : chainL g.parent 9 (-1) = [] := by unfold chainL; rw [if_neg (by omega)]
  have e : chainL g.parent 10 ((0 : Nat) : Int) = chainL g.parent 9 g.parent[((0 : Nat) : Int).toNat]! ++ [((0 : Nat) : Int)] := by
    show (if _ then _ else _) = _
    rw [if_pos ⟨by omega, by omega⟩]
  rw [e, Int.toNat_natCast, hr, hm]
  rfl
theorem succ (T : TreeTo g s) (j : Nat) (h0 : 0 < j) (hs : j ≤ s) (hj : j < g.parent.length) : ∃ q : Nat, g.parent[j]! = (q : Int) ∧ q < j ∧ chainL g.parent 10 (j : Int) = chainL g.parent 10 (q : Int) ++ [(j : Int)] := by
  have a := T.ahead j h0 hs hj
  refine ⟨(g.parent[j]!).toNat, by omega, by omega, ?_⟩
  have hq : (((g.parent[j]!).toNat : Nat) : Int) = g.parent[j]! := by omega
  have hc := T.chain (g.parent[j]!).toNat (by omega) (by omega)
  have e : chainL g.parent 10 (j : Int) = chainL g.parent 9 g.parent[(j : Int).toNat]! ++ [(j : Int)] := by
    show (if _ then _ else _) = _
    rw [if_pos ⟨by omega, by omega⟩]
  have e2 := chainL_more g.parent 9 _ hc
  rw [e, Int.toNat_natCast, ← e2, hq]
theorem le (T : TreeTo g s) : ∀ (n j : Nat), j < n → j ≤ s → j < g.parent.length → ∀ x ∈ chainL g.parent 10 (j : Int), 0 ≤ x ∧ x ≤ (j : Int)
  | 0, j, h, _, _, _, _ => absurd h (by omega)
  | n + 1, j, h, hs, hj, x, hx => by
    by_cases h0 : 0 < j
    · obtain ⟨q, _, hq, e⟩ := T.succ j h0 hs hj
      rw [e] at hx
      rcases List.mem_append.1 hx with hx | hx
      · have := le T n q (by omega) (by omega) (by omega) x hx
        omega
      · rw [List.mem_singleton] at hx; omega
    · obtain rfl : j = 0 := by omega
      rw [T.zero (by omega), List.mem_singleton] at hx
      omega
/-- is a scope around another one? -/
theorem in_up (T : TreeTo g s) (o j : Nat) (h0 : o < j) (hs : j ≤ s) (hj : j < g.parent.length) : ∃ q : Nat, g.parent[j]! = (q : Int) ∧ q < j ∧ decide ((o : Int) ∈ chainL g.parent 10 (j : Int)) = decide ((o : Int) ∈ chainL g.parent 10 (q : Int)) := by
  obtain ⟨q, h1, h2, e⟩ := T.succ j (by omega) hs hj
  refine ⟨q, h1, h2, ?_⟩
  rw [decide_eq_decide, e, List.mem_append, List.mem_singleton]
  exact ⟨fun h => h.resolve_right (by omega), .inl⟩
theorem in_end (T : TreeTo g s) (o j : Nat) (h0 : j ≤ o) (hs : j ≤ s) (hj : j < g.parent.length) : decide ((o : Int) ∈ chainL g.parent 10 (j : Int)) = decide ((j : Int) = (o : Int)) := by
  rw [decide_eq_decide]
  constructor
  · intro h
    have := T.le (j + 1) j (by omega) hs hj _ h
    omega
  · intro h
    by_cases hz : 0 < j
    · obtain ⟨q, _, _, e⟩ := T.succ j hz hs hj
      rw [e, ← h]
      simp
    · obtain rfl : j = 0 := by omega
      rw [T.zero (by omega), ← h]
      simp
theorem first_in (T : TreeTo g s) : ∀ (n j : Nat), j < n → j ≤ s → j < g.parent.length → (0 : Int) ∈ chainL g.parent 10 (j : Int)
  | 0, j, h, _, _ => absurd h (by omega)
  | n + 1, j, h, hs, hj => by
    by_cases h0 : 0 < j
    · obtain ⟨q, _, hq, e⟩ := T.succ j h0 hs hj
      rw [e]
      exact List.mem_append_left _ (first_in T n q (by omega) (by omega) (by omega))
    · obtain rfl : j = 0 := by omega
      rw [T.zero (by omega)]
      simp
end TreeTo
set_option maxRecDepth 100000 in
set_option maxHeartbeats 8000000 in
theorem pdepth_to (g : GV) (v : Value) (s : Nat) (w : World) (h : IsG w v g) (T : TreeTo g s) (hs : s < g.parent.length) (hl : g.parent.length ≤ 900000) :
    Calls Try.prog 57 #[v, .int .i64 (s : Int)] w (Ret (.int .i64 ((chainL g.parent 10 s).length : Int)) w) := by
  obtain ⟨p1, c1, p2, c2, p3, c3, p4, c4, rfl, G⟩ := h.go
  clear h
  have HP : Hid (∀ W, Below w.heap.size w W → ∀ j, j < g.parent.length → ∃ b off, p1 = some ⟨b, off, none⟩ ∧ W.cell? ⟨b, off + j, none⟩ = some (.int .i64 g.parent[j]!)) := fun W hW j hj => G.par W hW j hj
  have HU : Hid (∀ j : Nat, 0 < j → j ≤ s → j < g.parent.length → ∃ q : Nat, g.parent[j]! = (q : Int) ∧ q < j ∧ (chainL g.parent 10 j).length = (chainL g.parent 10 q).length + 1) := fun j h0 hjs hj => by
    obtain ⟨q, h1, h2, e⟩ := T.succ j h0 hjs hj
    exact ⟨q, h1, h2, by rw [e]; simp⟩
  have H0 : Hid ((chainL g.parent 10 ((0 : Nat) : Int)).length = 1) := by rw [Hid, T.zero (by omega)]; rfl
  have hL9 := T.chain s (Nat.le_refl _) hs
  clear G T
  have hsl : (s : Int) < (g.parent.length : Int) := by omega
  generalize hL : (chainL g.parent 10 (s : Int)).length = L at *
  have HL := Lib.hid hL
  clear hL
  generalize hn1 : g.parent.length = n1 at *
  generalize g.bound.length = n2 at *
  generalize g.nodes.length = n3 at *
  generalize g.edges.length = n4 at *
  clear hn1
  have HB0 := Lib.hid ((Below.refl w.heap.size w).alloc (Nat.le_refl _) (.cells #[.slice p1 n1 c1, .slice p2 n2 c2, .slice p3 n3 c3, .slice p4 n4 c4] 26))
  have HX0 : Hid (rowOf (w.alloc (.cells #[.slice p1 n1 c1, .slice p2 n2 c2, .slice p3 n3 c3, .slice p4 n4 c4] 26)) w.heap.size = some #[.slice p1 n1 c1, .slice p2 n2 c2, .slice p3 n3 c3, .slice p4 n4 c4]) := row_new rfl
  have x1 : decide ((s : Int) < 0) = false := decide_eq_false (by omega)
  have x2 : decide (n1 ≤ s) = false := decide_eq_false (by omega)
  go_enter Try.func57, Try.ntmps57
  go_wp2
  go_loopg [1, 5] s (fun gg sv dv wr => ∃ t d : Nat, t ≤ gg ∧ t ≤ s ∧ t < n1 ∧ sv = .int .i64 (t : Int) ∧ dv = .int .i64 (d : Int) ∧ Hid (d + (chainL g.parent 10 (t : Int)).length = L + 1) ∧ Hid (Below w.heap.size w wr) ∧ Hid (rowOf wr w.heap.size = some #[.slice p1 n1 c1, .slice p2 n2 c2, .slice p3 n3 c3, .slice p4 n4 c4]))
  case atStart => exact ⟨s, 1, Nat.le_refl _, Nat.le_refl _, hs, rfl, rfl, by rw [Hid, HL.out]; omega, HB0.out, HX0.out⟩
  case round =>
    obtain ⟨t, d, hg, hts, htn, rfl, rfl, HD, HB, HX⟩ := hrel
    have d0 : wr.cell? ⟨w.heap.size, 0, none⟩ = some (.slice p1 n1 c1) := rowOf_cell HX.out 0
    by_cases ht : 0 < t
    · obtain ⟨q, hq, hqt, hch⟩ := HU.out t ht hts htn
      obtain ⟨b, off, rfl, hc⟩ := HP.out wr HB.out t htn
      rw [hq] at hc
      have htz : (t : Int) > 0 := by omega
      have htl : (t : Int) < (n1 : Int) := by omega
      have hqz : (q : Int) < (t : Int) := by omega
      have HD2 : Hid (d + 1 + (chainL g.parent 10 (q : Int)).length = L + 1) := by have := HD.out; rw [hch] at this; rw [Hid]; omega
      have hd4 : d ≤ 10 := by have := HD2.out; omega
      clear hq hch HD HU HP
      go_wp2
      go_roundg q
      case measure => omega
      case rel => exact ⟨q, d + 1, Nat.le_refl _, by omega, by omega, rfl, by go_num, HD2.out, HB.out, HX.out⟩
    · obtain rfl : t = 0 := by omega
      have htz : ¬ ((0 : Nat) : Int) > 0 := by omega
      have hdl : d = L := by have := HD.out; rw [H0.out] at this; omega
      subst hdl
      clear HD HU HP
      go_wp2
      go_returns
      exact ⟨rfl, HB.out⟩
set_option maxRecDepth 100000 in
set_option maxHeartbeats 8000000 in
theorem paround_any (g : GV) (v : Value) (o i : Nat) (w : World) (h : IsG w v g) (T : TreeTo g i) (hi : i < g.parent.length) (hl : g.parent.length ≤ 900000) :
    Calls Try.prog 94 #[v, .int .i64 (o : Int), .int .i64 (i : Int)] w (Ret (.bool (decide ((o : Int) ∈ chainL g.parent 10 (i : Int)))) w) := by
  obtain ⟨p1, c1, p2, c2, p3, c3, p4, c4, rfl, G⟩ := h.go
  clear h
  have HP : Hid (∀ W, Below w.heap.size w W → ∀ j, j < g.parent.length → ∃ b off, p1 = some ⟨b, off, none⟩ ∧ W.cell? ⟨b, off + j, none⟩ = some (.int .i64 g.parent[j]!)) := fun W hW j hj => G.par W hW j hj
  have HU : Hid (∀ j : Nat, o < j → j ≤ i → ∃ q : Nat, g.parent[j]! = (q : Int) ∧ q < j ∧ decide ((o : Int) ∈ chainL g.parent 10 (j : Int)) = decide ((o : Int) ∈ chainL g.parent 10 (q : Int))) := fun j h0 hj => T.in_up o j h0 hj (by omega)
  have HE : Hid (∀ j : Nat, j ≤ o → j ≤ i → decide ((o : Int) ∈ chainL g.parent 10 (j : Int)) = decide ((j : Int) = (o : Int))) := fun j h0 hj => T.in_end o j h0 hj (by omega)
  clear G T
  generalize hV : decide ((o : Int) ∈ chainL g.parent 10 (i : Int)) = V
  have HV := Lib.hid hV
  clear hV
  generalize hn1 : g.parent.length = n1 at *
  generalize g.bound.length = n2 at *
  generalize g.nodes.length = n3 at *
  generalize g.edges.length = n4 at *
  clear hn1
  have HB0 := Lib.hid ((Below.refl w.heap.size w).alloc (Nat.le_refl _) (.cells #[.slice p1 n1 c1, .slice p2 n2 c2, .slice p3 n3 c3, .slice p4 n4 c4] 26))
  have HX0 : Hid (rowOf (w.alloc (.cells #[.slice p1 n1 c1, .slice p2 n2 c2, .slice p3 n3 c3, .slice p4 n4 c4] 26)) w.heap.size = some #[.slice p1 n1 c1, .slice p2 n2 c2, .slice p3 n3 c3, .slice p4 n4 c4]) := row_new rfl
  go_enter Try.func94, Try.ntmps94
  go_wp2
  go_loopg [2] i (fun gg iv wr => ∃ t : Nat, t ≤ gg ∧ t ≤ i ∧ t < n1 ∧ iv = .int .i64 (t : Int) ∧ Hid (decide ((o : Int) ∈ chainL g.parent 10 (t : Int)) = V) ∧ Hid (Below w.heap.size w wr) ∧ Hid (rowOf wr w.heap.size = some #[.slice p1 n1 c1, .slice p2 n2 c2, .slice p3 n3 c3, .slice p4 n4 c4]))
  case atStart => exact ⟨i, Nat.le_refl _, Nat.le_refl _, hi, rfl, HV.out, HB0.out, HX0.out⟩
  case round =>
    obtain ⟨t, hg, hti, htn, rfl, HD, HB, HX⟩ := hrel
    have d0 : wr.cell? ⟨w.heap.size, 0, none⟩ = some (.slice p1 n1 c1) := rowOf_cell HX.out 0
    by_cases ht : o < t
    · obtain ⟨q, hq, hqt, hch⟩ := HU.out t ht hti
      obtain ⟨b, off, rfl, hc⟩ := HP.out wr HB.out t htn
      rw [hq] at hc
      have htz : (t : Int) > (o : Int) := by omega
      have htl : (t : Int) < (n1 : Int) := by omega
      have HD2 : Hid (decide ((o : Int) ∈ chainL g.parent 10 (q : Int)) = V) := by rw [Hid, ← hch]; exact HD.out
      clear hq hch HD HU HP HE HV
      go_wp2
      go_roundg q
      case measure => omega
      case rel => exact ⟨q, Nat.le_refl _, by omega, by omega, rfl, HD2.out, HB.out, HX.out⟩
    · have htz : ¬ (t : Int) > (o : Int) := by omega
      have hq := HE.out t (by omega) hti
      rw [HD.out] at hq
      clear HD HU HP HE HV
      by_cases hto : (t : Int) = (o : Int)
      · obtain rfl : t = o := by omega
        rw [decide_eq_true rfl] at hq
        subst hq
        go_wp2
        go_returns
        exact ⟨by simp, HB.out⟩
      · have tb : ((t : Int) == (o : Int)) = false := by simpa using hto
        rw [decide_eq_false hto] at hq
        subst hq
        clear hto
        go_wp2
        go_returns
        exact ⟨by first | rfl | simp [tb], HB.out⟩
/-- there is room for all nodes and all edges -/
def capsG (v : Value) : Prop := ∃ p1 n1 c1 p2 n2 c2 p3 n3 c3 p4 n4 c4, v = .agg #[.slice p1 n1 c1, .slice p2 n2 c2, .slice p3 n3 c3, .slice p4 n4 c4] ∧ n3 ≤ c3 ∧ n4 ≤ c4
theorem capsG.get {p1 p2 p3 p4 : Option Addr} {n1 c1 n2 c2 n3 c3 n4 c4 : Nat} (h : capsG (.agg #[.slice p1 n1 c1, .slice p2 n2 c2, .slice p3 n3 c3, .slice p4 n4 c4])) : n3 ≤ c3 ∧ n4 ≤ c4 := by
  obtain ⟨_, _, _, _, _, _, _, _, _, _, _, _, e, h3, h4⟩ := h
  simp only [Value.agg.injEq, Array.mk.injEq, List.cons.injEq, Value.slice.injEq] at e
  omega
/-- is an operator ahead of this one in its scope? -/
def enteredG (g : GV) (n : Nat) : Bool := (List.range n).any fun j => decide (scopeG g j = scopeG g n)
set_option maxRecDepth 100000 in
set_option maxHeartbeats 8000000 in
theorem pentered_any (g : GV) (v : Value) (i : Nat) (w : World) (h : IsG w v g) (hcap : capsG v) (hi : i < g.nodes.length) (hl : g.nodes.length ≤ 900000) :
    Calls Try.prog 95 #[v, .int .i64 (i : Int)] w (Ret (.bool (enteredG g i)) w) := by
  obtain ⟨p1, c1, p2, c2, p3, c3, p4, c4, rfl, G⟩ := h.go
  clear h
  have hc3 : g.nodes.length ≤ c3 := hcap.get.1
  clear hcap
  obtain ⟨b3, off3, q0, m0, rfl, _, _⟩ := G.nod i hi
  have HN : Hid (∀ j, j < g.nodes.length → ∃ k s a q m c, Hid (s = scopeG g j) ∧ ∀ W, Below w.heap.size w W → W.cell? ⟨b3, off3 + j * 4, none⟩ = some (.int .i64 k) ∧ W.cell? ⟨b3, off3 + j * 4 + 1, none⟩ = some (.int .i64 s) ∧ W.cell? ⟨b3, off3 + j * 4 + 2, none⟩ = some (.int .i64 a) ∧ W.cell? ⟨b3, off3 + j * 4 + 3, none⟩ = some (.slice q m c)) := fun j hj => by
    obtain ⟨b', off', p, c, e, _, hc⟩ := G.nod j hj
    simp only [Option.some.injEq, Addr.mk.injEq] at e
    obtain ⟨rfl, rfl, _⟩ := e
    exact ⟨_, _, _, _, _, _, rfl, hc⟩
  clear G
  have HRs := Lib.hid (fun k => any_range (k := k) (fun j => decide (scopeG g j = scopeG g i)))
  generalize hV : enteredG g i = V
  have HV := Lib.hid hV
  clear hV
  have hil : (i : Int) ≤ (c3 : Int) := by omega
  have hiz : (i : Int) < (g.nodes.length : Int) := by omega
  generalize g.parent.length = n1 at *
  generalize g.bound.length = n2 at *
  generalize g.nodes.length = n3 at *
  generalize g.edges.length = n4 at *
  have HB0 := Lib.hid ((Below.refl w.heap.size w).alloc (Nat.le_refl _) (.cells #[.slice p1 n1 c1, .slice p2 n2 c2, .slice (some ⟨b3, off3, none⟩) n3 c3, .slice p4 n4 c4] 26))
  have HX0 : Hid (rowOf (w.alloc (.cells #[.slice p1 n1 c1, .slice p2 n2 c2, .slice (some ⟨b3, off3, none⟩) n3 c3, .slice p4 n4 c4] 26)) w.heap.size = some #[.slice p1 n1 c1, .slice p2 n2 c2, .slice (some ⟨b3, off3, none⟩) n3 c3, .slice p4 n4 c4]) := row_new rfl
  obtain ⟨ki, si, ai, qi, mi, ci, Hsi, Hci⟩ := HN.out i hi
  have HCi := Lib.hid Hci
  clear Hci
  go_enter Try.func95, Try.ntmps95
  go_wp2
  go_loopg [12] i (fun gg iv wr => ∃ j : Nat, j ≤ i ∧ i - j ≤ gg ∧ iv = .int .i64 (j : Int) ∧ Hid ((List.range j).any (fun j => decide (scopeG g j = scopeG g i)) = false) ∧ Hid (Below w.heap.size w wr) ∧ Hid (rowOf wr w.heap.size = some #[.slice p1 n1 c1, .slice p2 n2 c2, .slice (some ⟨b3, off3, none⟩) n3 c3, .slice p4 n4 c4]))
  case atStart => exact ⟨0, Nat.zero_le _, by omega, rfl, rfl, HB0.out, HX0.out⟩
  case round =>
    obtain ⟨j, hji, hg, rfl, HD, HB, HX⟩ := hrel
    by_cases hlt : j < i
    · have hlz : (j : Int) < (i : Int) := by omega
      obtain ⟨k, s, a, q, m, c, Hs, hc⟩ := HN.out j (by omega)
      obtain ⟨e0, e1, e2, e3⟩ := hc wr HB.out
      have HB2 : Hid (Below w.heap.size w (wr.alloc (.cells #[.int .i64 k, .int .i64 s, .int .i64 a, .slice q m c] 51))) := HB.out.alloc HB.out.size _
      have HX2 : Hid (rowOf (wr.alloc (.cells #[.int .i64 k, .int .i64 s, .int .i64 a, .slice q m c] 51)) w.heap.size = some #[.slice p1 n1 c1, .slice p2 n2 c2, .slice (some ⟨b3, off3, none⟩) n3 c3, .slice p4 n4 c4]) := row_old HX.out
      have HY2 : Hid (rowOf (wr.alloc (.cells #[.int .i64 k, .int .i64 s, .int .i64 a, .slice q m c] 51)) wr.heap.size = some #[.int .i64 k, .int .i64 s, .int .i64 a, .slice q m c]) := row_new rfl
      clear hc HX HB
      go_upto_region 4 with (fail)
      refine gen_world (fun W2 => Hid (Below w.heap.size w W2) ∧ Hid (rowOf W2 w.heap.size = some #[.slice p1 n1 c1, .slice p2 n2 c2, .slice (some ⟨b3, off3, none⟩) n3 c3, .slice p4 n4 c4]) ∧ Hid (rowOf W2 wr.heap.size = some #[.int .i64 k, .int .i64 s, .int .i64 a, .slice q m c])) ⟨HB2, HX2, HY2⟩ ?_
      clear HB2 HX2 HY2 e0 e1 e2 e3
      rintro w2 ⟨HB, HX, HY⟩
      generalize wr.heap.size = bn at *
      clear wr
      have y1 := bx_cell (rowOf_cell HY.out 1 : _ = some (Value.int .i64 s))
      have y2 := bx_cell (rowOf_cell HX.out 2 : _ = some (Value.slice (some ⟨b3, off3, none⟩) n3 c3))
      have y3 := bx_cell (HCi.out _ HB.out).2.1
      have hst : (List.range (j + 1)).any (fun j => decide (scopeG g j = scopeG g i)) = decide (s = si) := by rw [HRs.out j, HD.out, Bool.false_or, Hs.out, Hsi.out]
      by_cases hs : s = si
      · have sb : (s == si) = true := by simpa using hs
        have hq : V = true := by
          rw [← HV.out]
          unfold enteredG
          rw [List.any_eq_true]
          exact ⟨j, List.mem_range.2 hlt, decide_eq_true (by rw [← Hs.out, ← Hsi.out]; exact hs)⟩
        subst hq
        clear hst HRs HD hs HN HCi
        refine wp_region_bx (by kernel_rfl) (by kernel_rfl) ?_
        repeat (first | go_big_quiet_step (fail) | quiet_step (fail))
        refine wpQuiet_nil ?_
        intro _ hw'
        obtain ⟨g9, hw''⟩ := hw'
        subst hw''
        have hb9 := g9.h
        generalize g9.w = w3 at hb9 ⊢
        clear g9
        have HB3 := Lib.hid (bstep HB.out hb9 HB.out.size)
        clear hb9 y1 y2 y3
        go_wp2
        go_returns
        exact ⟨rfl, HB3.out⟩
      · have sb : (s == si) = false := by simpa using hs
        have HD2 : Hid ((List.range (j + 1)).any (fun j => decide (scopeG g j = scopeG g i)) = false) := by rw [Hid, hst, decide_eq_false hs]
        clear hst HRs HD hs HN HCi
        refine wp_region_bx (by kernel_rfl) (by kernel_rfl) ?_
        repeat (first | go_big_quiet_step (fail) | quiet_step (fail))
        refine wpQuiet_nil ?_
        intro _ hw'
        obtain ⟨g9, hw''⟩ := hw'
        subst hw''
        have hb9 := g9.h
        generalize g9.w = w3 at hb9 ⊢
        clear g9
        have HB3 := Lib.hid (bstep HB.out hb9 HB.out.size)
        have HX3 := Lib.hid (rowOf_below HX.out hb9 (rowOf_lt HX.out))
        clear hb9 y1 y2 y3
        go_wp2
        go_roundg (i - (j + 1))
        case measure => omega
        case rel => exact ⟨j + 1, by omega, by omega, by go_num, HD2.out, HB3.out, HX3.out⟩
    · have hlz : ¬ (j : Int) < (i : Int) := by omega
      obtain rfl : i = j := by omega
      have hq : V = false := by rw [← HV.out]; exact HD.out
      subst hq
      clear HD HRs HN HCi
      go_wp2
      go_returns
      exact ⟨rfl, HB.out⟩
end Go.Proofs.Ytacmdkbmakfdkaa
/- a graph as an argument, with room for its nodes and edges; written by gen/og.py -/
namespace Go.Proofs.Ytacmdkbmakfdkaa
open Go.ChangeShapes Go.WideShapes Go.ChangeAt Go.RowKit Go.Deep
set_option linter.unusedVariables false
set_option linter.unusedSimpArgs false

theorem ins_sizeG : Try.prog.cellsOf 120 = 2 := by kernel_rfl
theorem node_size : Try.prog.cellsOf 51 = 4 := by kernel_rfl
theorem edge_size : Try.prog.cellsOf 42 = 4 := by kernel_rfl
theorem graph_size : Try.prog.cellsOf 26 = 4 := by kernel_rfl
theorem i64_sizeG : Try.prog.cellsOf 2 = 1 := by kernel_rfl
theorem int_sizeG : Try.prog.cellsOf 3 = 1 := by kernel_rfl
theorem bool_sizeG : Try.prog.cellsOf 4 = 1 := by kernel_rfl
theorem sl_sizeI : Try.prog.cellsOf 49 = 1 := by kernel_rfl
theorem sl_sizeN : Try.prog.cellsOf 22 = 1 := by kernel_rfl
theorem sl_sizeW : Try.prog.cellsOf 23 = 1 := by kernel_rfl
theorem sl_sizeE : Try.prog.cellsOf 24 = 1 := by kernel_rfl
theorem has_inRG {n : Int} (h : IntKind.i64.has n) : inR n := ⟨h.1, h.2⟩
section
variable {H : Type} {enc : TypeId × Value → H} {w : World} {base : Nat} {sp : Nat → Bool} {held : Bool}
set_option maxRecDepth 100000 in
/-- a slice within an argument -/
theorem open_rowsN {α : Type} [Inhabited α] (R : RowKind α) (P : α → Prop) (hk : Try.prog.cellsOf R.tE = R.k)
    (hcell : ∀ (n : Nat) (cs : List Value) (x : DataW H × List MemPlace), DataW.trod enc Try.prog w base sp held n R.tE cs = some x → ∃ a : α, cs = R.enc a ∧ P a)
    {fuel : Nat} {cs : List Value} {x : DataW H × List MemPlace} (h : DataW.trod enc Try.prog w base sp held fuel R.tS cs = some x) : ∃ (p : Option Addr) (n c : Nat) (xs : List α), cs = [.slice p n c] ∧ R.Is w (.slice p n c) xs ∧ n ≤ c ∧ ∀ x ∈ xs, P x := by
  rcases open_slice R.under h with ⟨e, _⟩ | ⟨a, len, cap, m, n, D, Pl, e, hb, hl, hm, hmm, _, hx⟩
  · exact ⟨none, 0, 0, [], e, .inl ⟨rfl, none, 0, rfl, fun _ => rfl⟩, Nat.le_refl _, fun x hx => by cases hx⟩
  · have hlm : len ≤ m := by rw [hmm]; split <;> omega
    rw [hk] at hx
    have each : ∀ i, i < m → ∃ t : α, P t ∧ ∀ k u, (R.enc t)[k]? = some u → w.cell? ((a.add (i * R.k)).add k) = some u := by
      intro i hi
      obtain ⟨cs', h1, h2⟩ := hx i hi
      obtain ⟨_, hlen, hcl⟩ := World.cells?_some h1
      obtain ⟨t, rfl, hp⟩ := hcell _ _ _ h2
      refine ⟨t, hp, fun k u hu => ?_⟩
      have hk5 : k < R.k := by have := (List.getElem?_eq_some_iff.1 hu).1; rw [R.len] at this; exact this
      rw [hcl k hk5]
      exact hu
    obtain ⟨T, hT⟩ := choose_lt each
    by_cases h0 : len = 0
    · subst h0
      exact ⟨some a, 0, cap, [], e, .inl ⟨rfl, some a, cap, rfl, fun h => by cases h⟩, by omega, fun x hx => by cases hx⟩
    · have hk0 := R.k0
      obtain ⟨u0, hu0⟩ : ∃ u, (R.enc (T 0))[0]? = some u := ⟨_, List.getElem?_eq_getElem (by rw [R.len]; exact hk0)⟩
      have c00 := (hT 0 (by omega)).2 0 _ hu0
      have hspot : a.spot = none := by
        rw [add_add] at c00
        unfold World.cell? at c00
        split at c00
        · split at c00
          · cases c00
          · rename_i hn
            simp [Addr.add] at hn
            exact hn
        · cases c00
      obtain ⟨b, off, spot⟩ := a
      simp only at hspot
      subst hspot
      have hbl : b < w.heap.size := World.block_lt_of_cell? _ _ (by rw [add_add, Nat.add_zero, Addr.add_lit] at c00; exact c00)
      refine ⟨some ⟨b, off, none⟩, len, cap, (List.range len).map T, e, .inr ⟨by simp [h0], b, off, cap, by simp, hbl, ?_⟩, by omega, fun x hx => ?_⟩
      · intro j hj i u hu
        have hj' : j < len := by simpa using hj
        have hg : ((List.range len).map T)[j]! = T j := by simp [hj']
        rw [hg] at hu
        have := (hT j (by omega)).2 i u hu
        rw [add_add, Addr.add_lit, ← Nat.add_assoc] at this
        exact this
      · obtain ⟨j, hj, rfl⟩ := List.mem_map.1 hx
        exact (hT j (by have := List.mem_range.1 hj; omega)).1
set_option maxRecDepth 100000 in
theorem open_ins_cellsG (n : Nat) (cs : List Value) (x : DataW H × List MemPlace) (h : DataW.trod enc Try.prog w base sp held n 120 cs = some x) : ∃ c : NV, cs = RC.enc c ∧ True := by
  obtain ⟨xs, m, _, _, hl, hxl, hf⟩ := DataW.trod_struct Try.underlying120 h
  rw [ins_sizeG] at hl
  match cs, hl with
  | [v0, v1], _ =>
    match xs, hxl with
    | [y0, y1], _ =>
      have g0 := hf 0 ⟨ "Op", 3, 0, false, "", "", 0⟩ rfl
      have g1 := hf 1 ⟨ "N", 2, 1, false, "", "", 8⟩ rfl
      dsimp only at g0 g1
      rw [int_sizeG] at g0
      rw [i64_sizeG] at g1
      simp only [List.drop_zero, List.take_succ_cons, List.take_zero, List.drop_succ_cons, List.getElem?_cons_zero, List.getElem?_cons_succ] at g0 g1
      obtain ⟨t, e0, _, _⟩ := DataW.trod_int Try.underlying3 g0
      obtain ⟨k, e1, _, hwf⟩ := DataW.trod_int Try.underlying2 g1
      refine ⟨⟨t, k⟩, ?_, ?_⟩
      · have r : [v0, v1] = [v0] ++ [v1] := rfl
        rw [r, e0, e1]
        rfl
      · trivial
theorem open_int_cells (n : Nat) (cs : List Value) (x : DataW H × List MemPlace) (h : DataW.trod enc Try.prog w base sp held n 3 cs = some x) : ∃ c : Int, cs = RN.enc c ∧ True := by
  obtain ⟨k, e1, _, hwf⟩ := DataW.trod_int Try.underlying3 h
  exact ⟨k, e1, trivial⟩
set_option maxRecDepth 100000 in
theorem open_edge_cells (n : Nat) (cs : List Value) (x : DataW H × List MemPlace) (h : DataW.trod enc Try.prog w base sp held n 42 cs = some x) : ∃ c : GE, cs = RE.enc c ∧ True := by
  obtain ⟨xs, m, _, _, hl, hxl, hf⟩ := DataW.trod_struct Try.underlying42 h
  rw [edge_size] at hl
  match cs, hl with
  | [v0, v1, v2, v3], _ =>
    match xs, hxl with
    | [y0, y1, y2, y3], _ =>
      have g0 := hf 0 ⟨ "From", 3, 0, false, "", "", 0⟩ rfl
      have g1 := hf 1 ⟨ "To", 3, 1, false, "", "", 8⟩ rfl
      have g2 := hf 2 ⟨ "Port", 3, 2, false, "", "", 16⟩ rfl
      have g3 := hf 3 ⟨ "Exchange", 4, 3, false, "", "", 24⟩ rfl
      dsimp only at g0 g1 g2 g3
      rw [int_sizeG] at g0 g1 g2
      rw [bool_sizeG] at g3
      simp only [List.drop_zero, List.take_succ_cons, List.take_zero, List.drop_succ_cons, List.getElem?_cons_zero, List.getElem?_cons_succ] at g0 g1 g2 g3
      obtain ⟨t0, e0, _, _⟩ := DataW.trod_int Try.underlying3 g0
      obtain ⟨t1, e1, _, _⟩ := DataW.trod_int Try.underlying3 g1
      obtain ⟨t2, e2, _, _⟩ := DataW.trod_int Try.underlying3 g2
      obtain ⟨t3, e3, _⟩ := DataW.trod_bool Try.underlying4 g3
      refine ⟨⟨t0, t1, t2, t3⟩, ?_, trivial⟩
      have r : [v0, v1, v2, v3] = [v0] ++ ([v1] ++ ([v2] ++ [v3])) := rfl
      rw [r, e0, e1, e2, e3]
      rfl
set_option maxRecDepth 100000 in
theorem open_node_cells (n : Nat) (cs : List Value) (x : DataW H × List MemPlace) (h : DataW.trod enc Try.prog w base sp held n 51 cs = some x) : ∃ c : NW, cs = RW.enc c ∧ ∃ g : GN, isN w c g := by
  obtain ⟨xs, m, _, _, hl, hxl, hf⟩ := DataW.trod_struct Try.underlying51 h
  rw [node_size] at hl
  match cs, hl with
  | [v0, v1, v2, v3], _ =>
    match xs, hxl with
    | [y0, y1, y2, y3], _ =>
      have g0 := hf 0 ⟨ "Kind", 3, 0, false, "", "", 0⟩ rfl
      have g1 := hf 1 ⟨ "Scope", 3, 1, false, "", "", 8⟩ rfl
      have g2 := hf 2 ⟨ "Arg", 2, 2, false, "", "", 16⟩ rfl
      have g3 := hf 3 ⟨ "Prog", 49, 3, false, "", "", 24⟩ rfl
      dsimp only at g0 g1 g2 g3
      rw [int_sizeG] at g0 g1
      rw [i64_sizeG] at g2
      rw [sl_sizeI] at g3
      simp only [List.drop_zero, List.take_succ_cons, List.take_zero, List.drop_succ_cons, List.getElem?_cons_zero, List.getElem?_cons_succ] at g0 g1 g2 g3
      obtain ⟨t0, e0, _, _⟩ := DataW.trod_int Try.underlying3 g0
      obtain ⟨t1, e1, _, _⟩ := DataW.trod_int Try.underlying3 g1
      obtain ⟨t2, e2, _, hwf⟩ := DataW.trod_int Try.underlying2 g2
      obtain ⟨p, k, c, L, e3, hI, _, hL⟩ := open_rowsN RC (fun _ => True) ins_sizeG open_ins_cellsG g3
      refine ⟨⟨t0, t1, t2, p, k, c⟩, ?_, ⟨t0, t1, t2, L⟩, ⟨rfl, rfl, rfl, hI⟩⟩
      have r : [v0, v1, v2, v3] = [v0] ++ ([v1] ++ ([v2] ++ [v3])) := rfl
      rw [r, e0, e1, e2, e3]
      rfl
theorem nodes_of : ∀ (xs : List NW), (∀ x ∈ xs, ∃ g : GN, isN w x g) → ∃ ns : List GN, areN w xs ns
  | [], _ => ⟨[], rfl, fun i hi => absurd hi (by simp)⟩
  | x :: xs, h => by
    obtain ⟨g, h1⟩ := h x (List.mem_cons_self ..)
    obtain ⟨ns, h3, h4⟩ := nodes_of xs fun y hy => h y (List.mem_cons_of_mem _ hy)
    refine ⟨g :: ns, by simp [h3], fun i hi => ?_⟩
    cases i with
    | zero => exact h1
    | succ i =>
      have hi : i < ns.length := by simpa using hi
      have := h4 i hi
      simpa using this
set_option maxRecDepth 100000 in
theorem open_graph {r : Reach} {b0 : Nat} {v : Value} {d : DataW H} {ps : List MemPlace} (hval : Value.okWide Try.prog w r b0 26 v) (hd : DataW.Trod enc Try.prog w base sp held 26 v d ps) : ∃ g : GV, IsG w v g ∧ capsG v := by
  obtain ⟨fuel, h⟩ := hd
  obtain ⟨cs, rfl, hsz⟩ := okWide_struct Try.underlying26 hval
  obtain ⟨xs, m, _, _, hl, hxl, hf⟩ := DataW.trod_struct Try.underlying26 h
  rw [graph_size] at hsz
  obtain ⟨l⟩ := cs
  match l, hsz with
  | [v0, v1, v2, v3], _ =>
    match xs, hxl with
    | [y0, y1, y2, y3], _ =>
      have g0 := hf 0 ⟨ "Parent", 22, 0, false, "", "", 0⟩ rfl
      have g1 := hf 1 ⟨ "Bound", 22, 1, false, "", "", 24⟩ rfl
      have g2 := hf 2 ⟨ "Nodes", 23, 2, false, "", "", 48⟩ rfl
      have g3 := hf 3 ⟨ "Edges", 24, 3, false, "", "", 72⟩ rfl
      dsimp only at g0 g1 g2 g3
      rw [sl_sizeN] at g0 g1
      rw [sl_sizeW] at g2
      rw [sl_sizeE] at g3
      simp only [Value.cells, List.drop_zero, List.take_succ_cons, List.take_zero, List.drop_succ_cons, List.getElem?_cons_zero, List.getElem?_cons_succ] at g0 g1 g2 g3
      obtain ⟨p0, n0, c0, L0, e0, i0, k0, _⟩ := open_rowsN RN (fun _ => True) int_sizeG open_int_cells g0
      obtain ⟨p1, n1, c1, L1, e1, i1, k1, _⟩ := open_rowsN RN (fun _ => True) int_sizeG open_int_cells g1
      obtain ⟨p2, n2, c2, L2, e2, i2, k2, q2⟩ := open_rowsN RW (fun c => ∃ g : GN, isN w c g) node_size open_node_cells g2
      obtain ⟨p3, n3, c3, L3, e3, i3, k3, _⟩ := open_rowsN RE (fun _ => True) edge_size open_edge_cells g3
      obtain ⟨ns, hns⟩ := nodes_of L2 q2
      obtain rfl := (List.cons.inj e0).1
      obtain rfl := (List.cons.inj e1).1
      obtain rfl := (List.cons.inj e2).1
      obtain rfl := (List.cons.inj e3).1
      exact ⟨⟨L0, L1, ns, L3⟩, ⟨_, _, _, _, rfl, i0, i1, ⟨L2, i2, hns⟩, i3⟩, ⟨_, _, _, _, _, _, _, _, _, _, _, _, rfl, k2, k3⟩⟩
end
end Go.Proofs.Ytacmdkbmakfdkaa
