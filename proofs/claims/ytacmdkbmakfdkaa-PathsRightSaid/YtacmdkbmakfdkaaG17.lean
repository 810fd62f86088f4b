/- the program's Depth and Takes, of a graph whose scopes are in order -/
import Derived.Test.YtacmdkbmakfdkaaG15
import Derived.Test.YtacmdkbmakfdkaaG05
import Derived.Test.YtacmdkbmakfdkaaG16
namespace Go.Proofs.Ytacmdkbmakfdkaa
open Go.RowKit
set_option linter.unusedVariables false
set_option linter.unusedSimpArgs false

/-- each scope but the first one has a parent ahead of it -/
structure Tree (g : GV) : Prop where
  root : 0 < g.parent.length → g.parent[0]! = -1
  ahead : ∀ s : Nat, 0 < s → s < g.parent.length → 0 ≤ g.parent[s]! ∧ g.parent[s]! < (s : Int)
  chain : ∀ s : Int, 0 ≤ s → s < (g.parent.length : Int) → (chainL g.parent 10 s).length ≤ 4
/-- an operator's scope, but of one of the kind the parent of that -/
def butG (g : GV) (n : Nat) (ac : Int) : Int := if g.nodes[n]!.kind = ac then g.parent[g.nodes[n]!.scope.toNat]! else g.nodes[n]!.scope
theorem but_takes (g : GV) (n : Nat) : butG g n 10 = placeG g n false := by unfold butG placeG; simp
theorem but_gives (g : GV) (n : Nat) : butG g n 11 = placeG g n true := by unfold butG placeG; simp
set_option maxRecDepth 100000 in
set_option maxHeartbeats 8000000 in
theorem pbut_any (g : GV) (v : Value) (n : Nat) (ac : Int) (w : World) (h : IsG w v g) (hn : n < g.nodes.length) (hN : g.nodes.length ≤ 900000) (hs : scopeOk g n) :
    Calls Try.prog 79 #[v, .int .i64 (n : Int), .int .i64 ac] w (Ret (.int .i64 (butG g n ac)) w) := by
  unfold scopeOk at hs
  obtain ⟨p1, c1, p2, c2, p3, c3, p4, c4, rfl, G⟩ := h.go
  clear h
  obtain ⟨s, hsn⟩ : ∃ s : Nat, g.nodes[n]!.scope = (s : Int) := ⟨g.nodes[n]!.scope.toNat, by omega⟩
  obtain ⟨b, off, p, c, rfl, _, hc⟩ := G.nod n hn
  obtain ⟨b2, off2, rfl, _⟩ := G.par w (Below.refl _ _) s (by omega)
  have HP : Hid (∀ W, Below w.heap.size w W → W.cell? ⟨b2, off2 + s, none⟩ = some (.int .i64 g.parent[s]!)) := fun W hW => by
    obtain ⟨b', off', e, hc'⟩ := G.par W hW s (by omega)
    simp only [Option.some.injEq, Addr.mk.injEq] at e
    obtain ⟨rfl, rfl, _⟩ := e
    exact hc'
  have HV : Hid (butG g n ac = if g.nodes[n]!.kind = ac then g.parent[s]! else (s : Int)) := by
    show butG g n ac = _
    unfold butG
    rw [hsn]
    rfl
  have hsl : (s : Int) < (g.parent.length : Int) := by omega
  have hnl : (n : Int) < (g.nodes.length : Int) := by omega
  clear G hs hn hN
  rw [hsn] at hc
  clear hsn
  generalize butG g n ac = V at *
  generalize g.nodes[n]!.kind = k at *
  generalize g.nodes[n]!.arg = ar at *
  generalize g.nodes[n]!.prog.length = pl at *
  generalize g.parent[s]! = ps at *
  generalize g.parent.length = n1 at *
  generalize g.bound.length = n2 at *
  generalize g.nodes.length = n3 at *
  generalize g.edges.length = n4 at *
  have HC := Lib.hid hc
  clear hc
  have HB0 := Lib.hid ((Below.refl w.heap.size w).alloc (Nat.le_refl _) (.cells #[.slice (some ⟨b2, off2, none⟩) n1 c1, .slice p2 n2 c2, .slice (some ⟨b, off, none⟩) n3 c3, .slice p4 n4 c4] 26))
  obtain ⟨e0, e1, e2, e3⟩ := HC.out _ (Below.refl _ _)
  have e4 := HP.out _ (Below.refl _ _)
  have hb0 : b < w.heap.size := World.block_lt_of_cell? _ _ e0
  have hb2 : b2 < w.heap.size := World.block_lt_of_cell? _ _ e4
  have D0 := Nat.ne_of_lt hb0
  have D2 := Nat.ne_of_lt hb2
  clear HC HP HB0
  by_cases hk : k = ac
  · subst hk
    obtain rfl : V = ps := by rw [HV.out, if_pos rfl]
    go_enter Try.func79, Try.ntmps79
    go_wp2
    go_returns
    exact ⟨rfl, by go_grown⟩
  · obtain rfl : V = (s : Int) := by rw [HV.out, if_neg hk]
    have hk1 : (k == ac) = false := by simpa using hk
    have hk2 : (k != ac) = true := by simpa using hk
    clear HV
    go_enter Try.func79, Try.ntmps79
    go_wp2
    go_returns
    exact ⟨rfl, by go_grown⟩
set_option maxRecDepth 100000 in
set_option maxHeartbeats 8000000 in
theorem ptakesIn_any (g : GV) (v : Value) (n : Nat) (w : World) (h : IsG w v g) (hn : n < g.nodes.length) (hN : g.nodes.length ≤ 900000) (hs : scopeOk g n) :
    Calls Try.prog 58 #[v, .int .i64 (n : Int)] w (Ret (.int .i64 (placeG g n false)) w) := by
  have H1 : Hid (∀ W, Below w.heap.size w W → Calls Try.prog 79 #[v, .int .i64 (n : Int), .int .i64 10] W (Ret (.int .i64 (placeG g n false)) W)) := fun W hW => by
    rw [← but_takes]
    exact pbut_any g v n 10 W (h.below hW) hn hN hs
  obtain ⟨p1, c1, p2, c2, p3, c3, p4, c4, rfl, G⟩ := h.go
  clear h G hs hn hN
  generalize placeG g n false = V at *
  generalize g.parent.length = n1 at *
  generalize g.bound.length = n2 at *
  generalize g.nodes.length = n3 at *
  generalize g.edges.length = n4 at *
  go_enter Try.func58, Try.ntmps58
  go_wp2_with fail
  refine (H1.out _ (by go_grown)).mono ?_
  rintro e w1 ⟨rfl, hb1⟩
  have HB1 := Lib.hid (bcall (B := w.heap.size) (a := w) (by go_grown) hb1 (by go_size))
  clear hb1
  go_wp2
  go_returns
  exact ⟨rfl, HB1.out⟩
set_option maxRecDepth 100000 in
set_option maxHeartbeats 8000000 in
theorem pdepth_any (g : GV) (v : Value) (s : Nat) (w : World) (h : IsG w v g) (T : Tree g) (hs : s < g.parent.length) (hl : g.parent.length ≤ 900000) :
    Calls Try.prog 57 #[v, .int .i64 (s : Int)] w (Ret (.int .i64 ((chainL g.parent 10 s).length : Int)) w) := by
  obtain ⟨p1, c1, p2, c2, p3, c3, p4, c4, rfl, G⟩ := h.go
  clear h
  have HP : Hid (∀ W, Below w.heap.size w W → ∀ j, j < g.parent.length → ∃ b off, p1 = some ⟨b, off, none⟩ ∧ W.cell? ⟨b, off + j, none⟩ = some (.int .i64 g.parent[j]!)) := fun W hW j hj => G.par W hW j hj
  have HU : Hid (∀ j : Nat, 0 < j → j < g.parent.length → ∃ q : Nat, g.parent[j]! = (q : Int) ∧ q < j ∧ (chainL g.parent 10 j).length = (chainL g.parent 10 q).length + 1) := fun j h0 hj => by
    have a := T.ahead j h0 hj
    refine ⟨(g.parent[j]!).toNat, by omega, by omega, ?_⟩
    have hq : ((g.parent[j]!).toNat : Int) = g.parent[j]! := by omega
    have ch := T.chain (g.parent[j]!) a.1 (by omega)
    have := chain_up (P := g.parent) (s := (j : Int)) (by omega) (by omega) (by show (chainL g.parent 10 (g.parent[(j : Int).toNat]!)).length ≤ 9; rw [Int.toNat_natCast]; omega)
    rw [Int.toNat_natCast] at this
    rw [hq]
    exact this
  have H0 : Hid ((chainL g.parent 10 ((0 : Nat) : Int)).length = 1) := by
    have hr := T.root (by omega)
    have hm : chainL g.parent 10 (-1) = [] := by unfold chainL; rw [if_neg (by omega)]
    have := chain_up (P := g.parent) (s := 0) (by omega) (by omega) (by show (chainL g.parent 10 (g.parent[0]!)).length ≤ 9; rw [hr, hm]; simp)
    have e : g.parent[(0 : Int).toNat]! = -1 := hr
    rw [e, hm] at this
    exact this
  have HLt : Hid (∀ j : Nat, j < g.parent.length → (chainL g.parent 10 (j : Int)).length ≤ 4) := fun j hj => T.chain j (by omega) (by omega)
  clear G T
  have hsl : (s : Int) < (g.parent.length : Int) := by omega
  generalize hL : (chainL g.parent 10 (s : Int)).length = L
  have HL := Lib.hid hL
  have hL4 : L ≤ 4 := by rw [← hL]; exact HLt.out s hs
  clear hL HLt
  generalize hn1 : g.parent.length = n1 at *
  generalize g.bound.length = n2 at *
  generalize g.nodes.length = n3 at *
  generalize g.edges.length = n4 at *
  clear hn1
  have HB0 := Lib.hid ((Below.refl w.heap.size w).alloc (Nat.le_refl _) (.cells #[.slice p1 n1 c1, .slice p2 n2 c2, .slice p3 n3 c3, .slice p4 n4 c4] 26))
  have HX0 : Hid (rowOf (w.alloc (.cells #[.slice p1 n1 c1, .slice p2 n2 c2, .slice p3 n3 c3, .slice p4 n4 c4] 26)) w.heap.size = some #[.slice p1 n1 c1, .slice p2 n2 c2, .slice p3 n3 c3, .slice p4 n4 c4]) := row_new rfl
  have x1 : decide ((s : Int) < 0) = false := decide_eq_false (by omega)
  have x2 : decide (n1 ≤ s) = false := decide_eq_false (by omega)
  go_enter Try.func57, Try.ntmps57
  go_wp2
  go_loopg [1, 5] s (fun gg sv dv wr => ∃ t d : Nat, t ≤ gg ∧ t < n1 ∧ sv = .int .i64 (t : Int) ∧ dv = .int .i64 (d : Int) ∧ Hid (d + (chainL g.parent 10 (t : Int)).length = L + 1) ∧ Hid (Below w.heap.size w wr) ∧ Hid (rowOf wr w.heap.size = some #[.slice p1 n1 c1, .slice p2 n2 c2, .slice p3 n3 c3, .slice p4 n4 c4]))
  case atStart => exact ⟨s, 1, Nat.le_refl _, hs, rfl, rfl, by rw [Hid, HL.out]; omega, HB0.out, HX0.out⟩
  case round =>
    obtain ⟨t, d, hg, htn, rfl, rfl, HD, HB, HX⟩ := hrel
    have d0 : wr.cell? ⟨w.heap.size, 0, none⟩ = some (.slice p1 n1 c1) := rowOf_cell HX.out 0
    by_cases ht : 0 < t
    · obtain ⟨q, hq, hqt, hch⟩ := HU.out t ht htn
      obtain ⟨b, off, rfl, hc⟩ := HP.out wr HB.out t htn
      rw [hq] at hc
      have htz : (t : Int) > 0 := by omega
      have htl : (t : Int) < (n1 : Int) := by omega
      have hqz : (q : Int) < (t : Int) := by omega
      have HD2 : Hid (d + 1 + (chainL g.parent 10 (q : Int)).length = L + 1) := by have := HD.out; rw [hch] at this; rw [Hid]; omega
      have hd4 : d ≤ 5 := by have := HD2.out; omega
      clear hq hch HD HU HP
      go_wp2
      go_roundg q
      case measure => omega
      case rel => exact ⟨q, d + 1, Nat.le_refl _, by omega, rfl, by go_num, HD2.out, HB.out, HX.out⟩
    · obtain rfl : t = 0 := by omega
      have htz : ¬ ((0 : Nat) : Int) > 0 := by omega
      have hdl : d = L := by have := HD.out; rw [H0.out] at this; omega
      subst hdl
      clear HD HU HP
      go_wp2
      go_returns
      exact ⟨rfl, HB.out⟩
set_option maxRecDepth 100000 in
set_option maxHeartbeats 8000000 in
theorem ptakes_any (g : GV) (v : Value) (n : Nat) (w : World) (h : IsG w v g) (M : May g) (T : Tree g) (hn : n < g.nodes.length) :
    Calls Try.prog 37 #[v, .int .i64 (n : Int)] w (Ret (.int .i64 (levelG g n false : Int)) w) := by
  have hin := M.inScope n hn false
  obtain ⟨s, hs⟩ : ∃ s : Nat, placeG g n false = (s : Int) := ⟨(placeG g n false).toNat, by omega⟩
  have H1 : Hid (∀ W, Below w.heap.size w W → Calls Try.prog 58 #[v, .int .i64 (n : Int)] W (Ret (.int .i64 (s : Int)) W)) := fun W hW => by
    rw [← hs]
    exact ptakesIn_any g v n W (h.below hW) hn (by have := M.nodes; omega) (M.scope n hn)
  have H2 : Hid (∀ W, Below w.heap.size w W → Calls Try.prog 57 #[v, .int .i64 (s : Int)] W (Ret (.int .i64 (levelG g n false : Int)) W)) := fun W hW => by
    have q := pdepth_any g v s W (h.below hW) T (by omega) (by have := M.parent; omega)
    unfold levelG
    rw [hs]
    exact q
  obtain ⟨p1, c1, p2, c2, p3, c3, p4, c4, rfl, G⟩ := h.go
  clear h G hn hin hs M T
  generalize (levelG g n false : Int) = L at *
  generalize g.parent.length = n1 at *
  generalize g.bound.length = n2 at *
  generalize g.nodes.length = n3 at *
  generalize g.edges.length = n4 at *
  go_enter Try.func37, Try.ntmps37
  go_wp2_with fail
  refine gen_world (fun W2 => Below w.heap.size w W2 ∧ rowOf W2 w.heap.size = some #[.slice p1 n1 c1, .slice p2 n2 c2, .slice p3 n3 c3, .slice p4 n4 c4]) ⟨by go_grown, row_new rfl⟩ ?_
  rintro w2 ⟨hB2, hr2⟩
  have HB2 := Lib.hid hB2
  have x0 := fun p : Bx w2 => bx_cell (rowOf_cell hr2 0 : _ = some (.slice p1 n1 c1)) p
  have x1 := fun p : Bx w2 => bx_cell (rowOf_cell hr2 1 : _ = some (.slice p2 n2 c2)) p
  have x2 := fun p : Bx w2 => bx_cell (rowOf_cell hr2 2 : _ = some (.slice p3 n3 c3)) p
  have x3 := fun p : Bx w2 => bx_cell (rowOf_cell hr2 3 : _ = some (.slice p4 n4 c4)) p
  have K1 : Hid (∀ p : Bx w2, Calls Try.prog 58 #[.agg #[.slice p1 n1 c1, .slice p2 n2 c2, .slice p3 n3 c3, .slice p4 n4 c4], .int .i64 (n : Int)] p.w (Ret (.int .i64 (s : Int)) p.w)) := fun p => H1.out p.w (bstep HB2.out p.h HB2.out.size)
  have K2 : Hid (∀ p : Bx w2, Calls Try.prog 57 #[.agg #[.slice p1 n1 c1, .slice p2 n2 c2, .slice p3 n3 c3, .slice p4 n4 c4], .int .i64 (s : Int)] p.w (Ret (.int .i64 L) p.w)) := fun p => H2.out p.w (bstep HB2.out p.h HB2.out.size)
  clear hB2 hr2 H1 H2
  refine wp_region_bx (by kernel_rfl) (by kernel_rfl) ?_
  repeat (first | go_big_quiet_step (first | (with_reducible exact Calls.bx (K1.out _)) | (with_reducible exact Calls.bx (K2.out _))) | quiet_step (first | (with_reducible exact Calls.bx (K1.out _)) | (with_reducible exact Calls.bx (K2.out _))))
  refine wpQuiet_nil ?_
  intro _ hw'
  obtain ⟨g9, hw''⟩ := hw'
  subst hw''
  have HB9 := Lib.hid (bstep HB2.out g9.h HB2.out.size)
  generalize g9.w = w9 at HB9 ⊢
  clear x0 x1 x2 x3 K1 K2
  go_wp2
  go_returns
  exact ⟨rfl, HB9.out⟩
end Go.Proofs.Ytacmdkbmakfdkaa
/- the program's small functions of valid: Ports, gathers, scopeSuits, argMayBe, programMayBe -/
namespace Go.Proofs.Ytacmdkbmakfdkaa
open Go.RowKit
set_option linter.unusedVariables false
set_option linter.unusedSimpArgs false

set_option maxRecDepth 100000 in
set_option maxHeartbeats 8000000 in
theorem pports_any (k : Int) (w : World) : Calls Try.prog 54 #[.int .i64 k] w (Ret (.int .i64 (portsG k)) w) := by
  by_cases h5 : k = 5
  · subst h5
    go_enter Try.func54, Try.ntmps54
    go_wp2
    go_returns
    exact ⟨rfl, by go_grown⟩
  by_cases h9 : k = 9
  · subst h9
    go_enter Try.func54, Try.ntmps54
    go_wp2
    go_returns
    exact ⟨rfl, by go_grown⟩
  have e5 : (k == 5) = false := by simpa using h5
  have e9 : (k == 9) = false := by simpa using h9
  by_cases h1 : 1 < k
  · by_cases h2 : k ≤ 15
    · rw [show portsG k = 1 by unfold portsG; rw [if_neg (by omega), if_pos (by omega)]]
      clear h5 h9
      go_enter Try.func54, Try.ntmps54
      go_wp2
      go_returns
      exact ⟨rfl, by go_grown⟩
    · rw [show portsG k = 0 by unfold portsG; rw [if_neg (by omega), if_neg (by omega)]]
      clear h5 h9
      go_enter Try.func54, Try.ntmps54
      go_wp2
      go_returns
      exact ⟨rfl, by go_grown⟩
  · rw [show portsG k = 0 by unfold portsG; rw [if_neg (by omega), if_neg (by omega)]]
    clear h5 h9
    go_enter Try.func54, Try.ntmps54
    go_wp2
    go_returns
    exact ⟨rfl, by go_grown⟩
def gathersG (k : Int) : Bool := decide (k = 6 ∨ k = 7 ∨ k = 8 ∨ k = 9 ∨ k = 14)
set_option maxRecDepth 100000 in
set_option maxHeartbeats 8000000 in
theorem pgathers_any (k : Int) (w : World) : Calls Try.prog 78 #[.int .i64 k] w (Ret (.bool (gathersG k)) w) := by
  by_cases hk : k = 6 ∨ k = 7 ∨ k = 8 ∨ k = 9 ∨ k = 14
  · rw [show gathersG k = true from decide_eq_true hk]
    rcases hk with rfl | rfl | rfl | rfl | rfl
    all_goals
      go_enter Try.func78, Try.ntmps78
      go_wp2
      go_returns
      exact ⟨rfl, by go_grown⟩
  · rw [show gathersG k = false from decide_eq_false hk]
    have kb6 : (k == 6) = false := by simp; omega
    have kb7 : (k == 7) = false := by simp; omega
    have kb8 : (k == 8) = false := by simp; omega
    have kb9 : (k == 9) = false := by simp; omega
    have kb14 : (k == 14) = false := by simp; omega
    clear hk
    go_enter Try.func78, Try.ntmps78
    go_wp2
    go_returns
    exact ⟨rfl, by go_grown⟩
def suitsG (k s : Int) : Bool := if k = 10 ∨ k = 11 ∨ k = 12 then decide (s ≠ 0) else if k = 1 ∨ k = 15 then decide (s = 0) else true
set_option maxRecDepth 100000 in
set_option maxHeartbeats 8000000 in
theorem psuits_any (k s a : Int) (p : Option Addr) (n c : Nat) (w : World) : Calls Try.prog 72 #[.agg #[.int .i64 k, .int .i64 s, .int .i64 a, .slice p n c]] w (Ret (.bool (suitsG k s)) w) := by
  have HB0 := Lib.hid ((Below.refl w.heap.size w).alloc (Nat.le_refl _) (.cells #[.int .i64 k, .int .i64 s, .int .i64 a, .slice p n c] 51))
  have two : ∀ V : Bool, Hid (V = V) := fun _ => rfl
  by_cases hk : k = 10 ∨ k = 11 ∨ k = 12
  · rw [show suitsG k s = decide (s ≠ 0) from if_pos hk]
    by_cases hs : s = 0
    · subst hs
      rcases hk with rfl | rfl | rfl
      all_goals
        go_enter Try.func72, Try.ntmps72
        go_wp2
        go_returns
        exact ⟨rfl, HB0.out⟩
    · have e0 : (s == 0) = false := by simpa using hs
      have e1 : (s != 0) = true := by simpa using hs
      rw [decide_eq_true hs]
      rcases hk with rfl | rfl | rfl
      all_goals
        go_enter Try.func72, Try.ntmps72
        go_wp2
        go_returns
        exact ⟨by simp [e0, e1], HB0.out⟩
  · by_cases hk2 : k = 1 ∨ k = 15
    · rw [show suitsG k s = decide (s = 0) from by unfold suitsG; rw [if_neg hk, if_pos hk2]]
      clear hk
      by_cases hs : s = 0
      · subst hs
        rcases hk2 with rfl | rfl
        all_goals
          go_enter Try.func72, Try.ntmps72
          go_wp2
          go_returns
          exact ⟨rfl, HB0.out⟩
      · have e0 : (s == 0) = false := by simpa using hs
        rw [decide_eq_false hs]
        rcases hk2 with rfl | rfl
        all_goals
          go_enter Try.func72, Try.ntmps72
          go_wp2
          go_returns
          exact ⟨by simp [e0], HB0.out⟩
    · rw [show suitsG k s = true from by unfold suitsG; rw [if_neg hk, if_neg hk2]]
      have kb10 : (k == 10) = false := by simp; omega
      have kb11 : (k == 11) = false := by simp; omega
      have kb12 : (k == 12) = false := by simp; omega
      have kb1 : (k == 1) = false := by simp; omega
      have kb15 : (k == 15) = false := by simp; omega
      clear hk hk2
      go_enter Try.func72, Try.ntmps72
      go_wp2
      go_returns
      exact ⟨rfl, HB0.out⟩
def argG (k a : Int) : Bool := if k = 4 then decide (1 ≤ a) else if k = 3 then true else decide (a = 0)
set_option maxRecDepth 100000 in
set_option maxHeartbeats 8000000 in
theorem pargs_any (k s a : Int) (p : Option Addr) (n c : Nat) (w : World) : Calls Try.prog 74 #[.agg #[.int .i64 k, .int .i64 s, .int .i64 a, .slice p n c]] w (Ret (.bool (argG k a)) w) := by
  have HB0 := Lib.hid ((Below.refl w.heap.size w).alloc (Nat.le_refl _) (.cells #[.int .i64 k, .int .i64 s, .int .i64 a, .slice p n c] 51))
  by_cases h4 : k = 4
  · subst h4
    rw [show argG 4 a = decide (1 ≤ a) from if_pos rfl]
    go_enter Try.func74, Try.ntmps74
    go_wp2
    go_returns
    exact ⟨by simp, HB0.out⟩
  · have kb4 : (k == 4) = false := by simpa using h4
    by_cases h3 : k = 3
    · subst h3
      rw [show argG 3 a = true from rfl]
      go_enter Try.func74, Try.ntmps74
      go_wp2
      go_returns
      exact ⟨rfl, HB0.out⟩
    · have kb3 : (k == 3) = false := by simpa using h3
      rw [show argG k a = decide (a = 0) from by unfold argG; rw [if_neg h4, if_neg h3]]
      clear h4 h3
      by_cases ha : a = 0
      · subst ha
        go_enter Try.func74, Try.ntmps74
        go_wp2
        go_returns
        exact ⟨rfl, HB0.out⟩
      · have e0 : (a == 0) = false := by simpa using ha
        rw [decide_eq_false ha]
        go_enter Try.func74, Try.ntmps74
        go_wp2
        go_returns
        exact ⟨by simp [e0], HB0.out⟩
def progG (k : Int) (l : List NV) : Bool := if k = 2 then rightC l else decide (l.length = 0)
set_option maxRecDepth 100000 in
set_option maxHeartbeats 8000000 in
theorem pprogM_any (k s a : Int) (p : Option Addr) (c : Nat) (l : List NV) (w : World) (hl : l.length ≤ 900000) (h : RC.Is w (.slice p l.length c) l) : Calls Try.prog 75 #[.agg #[.int .i64 k, .int .i64 s, .int .i64 a, .slice p l.length c]] w (Ret (.bool (progG k l)) w) := by
  have HB0 := Lib.hid ((Below.refl w.heap.size w).alloc (Nat.le_refl _) (.cells #[.int .i64 k, .int .i64 s, .int .i64 a, .slice p l.length c] 51))
  have H1 : Hid (∀ W, Below w.heap.size w W → Calls Try.prog 96 #[.slice p l.length c] W (Ret (.bool (rightC l)) W)) := fun W hW => pright_any l _ W hl (h.below hW)
  clear h
  by_cases h2 : k = 2
  · subst h2
    rw [show progG 2 l = rightC l from if_pos rfl]
    generalize rightC l = r at *
    generalize l.length = n at *
    go_enter Try.func75, Try.ntmps75
    go_wp2_with fail
    refine (H1.out _ HB0.out).mono ?_
    rintro e w1 ⟨rfl, hb⟩
    have HB1 := Lib.hid (bstep HB0.out hb HB0.out.size)
    clear hb
    go_wp2
    go_returns
    exact ⟨rfl, HB1.out⟩
  · have kb2 : (k == 2) = false := by simpa using h2
    rw [show progG k l = decide (l.length = 0) from if_neg h2]
    generalize l.length = n at *
    clear H1 h2
    by_cases hn : n = 0
    · subst hn
      go_enter Try.func75, Try.ntmps75
      go_wp2
      go_returns
      exact ⟨rfl, HB0.out⟩
    · have e0 : ((n : Int) == 0) = false := by simp; omega
      rw [decide_eq_false hn]
      go_enter Try.func75, Try.ntmps75
      go_wp2
      go_returns
      exact ⟨by simp [e0, hn], HB0.out⟩
end Go.Proofs.Ytacmdkbmakfdkaa
