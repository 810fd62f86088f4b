/- the program's checkScopes, checkNode, checkNodes; written by gen/mb3.py -/
import Derived.Test.YtjaahmgokiobjaaGreatG19
namespace Go.Proofs.YtjaahmgokiobjaaGreat
open Go.RowKit
set_option linter.unusedVariables false
set_option linter.unusedSimpArgs false

/-- an error's number and a place; no error just if it holds -/
def RetChk (ok : Prop) (w : World) (e : Ending) (w' : World) : Prop := ∃ a b : Int, e = .returned (.tuple #[.int .i64 a, .int .i64 b]) ∧ (a = 0 ↔ ok) ∧ Below w.heap.size w w'
structure SmallG (g : GV) : Prop where
  p : g.parent.length ≤ 900000
  b : g.bound.length ≤ 900000
  n : g.nodes.length ≤ 900000
  e : g.edges.length ≤ 900000
  pr : ∀ j, j < g.nodes.length → g.nodes[j]!.prog.length ≤ 900000
set_option maxRecDepth 100000 in
set_option maxHeartbeats 8000000 in
theorem pscopesC_any (g : GV) (v : Value) (w : World) (h : IsG w v g) (hl : g.parent.length ≤ 900000) (hl2 : g.bound.length ≤ 900000) :
    Calls Tryz.prog 29 #[v] w (RetChk (runS g) w) := by
  have HS : Hid (∀ k : Nat, k < g.parent.length → g.bound.length = g.parent.length → (∀ j, j < k → scopeE g j = 0) → ∀ W, Below w.heap.size w W → Calls Tryz.prog 54 #[v, .int .i64 (k : Int)] W (Ret (.bool (decide (scopeE g k = 0))) W)) := fun k hk hb hp W hW => pscope_any g v k W (h.below hW) hk hb hl hp
  have HNo : Hid ((g.parent.length = 0 ∨ 8 < g.parent.length ∨ g.parent.length ≠ g.bound.length) → ¬ runS g) := fun c r => r.1 c
  have HYes : Hid (¬ (g.parent.length = 0 ∨ 8 < g.parent.length ∨ g.parent.length ≠ g.bound.length) → (∀ j, j < g.parent.length → scopeE g j = 0) → runS g) := fun c r => ⟨c, r⟩
  have HBad : Hid (∀ k, k < g.parent.length → ¬ scopeE g k = 0 → ¬ runS g) := fun k hk hz r => hz (r.2 k hk)
  obtain ⟨p1, c1, p2, c2, p3, c3, p4, c4, rfl, G⟩ := h.go
  clear h G
  generalize runS g = R at *
  generalize g.parent.length = n1 at *
  generalize g.bound.length = n2 at *
  generalize g.nodes.length = n3 at *
  generalize g.edges.length = n4 at *
  have HB0 := Lib.hid ((Below.refl w.heap.size w).alloc (Nat.le_refl _) (.cells #[.slice p1 n1 c1, .slice p2 n2 c2, .slice p3 n3 c3, .slice p4 n4 c4] 26))
  have HX0 : Hid (rowOf (w.alloc (.cells #[.slice p1 n1 c1, .slice p2 n2 c2, .slice p3 n3 c3, .slice p4 n4 c4] 26)) w.heap.size = some #[.slice p1 n1 c1, .slice p2 n2 c2, .slice p3 n3 c3, .slice p4 n4 c4]) := row_new rfl
  by_cases a1 : n1 < 1
  · have hR := Lib.hid (HNo.out (.inl (by omega)))
    have a1z : (n1 : Int) < 1 := by omega
    clear HS HNo HYes HBad
    go_enter Tryz.func29, Tryz.ntmps29
    go_wp2
    go_returns
    exact ⟨6, _, rfl, ⟨fun e => by simp at e, fun hok => absurd hok hR.out⟩, HB0.out⟩
  have a1z : ¬ (n1 : Int) < 1 := by omega
  by_cases a2 : 8 < n1
  · have hR := Lib.hid (HNo.out (.inr (.inl a2)))
    have a2z : (n1 : Int) > 8 := by omega
    clear HS HNo HYes HBad
    go_enter Tryz.func29, Tryz.ntmps29
    go_wp2
    go_returns
    exact ⟨6, _, rfl, ⟨fun e => by simp at e, fun hok => absurd hok hR.out⟩, HB0.out⟩
  have a2z : ¬ (n1 : Int) > 8 := by omega
  by_cases a3 : n2 = n1
  · have HY := Lib.hid (HYes.out (by omega))
    have HSk := Lib.hid (fun k (hk : k < n1) => HS.out k hk a3)
    clear HS HNo HYes
    subst a3
    go_enter Tryz.func29, Tryz.ntmps29
    go_wp2
    go_loopg [23] n2 (fun gg iv wr => ∃ k : Nat, k ≤ n2 ∧ n2 - k ≤ gg ∧ iv = .int .i64 (k : Int) ∧ Hid (∀ j, j < k → scopeE g j = 0) ∧ Hid (Below w.heap.size w wr) ∧ Hid (rowOf wr w.heap.size = some #[.slice p1 n2 c1, .slice p2 n2 c2, .slice p3 n3 c3, .slice p4 n4 c4]))
    case atStart => exact ⟨0, Nat.zero_le _, by omega, rfl, fun j hj => by omega, HB0.out, HX0.out⟩
    case round =>
      obtain ⟨k, hk, hg, rfl, HP, HB, HX⟩ := hrel
      by_cases hlt : k < n2
      · have hlz : (k : Int) < (n2 : Int) := by omega
        have HC := Lib.hid (HSk.out k hlt HP.out)
        have g_0 := (rowOf_cell HX.out 0 : _ = some (Value.slice p1 n2 c1))
        have g_1 := (rowOf_cell HX.out 1 : _ = some (Value.slice p2 n2 c2))
        have g_2 := (rowOf_cell HX.out 2 : _ = some (Value.slice p3 n3 c3))
        have g_3 := (rowOf_cell HX.out 3 : _ = some (Value.slice p4 n4 c4))
        clear HB0 HX0
        go_wp2_with fail
        refine (HC.out _ HB.out).mono ?_
        rintro e w3 ⟨rfl, hb⟩
        have HB3 := Lib.hid (bstep HB.out hb HB.out.size)
        have HX3 := Lib.hid (rowOf_below HX.out hb (rowOf_lt HX.out))
        clear hb g_0 g_1 g_2 g_3 HC
        by_cases hz : scopeE g k = 0
        · rw [decide_eq_true hz]
          have HP2 : Hid (∀ j, j < k + 1 → scopeE g j = 0) := fun j hj => by
            by_cases e : j = k
            · rw [e]; exact hz
            · exact HP.out j (by omega)
          clear hz HSk HP
          go_wp2
          go_roundg (n2 - (k + 1))
          case measure => omega
          case rel => exact ⟨k + 1, by omega, by omega, by go_num, HP2.out, HB3.out, HX3.out⟩
        · rw [decide_eq_false hz]
          have hR := Lib.hid (HBad.out k hlt hz)
          clear hz HSk HP HBad HY
          go_wp2
          go_returns
          exact ⟨6, _, rfl, ⟨fun e => by simp at e, fun hok => absurd hok hR.out⟩, HB3.out⟩
      · have hlz : ¬ (k : Int) < (n2 : Int) := by omega
        obtain rfl : n2 = k := by omega
        have hR := HY.out HP.out
        clear HSk HBad HY HB0 HX0
        go_wp2
        go_returns
        exact ⟨0, _, rfl, ⟨fun _ => hR, fun _ => rfl⟩, HB.out⟩
  · have hR := Lib.hid (HNo.out (.inr (.inr (fun e => a3 e.symm))))
    have a3z : ¬ (n2 : Int) = (n1 : Int) := by omega
    have a3b : ((n2 : Int) != (n1 : Int)) = true := by simp; omega
    clear HS HNo HYes HBad a3
    go_enter Tryz.func29, Tryz.ntmps29
    go_wp2
    go_returns
    exact ⟨6, _, rfl, ⟨fun e => by simp at e, fun hok => absurd hok hR.out⟩, HB0.out⟩
theorem nodeV_in {k s : Int} {n1 : Nat} {fo : Bool} {ar : Int} {l : List NV} (h1 : 1 ≤ k) (h2 : k ≤ 15) (h3 : 0 ≤ s) (h4 : s < (n1 : Int)) :
    nodeV k s n1 fo ar (rightC l) l.length = if suitsG k s = false then 6 else if fo = false then 6 else if argG k ar = false then 1 else if progG k l = false then 13 else 0 := by
  have e1 : ((s = 0 ∧ 10 ≤ k ∧ k ≤ 12) ∨ (0 < s ∧ (k = 1 ∨ k = 15))) ↔ suitsG k s = false := by
    unfold suitsG
    split
    · rw [decide_eq_false_iff_not]; omega
    · split
      · rw [decide_eq_false_iff_not]; omega
      · simp; omega
  have e2 : ((k = 4 ∧ ar < 1) ∨ (k ≠ 4 ∧ k ≠ 3 ∧ ar ≠ 0)) ↔ argG k ar = false := by
    unfold argG
    split
    · rw [decide_eq_false_iff_not]; omega
    · split
      · simp; omega
      · rw [decide_eq_false_iff_not]; omega
  have e3 : ((k = 2 ∧ rightC l = false) ∨ (k ≠ 2 ∧ 0 < l.length)) ↔ progG k l = false := by
    unfold progG
    split
    · rename_i e
      constructor
      · rintro (c | c)
        · exact c.2
        · exact absurd e c.1
      · intro c; exact .inl ⟨e, c⟩
    · rename_i e
      rw [decide_eq_false_iff_not]
      constructor
      · rintro (c | c)
        · exact absurd c.1 e
        · omega
      · intro c; exact .inr ⟨e, by omega⟩
  unfold nodeV
  rw [if_neg (by omega), if_neg (by omega)]
  simp only [e1, e2, e3]
set_option maxRecDepth 100000 in
set_option maxHeartbeats 8000000 in
theorem pnode_any (g : GV) (v : Value) (i : Nat) (w : World) (h : IsG w v g) (hcap : capsG v) (T : Tree g) (hi : i < g.nodes.length) (S : SmallG g) (hs : ∀ j, j < i → scopeOk g j) :
    Calls Tryz.prog 55 #[v, .int .i64 (i : Int)] w (Ret (.int .i64 (nodeE g i)) w) := by
  have HFi : Hid (scopeOk g i → ∀ W, Below w.heap.size w W → Calls Tryz.prog 80 #[v, .int .i64 (i : Int)] W (Ret (.bool (followsG g i)) W)) := fun h0 W hW => pfitsC_any g v i W (h.below hW) hcap T hi S.n S.p fun j hj => by
    by_cases e : j = i
    · rw [e]; exact h0
    · exact hs j (by omega)
  obtain ⟨p1, c1, p2, c2, p3, c3, p4, c4, rfl, G⟩ := h.go
  clear h hcap T hs
  obtain ⟨b3, off3, q, c, rfl, hq, hc0⟩ := G.nod i hi
  have HC0 := Lib.hid hc0
  have hpl := S.pr i hi
  unfold scopeOk at HFi
  have HN1 : Hid (∀ W, Below w.heap.size w W → RC.Is W (.slice q g.nodes[i]!.prog.length c) g.nodes[i]!.prog) := fun W hW => hq.below hW
  generalize hV : nodeE g i = V
  unfold nodeE at hV
  generalize followsG g i = fo at *
  generalize g.nodes[i]!.kind = k at *
  generalize g.nodes[i]!.scope = s at *
  generalize g.nodes[i]!.arg = a at *
  generalize hlp : g.nodes[i]!.prog = lp at *
  have H1 := Lib.hid (fun W => psuits_any k s a q lp.length c W)
  have H3 := Lib.hid (fun W => pargs_any k s a q lp.length c W)
  have H4 : Hid (∀ W, Below w.heap.size w W → Calls Tryz.prog 82 #[.agg #[.int .i64 k, .int .i64 s, .int .i64 a, .slice q lp.length c]] W (Ret (.bool (progG k lp)) W)) := fun W hW => pprogM_any k s a q c lp W hpl (HN1.out W hW)
  have hil : (i : Int) < (g.nodes.length : Int) := by omega
  have hVin : Hid (1 ≤ k → k ≤ 15 → 0 ≤ s → s < (g.parent.length : Int) → V = if suitsG k s = false then 6 else if fo = false then 6 else if argG k a = false then 1 else if progG k lp = false then 13 else 0) := fun x1 x2 x3 x4 => by rw [← hV]; exact nodeV_in x1 x2 x3 x4
  have hVk : Hid (k < 1 ∨ 15 < k → V = 1) := fun x => by rw [← hV]; unfold nodeV; rw [if_pos x]
  have hVs : Hid (1 ≤ k → k ≤ 15 → s < 0 ∨ (g.parent.length : Int) ≤ s → V = 6) := fun x1 x2 x => by rw [← hV]; unfold nodeV; rw [if_neg (by omega), if_pos x]
  clear hV hlp hq hc0 HN1 S G
  generalize suitsG k s = f1 at *
  generalize argG k a = f3 at *
  generalize progG k lp = f4 at *
  generalize lp.length = m at *
  obtain ⟨z0, z1, z2, z3⟩ := HC0.out _ ((Below.refl w.heap.size w).alloc (Nat.le_refl _) (.cells #[.slice p1 g.parent.length c1, .slice p2 g.bound.length c2, .slice (some ⟨b3, off3, none⟩) g.nodes.length c3, .slice p4 g.edges.length c4] 26))
  clear HC0 hpl
  generalize g.parent.length = n1 at *
  generalize g.bound.length = n2 at *
  generalize g.nodes.length = n3 at *
  generalize g.edges.length = n4 at *
  have HB0 := Lib.hid ((Below.refl w.heap.size w).alloc (Nat.le_refl _) (.cells #[.slice p1 n1 c1, .slice p2 n2 c2, .slice (some ⟨b3, off3, none⟩) n3 c3, .slice p4 n4 c4] 26))
  have HX0 : Hid (rowOf (w.alloc (.cells #[.slice p1 n1 c1, .slice p2 n2 c2, .slice (some ⟨b3, off3, none⟩) n3 c3, .slice p4 n4 c4] 26)) w.heap.size = some #[.slice p1 n1 c1, .slice p2 n2 c2, .slice (some ⟨b3, off3, none⟩) n3 c3, .slice p4 n4 c4]) := row_new rfl
  go_enter Tryz.func55, Tryz.ntmps55
  go_upto_region 2 with (fail)
  refine gen_world (fun W2 => Hid (Below w.heap.size w W2) ∧ Hid (rowOf W2 w.heap.size = some #[.slice p1 n1 c1, .slice p2 n2 c2, .slice (some ⟨b3, off3, none⟩) n3 c3, .slice p4 n4 c4]) ∧ Hid (rowOf W2 (w.heap.size + 1) = some #[.int .i64 k, .int .i64 s, .int .i64 a, .slice q m c])) ⟨Lib.hid (HB0.out.alloc (by simp) _), Lib.hid (row_old HX0.out), Lib.hid (row_new (by simp))⟩ ?_
  clear HB0 HX0 z0 z1 z2 z3
  rintro w1 ⟨HB1, HX1, HY1⟩
  have g_0 := (rowOf_cell HX1.out 0 : _ = some (Value.slice p1 n1 c1))
  have g_1 := (rowOf_cell HX1.out 1 : _ = some (Value.slice p2 n2 c2))
  have g_2 := (rowOf_cell HX1.out 2 : _ = some (Value.slice (some ⟨b3, off3, none⟩) n3 c3))
  have g_3 := (rowOf_cell HX1.out 3 : _ = some (Value.slice p4 n4 c4))
  have y_0 := (rowOf_cell HY1.out 0 : _ = some (Value.int .i64 k))
  have y_1 := (rowOf_cell HY1.out 1 : _ = some (Value.int .i64 s))
  have y_2 := (rowOf_cell HY1.out 2 : _ = some (Value.int .i64 a))
  have y_3 := (rowOf_cell HY1.out 3 : _ = some (Value.slice q m c))
  by_cases a1 : k < 1
  · obtain rfl := hVk.out (.inl a1)
    clear hVk hVs hVin H1 H3 H4 HFi
    go_wp2
    go_returns
    exact ⟨rfl, HB1.out⟩
  by_cases a2 : k > 15
  · obtain rfl := hVk.out (.inr a2)
    clear hVk hVs hVin H1 H3 H4 HFi
    go_wp2
    go_returns
    exact ⟨rfl, HB1.out⟩
  by_cases a3 : s < 0
  · obtain rfl := hVs.out (by omega) (by omega) (.inl a3)
    clear hVk hVs hVin H1 H3 H4 HFi
    go_wp2
    go_returns
    exact ⟨rfl, HB1.out⟩
  by_cases a4 : s ≥ (n1 : Int)
  · obtain rfl := hVs.out (by omega) (by omega) (.inr a4)
    clear hVk hVs hVin H1 H3 H4 HFi
    go_wp2
    go_returns
    exact ⟨rfl, HB1.out⟩
  have HV := Lib.hid (hVin.out (by omega) (by omega) (by omega) (by omega))
  have H2 := Lib.hid (HFi.out ⟨by omega, by omega⟩)
  clear hVk hVs hVin HFi
  go_wp2_with fail
  refine (H1.out _).mono ?_
  rintro e w2 ⟨rfl, hb⟩
  have HB2 := Lib.hid (bstep HB1.out hb HB1.out.size)
  have HX2 := Lib.hid (rowOf_below HX1.out hb (rowOf_lt HX1.out))
  have HY2 := Lib.hid (rowOf_below HY1.out hb (rowOf_lt HY1.out))
  clear hb g_0 g_1 g_2 g_3 y_0 y_1 y_2 y_3
  have g_0 := (rowOf_cell HX2.out 0 : _ = some (Value.slice p1 n1 c1))
  have g_1 := (rowOf_cell HX2.out 1 : _ = some (Value.slice p2 n2 c2))
  have g_2 := (rowOf_cell HX2.out 2 : _ = some (Value.slice (some ⟨b3, off3, none⟩) n3 c3))
  have g_3 := (rowOf_cell HX2.out 3 : _ = some (Value.slice p4 n4 c4))
  have y_0 := (rowOf_cell HY2.out 0 : _ = some (Value.int .i64 k))
  have y_1 := (rowOf_cell HY2.out 1 : _ = some (Value.int .i64 s))
  have y_2 := (rowOf_cell HY2.out 2 : _ = some (Value.int .i64 a))
  have y_3 := (rowOf_cell HY2.out 3 : _ = some (Value.slice q m c))
  cases f1
  · obtain rfl : V = 6 := HV.out
    clear H2 H3 H4 H1 HV
    go_wp2
    go_returns
    exact ⟨rfl, HB2.out⟩
  replace HV : Hid (V = if fo = false then 6 else if f3 = false then 1 else if f4 = false then 13 else 0) := HV.out
  go_wp2_with fail
  refine (H2.out _ HB2.out).mono ?_
  rintro e w3 ⟨rfl, hb⟩
  have HB3 := Lib.hid (bstep HB2.out hb HB2.out.size)
  have HX3 := Lib.hid (rowOf_below HX2.out hb (rowOf_lt HX2.out))
  have HY3 := Lib.hid (rowOf_below HY2.out hb (rowOf_lt HY2.out))
  clear hb g_0 g_1 g_2 g_3 y_0 y_1 y_2 y_3
  have g_0 := (rowOf_cell HX3.out 0 : _ = some (Value.slice p1 n1 c1))
  have g_1 := (rowOf_cell HX3.out 1 : _ = some (Value.slice p2 n2 c2))
  have g_2 := (rowOf_cell HX3.out 2 : _ = some (Value.slice (some ⟨b3, off3, none⟩) n3 c3))
  have g_3 := (rowOf_cell HX3.out 3 : _ = some (Value.slice p4 n4 c4))
  have y_0 := (rowOf_cell HY3.out 0 : _ = some (Value.int .i64 k))
  have y_1 := (rowOf_cell HY3.out 1 : _ = some (Value.int .i64 s))
  have y_2 := (rowOf_cell HY3.out 2 : _ = some (Value.int .i64 a))
  have y_3 := (rowOf_cell HY3.out 3 : _ = some (Value.slice q m c))
  cases fo
  · obtain rfl : V = 6 := HV.out
    clear H2 H3 H4 H1 HV
    go_wp2
    go_returns
    exact ⟨rfl, HB3.out⟩
  replace HV : Hid (V = if f3 = false then 1 else if f4 = false then 13 else 0) := HV.out
  go_wp2_with fail
  refine (H3.out _).mono ?_
  rintro e w4 ⟨rfl, hb⟩
  have HB4 := Lib.hid (bstep HB3.out hb HB3.out.size)
  have HX4 := Lib.hid (rowOf_below HX3.out hb (rowOf_lt HX3.out))
  have HY4 := Lib.hid (rowOf_below HY3.out hb (rowOf_lt HY3.out))
  clear hb g_0 g_1 g_2 g_3 y_0 y_1 y_2 y_3
  have g_0 := (rowOf_cell HX4.out 0 : _ = some (Value.slice p1 n1 c1))
  have g_1 := (rowOf_cell HX4.out 1 : _ = some (Value.slice p2 n2 c2))
  have g_2 := (rowOf_cell HX4.out 2 : _ = some (Value.slice (some ⟨b3, off3, none⟩) n3 c3))
  have g_3 := (rowOf_cell HX4.out 3 : _ = some (Value.slice p4 n4 c4))
  have y_0 := (rowOf_cell HY4.out 0 : _ = some (Value.int .i64 k))
  have y_1 := (rowOf_cell HY4.out 1 : _ = some (Value.int .i64 s))
  have y_2 := (rowOf_cell HY4.out 2 : _ = some (Value.int .i64 a))
  have y_3 := (rowOf_cell HY4.out 3 : _ = some (Value.slice q m c))
  cases f3
  · obtain rfl : V = 1 := HV.out
    clear H2 H3 H4 H1 HV
    go_wp2
    go_returns
    exact ⟨rfl, HB4.out⟩
  replace HV : Hid (V = if f4 = false then 13 else 0) := HV.out
  go_wp2_with fail
  refine (H4.out _ HB4.out).mono ?_
  rintro e w5 ⟨rfl, hb⟩
  have HB5 := Lib.hid (bstep HB4.out hb HB4.out.size)
  have HX5 := Lib.hid (rowOf_below HX4.out hb (rowOf_lt HX4.out))
  have HY5 := Lib.hid (rowOf_below HY4.out hb (rowOf_lt HY4.out))
  clear hb g_0 g_1 g_2 g_3 y_0 y_1 y_2 y_3
  cases f4
  · obtain rfl : V = 13 := HV.out
    clear H2 H3 H4 H1 HV
    go_wp2
    go_returns
    exact ⟨rfl, HB5.out⟩
  · obtain rfl : V = 0 := HV.out
    clear H2 H3 H4 H1 HV
    go_wp2
    go_returns
    exact ⟨rfl, HB5.out⟩
set_option maxRecDepth 100000 in
set_option maxHeartbeats 8000000 in
theorem pnodesC_any (g : GV) (v : Value) (w : World) (h : IsG w v g) (hcap : capsG v) (T : Tree g) (S : SmallG g) :
    Calls Tryz.prog 30 #[v] w (RetChk (runN g) w) := by
  have HS : Hid (∀ k : Nat, k < g.nodes.length → (∀ j, j < k → nodeE g j = 0) → ∀ W, Below w.heap.size w W → Calls Tryz.prog 55 #[v, .int .i64 (k : Int)] W (Ret (.int .i64 (nodeE g k)) W)) := fun k hk hp W hW => pnode_any g v k W (h.below hW) hcap T hk S fun j hj => node_ok (hp j hj)
  have HNo : Hid ((g.nodes.length = 0 ∨ 32 < g.nodes.length ∨ 64 < g.edges.length) → ¬ runN g) := fun c r => r.1 c
  have HYes : Hid (¬ (g.nodes.length = 0 ∨ 32 < g.nodes.length ∨ 64 < g.edges.length) → (∀ j, j < g.nodes.length → nodeE g j = 0) → runN g) := fun c r => ⟨c, r⟩
  have HBad : Hid (∀ k, k < g.nodes.length → ¬ nodeE g k = 0 → ¬ runN g) := fun k hk hz r => hz (r.2 k hk)
  obtain ⟨p1, c1, p2, c2, p3, c3, p4, c4, rfl, G⟩ := h.go
  have hn9 := S.n
  clear h G hcap T S
  generalize runN g = R at *
  generalize g.parent.length = n1 at *
  generalize g.bound.length = n2 at *
  generalize g.nodes.length = n3 at *
  generalize g.edges.length = n4 at *
  have HB0 := Lib.hid ((Below.refl w.heap.size w).alloc (Nat.le_refl _) (.cells #[.slice p1 n1 c1, .slice p2 n2 c2, .slice p3 n3 c3, .slice p4 n4 c4] 26))
  have HX0 : Hid (rowOf (w.alloc (.cells #[.slice p1 n1 c1, .slice p2 n2 c2, .slice p3 n3 c3, .slice p4 n4 c4] 26)) w.heap.size = some #[.slice p1 n1 c1, .slice p2 n2 c2, .slice p3 n3 c3, .slice p4 n4 c4]) := row_new rfl
  by_cases a1 : n3 < 1
  · have hR := Lib.hid (HNo.out (.inl (by omega)))
    have a1z : (n3 : Int) < 1 := by omega
    clear HS HNo HYes HBad
    go_enter Tryz.func30, Tryz.ntmps30
    go_wp2
    go_returns
    exact ⟨11, _, rfl, ⟨fun e => by simp at e, fun hok => absurd hok hR.out⟩, HB0.out⟩
  have a1z : ¬ (n3 : Int) < 1 := by omega
  by_cases a2 : 32 < n3
  · have hR := Lib.hid (HNo.out (.inr (.inl a2)))
    have a2z : (n3 : Int) > 32 := by omega
    clear HS HNo HYes HBad
    go_enter Tryz.func30, Tryz.ntmps30
    go_wp2
    go_returns
    exact ⟨11, _, rfl, ⟨fun e => by simp at e, fun hok => absurd hok hR.out⟩, HB0.out⟩
  have a2z : ¬ (n3 : Int) > 32 := by omega
  by_cases a3 : 64 < n4
  · have hR := Lib.hid (HNo.out (.inr (.inr a3)))
    have a3z : (n4 : Int) > 64 := by omega
    clear HS HNo HYes HBad
    go_enter Tryz.func30, Tryz.ntmps30
    go_wp2
    go_returns
    exact ⟨11, _, rfl, ⟨fun e => by simp at e, fun hok => absurd hok hR.out⟩, HB0.out⟩
  have a3z : ¬ (n4 : Int) > 64 := by omega
  have HY := Lib.hid (HYes.out (by omega))
  clear HNo HYes a1 a2 a3
  go_enter Tryz.func30, Tryz.ntmps30
  go_wp2
  go_loopg [25] n3 (fun gg iv wr => ∃ k : Nat, k ≤ n3 ∧ n3 - k ≤ gg ∧ iv = .int .i64 (k : Int) ∧ Hid (∀ j, j < k → nodeE g j = 0) ∧ Hid (Below w.heap.size w wr) ∧ Hid (rowOf wr w.heap.size = some #[.slice p1 n1 c1, .slice p2 n2 c2, .slice p3 n3 c3, .slice p4 n4 c4]))
  case atStart => exact ⟨0, Nat.zero_le _, by omega, rfl, fun j hj => by omega, HB0.out, HX0.out⟩
  case round =>
    obtain ⟨k, hk, hg, rfl, HP, HB, HX⟩ := hrel
    by_cases hlt : k < n3
    · have hlz : (k : Int) < (n3 : Int) := by omega
      have HC := Lib.hid (HS.out k hlt HP.out)
      have g_0 := (rowOf_cell HX.out 0 : _ = some (Value.slice p1 n1 c1))
      have g_1 := (rowOf_cell HX.out 1 : _ = some (Value.slice p2 n2 c2))
      have g_2 := (rowOf_cell HX.out 2 : _ = some (Value.slice p3 n3 c3))
      have g_3 := (rowOf_cell HX.out 3 : _ = some (Value.slice p4 n4 c4))
      clear HB0 HX0
      go_wp2_with fail
      refine (HC.out _ HB.out).mono ?_
      rintro e w3 ⟨rfl, hb⟩
      have HB3 := Lib.hid (bstep HB.out hb HB.out.size)
      have HX3 := Lib.hid (rowOf_below HX.out hb (rowOf_lt HX.out))
      clear hb g_0 g_1 g_2 g_3 HC
      by_cases hz : nodeE g k = 0
      · rw [hz]
        have HP2 : Hid (∀ j, j < k + 1 → nodeE g j = 0) := fun j hj => by
          by_cases e : j = k
          · rw [e]; exact hz
          · exact HP.out j (by omega)
        clear hz HS HP
        go_wp2
        go_roundg (n3 - (k + 1))
        case measure => omega
        case rel => exact ⟨k + 1, by omega, by omega, by go_num, HP2.out, HB3.out, HX3.out⟩
      · have hR := Lib.hid (HBad.out k hlt hz)
        generalize nodeE g k = x at *
        have xb : (x != 0) = true := by simpa using hz
        have HZ := Lib.hid hz
        clear hz HS HP HBad HY
        go_wp2
        go_returns
        exact ⟨x, _, rfl, ⟨fun e => absurd e HZ.out, fun hok => absurd hok hR.out⟩, HB3.out⟩
    · have hlz : ¬ (k : Int) < (n3 : Int) := by omega
      obtain rfl : n3 = k := by omega
      have hR := HY.out HP.out
      clear HS HBad HY HB0 HX0
      go_wp2
      go_returns
      exact ⟨0, _, rfl, ⟨fun _ => hR, fun _ => rfl⟩, HB.out⟩
end Go.Proofs.YtjaahmgokiobjaaGreat
