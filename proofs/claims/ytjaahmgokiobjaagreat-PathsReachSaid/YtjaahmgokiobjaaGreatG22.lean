/- the program's checkPorts, Check; written by gen/mb5.py -/
import Derived.Test.YtjaahmgokiobjaaGreatG21
import Derived.Test.YtjaahmgokiobjaaGreatG13
namespace Go.Proofs.YtjaahmgokiobjaaGreat
open Go.RowKit
set_option linter.unusedVariables false
set_option linter.unusedSimpArgs false

theorem gen_cM {P : Program} {f : FuncId} {args : Array Value} {R : Ending → World → Prop} {W : World} (F : World → Prop) (hF : F W) (h : ∀ W2, F W2 → Calls P f args W2 R) : Calls P f args W R := h W hF
set_option maxRecDepth 100000 in
set_option maxHeartbeats 8000000 in
theorem pportsC_any (g : GV) (v : Value) (w : World) (h : IsG w v g) (S : SmallG g) :
    Calls Tryz.prog 32 #[v] w (RetChk (runPt g) w) := by
  obtain ⟨p1, c1, p2, c2, p3, c3, p4, c4, rfl, G⟩ := h.go
  have HHe : Hid (∀ n p : Nat, ∀ W, Below w.heap.size w W → Calls Tryz.prog 58 #[.slice p4 g.edges.length c4, .int .i64 (n : Int), .int .i64 (p : Int)] W (Ret (.bool (hasG g.edges (n : Int) (p : Int))) W)) := fun n p W hW => phas_any g.edges g.edges.length c4 p4 _ _ W S.e fun j hj => by
    obtain ⟨b, off, e, hc⟩ := G.edg j hj
    exact ⟨b, off, e, fun W2 h2 => hc W2 (hW.trans (h2.mono hW.size))⟩
  have HN : Hid (∀ j, j < g.nodes.length → ∃ b off kd s a q m c, p3 = some ⟨b, off, none⟩ ∧ Hid (kd = g.nodes[j]!.kind) ∧ ∀ W, Below w.heap.size w W → W.cell? ⟨b, off + j * 4, none⟩ = some (.int .i64 kd) ∧ W.cell? ⟨b, off + j * 4 + 1, none⟩ = some (.int .i64 s) ∧ W.cell? ⟨b, off + j * 4 + 2, none⟩ = some (.int .i64 a) ∧ W.cell? ⟨b, off + j * 4 + 3, none⟩ = some (.slice q m c)) := fun j hj => by
    obtain ⟨b', off', p, c, e, _, hc⟩ := G.nod j hj
    exact ⟨b', off', _, _, _, _, _, _, e, rfl, hc⟩
  have HPk : Hid (∀ kd : Int, ∃ np : Nat, portsG kd = (np : Int) ∧ np ≤ 2) := fun kd => ⟨(portsG kd).toNat, by
    have : 0 ≤ portsG kd ∧ portsG kd ≤ 2 := by unfold portsG; split; omega; split <;> omega
    omega⟩
  have HYes : Hid ((∀ n, n < g.nodes.length → fullE g n) → runPt g) := fun r => r
  have HBad : Hid (∀ n p : Nat, n < g.nodes.length → (p : Int) < portsG g.nodes[n]!.kind → ¬ hasG g.edges (n : Int) (p : Int) = true → ¬ runPt g) := fun n p hn hp hz r => hz (r n hn p hp)
  have HFu : Hid (∀ n : Nat, (∀ p : Nat, (p : Int) < portsG g.nodes[n]!.kind → hasG g.edges (n : Int) (p : Int) = true) → fullE g n) := fun n hn => hn
  have hn9 := S.n
  clear h G S
  generalize runPt g = R at *
  generalize g.parent.length = n1 at *
  generalize g.bound.length = n2 at *
  generalize g.nodes.length = n3 at *
  generalize g.edges.length = n4 at *
  have HB0 := Lib.hid ((Below.refl w.heap.size w).alloc (Nat.le_refl _) (.cells #[.slice p1 n1 c1, .slice p2 n2 c2, .slice p3 n3 c3, .slice p4 n4 c4] 26))
  have HX0 : Hid (rowOf (w.alloc (.cells #[.slice p1 n1 c1, .slice p2 n2 c2, .slice p3 n3 c3, .slice p4 n4 c4] 26)) w.heap.size = some #[.slice p1 n1 c1, .slice p2 n2 c2, .slice p3 n3 c3, .slice p4 n4 c4]) := row_new rfl
  go_enter Tryz.func32, Tryz.ntmps32
  go_wp2
  go_loopg [10] n3 (fun gg iv wr => ∃ k : Nat, k ≤ n3 ∧ n3 - k ≤ gg ∧ iv = .int .i64 (k : Int) ∧ Hid (∀ j, j < k → fullE g j) ∧ Hid (Below w.heap.size w wr) ∧ Hid (rowOf wr w.heap.size = some #[.slice p1 n1 c1, .slice p2 n2 c2, .slice p3 n3 c3, .slice p4 n4 c4]))
  case atStart => exact ⟨0, Nat.zero_le _, by omega, rfl, fun j hj => by omega, HB0.out, HX0.out⟩
  case round =>
    obtain ⟨k, hk, hg, rfl, HP, HB, HX⟩ := hrel
    by_cases hlt : k < n3
    · have hlz : (k : Int) < (n3 : Int) := by omega
      obtain ⟨b3, off3, kd, s, a, q, m, c, rfl, HKd, hc⟩ := HN.out k hlt
      obtain ⟨e0, e1, e2, e3⟩ := hc wr HB.out
      obtain ⟨np, hnp, hnp2⟩ := HPk.out kd
      have HPo : Hid (∀ W : World, Calls Tryz.prog 57 #[.int .i64 kd] W (Ret (.int .i64 (np : Int)) W)) := fun W => by rw [← hnp]; exact pports_any kd W
      have HBk : Hid (∀ p : Nat, p < np → ¬ hasG g.edges (k : Int) (p : Int) = true → ¬ R) := fun p hp hz => HBad.out k p hlt (by rw [← HKd.out, hnp]; omega) hz
      have HFk : Hid ((∀ p : Nat, p < np → hasG g.edges (k : Int) (p : Int) = true) → fullE g k) := fun hz => HFu.out k fun p hp => hz p (by rw [← HKd.out, hnp] at hp; omega)
      have HHk := Lib.hid (HHe.out k)
      have HB2 : Hid (Below w.heap.size w (wr.alloc (.cells #[.int .i64 kd, .int .i64 s, .int .i64 a, .slice q m c] 42))) := HB.out.alloc HB.out.size _
      have HX2 : Hid (rowOf (wr.alloc (.cells #[.int .i64 kd, .int .i64 s, .int .i64 a, .slice q m c] 42)) w.heap.size = some #[.slice p1 n1 c1, .slice p2 n2 c2, .slice (some ⟨b3, off3, none⟩) n3 c3, .slice p4 n4 c4]) := row_old HX.out
      have HY2 : Hid (rowOf (wr.alloc (.cells #[.int .i64 kd, .int .i64 s, .int .i64 a, .slice q m c] 42)) wr.heap.size = some #[.int .i64 kd, .int .i64 s, .int .i64 a, .slice q m c]) := row_new rfl
      clear hc HX HB HB0 HX0 hnp HPk HBad HFu HKd
      go_upto_region 4 with (fail)
      refine gen_world (fun W2 => Hid (Below w.heap.size w W2) ∧ Hid (rowOf W2 w.heap.size = some #[.slice p1 n1 c1, .slice p2 n2 c2, .slice (some ⟨b3, off3, none⟩) n3 c3, .slice p4 n4 c4]) ∧ Hid (rowOf W2 wr.heap.size = some #[.int .i64 kd, .int .i64 s, .int .i64 a, .slice q m c])) ⟨HB2, HX2, HY2⟩ ?_
      clear HB2 HX2 HY2 e0 e1 e2 e3
      rintro w2 ⟨HB, HX, HY⟩
      generalize wr.heap.size = bn at *
      clear wr
      have y_0 := (rowOf_cell HY.out 0 : _ = some (Value.int .i64 kd))
      go_wp2_with fail
      refine (HPo.out _).mono ?_
      rintro e w3 ⟨rfl, hb⟩
      have HB3 := Lib.hid (bstep HB.out hb HB.out.size)
      have HX3 := Lib.hid (rowOf_below HX.out hb (rowOf_lt HX.out))
      clear hb y_0 HPo HB HX HY
      go_wp2
      go_loopg [18] np (fun gg jv wr => ∃ p : Nat, p ≤ np ∧ np - p ≤ gg ∧ jv = .int .i64 (p : Int) ∧ Hid (∀ j : Nat, j < p → hasG g.edges (k : Int) (j : Int) = true) ∧ Hid (Below w.heap.size w wr) ∧ Hid (rowOf wr w.heap.size = some #[.slice p1 n1 c1, .slice p2 n2 c2, .slice (some ⟨b3, off3, none⟩) n3 c3, .slice p4 n4 c4]))
      case atStart => exact ⟨0, Nat.zero_le _, by omega, rfl, fun j hj => by omega, HB3.out, HX3.out⟩
      case round =>
        clear HB3 HX3
        obtain ⟨p, hp, hgp, rfl, HQ, HB, HX⟩ := hrel
        by_cases hpl : p < np
        · have hpz : (p : Int) < (np : Int) := by omega
          have HC := Lib.hid (HHk.out p)
          have HBp := Lib.hid (HBk.out p hpl)
          have g_0 := (rowOf_cell HX.out 0 : _ = some (Value.slice p1 n1 c1))
          have g_1 := (rowOf_cell HX.out 1 : _ = some (Value.slice p2 n2 c2))
          have g_2 := (rowOf_cell HX.out 2 : _ = some (Value.slice (some ⟨b3, off3, none⟩) n3 c3))
          have g_3 := (rowOf_cell HX.out 3 : _ = some (Value.slice p4 n4 c4))
          clear HHk HBk
          go_wp2_with fail
          refine (HC.out _ HB.out).mono ?_
          rintro e w4 ⟨rfl, hb⟩
          have HB4 := Lib.hid (bstep HB.out hb HB.out.size)
          have HX4 := Lib.hid (rowOf_below HX.out hb (rowOf_lt HX.out))
          clear hb g_0 g_1 g_2 g_3 HC
          by_cases hz : hasG g.edges (k : Int) (p : Int) = true
          · have HQ2 : Hid (∀ j : Nat, j < p + 1 → hasG g.edges (k : Int) (j : Int) = true) := fun j hj => by
              by_cases e : j = p
              · rw [e]; exact hz
              · exact HQ.out j (by omega)
            rw [hz]
            clear hz HQ HBp HFk HYes
            go_wp2
            go_roundg (np - (p + 1))
            case measure => omega
            case rel => exact ⟨p + 1, by omega, by omega, by go_num, HQ2.out, HB4.out, HX4.out⟩
          · have hR := Lib.hid (HBp.out hz)
            rw [Bool.eq_false_iff.2 hz]
            clear hz HQ HBp HFk HYes
            go_wp2
            go_returns
            exact ⟨7, _, rfl, ⟨fun e => by simp at e, fun hok => absurd hok hR.out⟩, HB4.out⟩
        · have hpz : ¬ (p : Int) < (np : Int) := by omega
          obtain rfl : np = p := by omega
          have HP2 : Hid (∀ j, j < k + 1 → fullE g j) := fun j hj => by
            by_cases e : j = k
            · rw [e]; exact HFk.out HQ.out
            · exact HP.out j (by omega)
          clear HHk HBk HFk HP HQ
          go_wp2
          go_roundg (n3 - (k + 1))
          case measure => omega
          case rel => exact ⟨k + 1, by omega, by omega, by go_num, HP2.out, HB.out, HX.out⟩
    · have hlz : ¬ (k : Int) < (n3 : Int) := by omega
      obtain rfl : n3 = k := by omega
      have hR := HYes.out HP.out
      clear HHe HN HPk HBad HFu HYes HB0 HX0
      go_wp2
      go_returns
      exact ⟨0, _, rfl, ⟨fun _ => hR, fun _ => rfl⟩, HB.out⟩
set_option maxRecDepth 100000 in
set_option maxHeartbeats 8000000 in
theorem pcheck_any (g : GV) (v : Value) (w : World) (h : IsG w v g) (hcap : capsG v) (S : SmallG g) :
    Calls Tryz.prog 14 #[v] w (RetChk (runG g) w) := by
  have H1 : Hid (∀ W, Below w.heap.size w W → Calls Tryz.prog 29 #[v] W (RetChk (runS g) W)) := fun W hW => pscopesC_any g v W (h.below hW) S.p S.b
  have H2 : Hid (runS g → ∀ W, Below w.heap.size w W → Calls Tryz.prog 30 #[v] W (RetChk (runN g) W)) := fun r W hW => pnodesC_any g v W (h.below hW) hcap (runS_tree r) S
  have H3 : Hid (runS g → runN g → ∀ W, Below w.heap.size w W → Calls Tryz.prog 31 #[v] W (RetChk (runE g) W)) := fun r r2 W hW => pedgesC_any g v W (h.below hW) hcap S fun n hn => node_ok (r2.2 n hn)
  have H4 : Hid (∀ W, Below w.heap.size w W → Calls Tryz.prog 32 #[v] W (RetChk (runPt g) W)) := fun W hW => pportsC_any g v W (h.below hW) S
  have HG : Hid (runS g → runN g → runE g → runPt g → runG g) := fun a b c d => ⟨a, b, c, d⟩
  have HG1 : Hid (runG g → runS g) := fun r => r.1
  have HG2 : Hid (runG g → runN g) := fun r => r.2.1
  have HG3 : Hid (runG g → runE g) := fun r => r.2.2.1
  have HG4 : Hid (runG g → runPt g) := fun r => r.2.2.2
  generalize runG g = R at *
  obtain ⟨p1, c1, p2, c2, p3, c3, p4, c4, rfl, G⟩ := h.go
  clear h G S hcap
  generalize g.parent.length = n1 at *
  generalize g.bound.length = n2 at *
  generalize g.nodes.length = n3 at *
  generalize g.edges.length = n4 at *
  have HB0 := Lib.hid ((Below.refl w.heap.size w).alloc (Nat.le_refl _) (.cells #[.slice p1 n1 c1, .slice p2 n2 c2, .slice p3 n3 c3, .slice p4 n4 c4] 26))
  have HX0 : Hid (rowOf (w.alloc (.cells #[.slice p1 n1 c1, .slice p2 n2 c2, .slice p3 n3 c3, .slice p4 n4 c4] 26)) w.heap.size = some #[.slice p1 n1 c1, .slice p2 n2 c2, .slice p3 n3 c3, .slice p4 n4 c4]) := row_new rfl
  go_enter Tryz.func14, Tryz.ntmps14
  go_wp2
  refine wp_loop_rounds 5 ?_
  rw [rounds_succ]
  go_wp2_with fail
  refine gen_cM (fun W2 => Hid (Below w.heap.size w W2) ∧ Hid (rowOf W2 w.heap.size = some #[.slice p1 n1 c1, .slice p2 n2 c2, .slice p3 n3 c3, .slice p4 n4 c4]) ∧ Hid (rowOf W2 (w.heap.size + 1) = some #[.func (.func 29) #[] #[], .func (.func 30) #[] #[], .func (.func 31) #[] #[], .func (.func 32) #[] #[]])) ⟨Lib.hid (HB0.out.alloc (by simp) _), Lib.hid (row_old HX0.out), Lib.hid (row_new (by simp))⟩ ?_
  clear HB0 HX0
  rintro w1 ⟨HB1, HX1, HY1⟩
  have g_0 := (rowOf_cell HX1.out 0 : _ = some (Value.slice p1 n1 c1))
  have g_1 := (rowOf_cell HX1.out 1 : _ = some (Value.slice p2 n2 c2))
  have g_2 := (rowOf_cell HX1.out 2 : _ = some (Value.slice p3 n3 c3))
  have g_3 := (rowOf_cell HX1.out 3 : _ = some (Value.slice p4 n4 c4))
  have y_0 := (rowOf_cell HY1.out 0 : _ = some (Value.func (.func 29) #[] #[]))
  have y_1 := (rowOf_cell HY1.out 1 : _ = some (Value.func (.func 30) #[] #[]))
  have y_2 := (rowOf_cell HY1.out 2 : _ = some (Value.func (.func 31) #[] #[]))
  have y_3 := (rowOf_cell HY1.out 3 : _ = some (Value.func (.func 32) #[] #[]))
  refine (H1.out _ HB1.out).mono ?_
  rintro e w2 ⟨a, b, rfl, hok, hb⟩
  have HB2 := Lib.hid (bstep HB1.out hb HB1.out.size)
  have HX2 := Lib.hid (rowOf_below HX1.out hb (rowOf_lt HX1.out))
  have HY2 := Lib.hid (rowOf_below HY1.out hb (rowOf_lt HY1.out))
  have HO1 := Lib.hid hok
  clear hb hok g_0 g_1 g_2 g_3 y_0 y_1 y_2 y_3 HB1 HX1 HY1 H1
  have g_0 := (rowOf_cell HX2.out 0 : _ = some (Value.slice p1 n1 c1))
  have g_1 := (rowOf_cell HX2.out 1 : _ = some (Value.slice p2 n2 c2))
  have g_2 := (rowOf_cell HX2.out 2 : _ = some (Value.slice p3 n3 c3))
  have g_3 := (rowOf_cell HX2.out 3 : _ = some (Value.slice p4 n4 c4))
  have y_0 := (rowOf_cell HY2.out 0 : _ = some (Value.func (.func 29) #[] #[]))
  have y_1 := (rowOf_cell HY2.out 1 : _ = some (Value.func (.func 30) #[] #[]))
  have y_2 := (rowOf_cell HY2.out 2 : _ = some (Value.func (.func 31) #[] #[]))
  have y_3 := (rowOf_cell HY2.out 3 : _ = some (Value.func (.func 32) #[] #[]))
  by_cases ha : a = 0
  · subst ha
    have HR1 := Lib.hid (HO1.out.1 rfl)
    clear HO1
    have K2 := Lib.hid (H2.out HR1.out)
    clear H2
    go_wp2
    rw [rounds_succ]
    go_wp2_with fail
    refine (K2.out _ HB2.out).mono ?_
    rintro e w3 ⟨a, b, rfl, hok, hb⟩
    have HB3 := Lib.hid (bstep HB2.out hb HB2.out.size)
    have HX3 := Lib.hid (rowOf_below HX2.out hb (rowOf_lt HX2.out))
    have HY3 := Lib.hid (rowOf_below HY2.out hb (rowOf_lt HY2.out))
    have HO2 := Lib.hid hok
    clear hb hok g_0 g_1 g_2 g_3 y_0 y_1 y_2 y_3 HB2 HX2 HY2 K2
    have g_0 := (rowOf_cell HX3.out 0 : _ = some (Value.slice p1 n1 c1))
    have g_1 := (rowOf_cell HX3.out 1 : _ = some (Value.slice p2 n2 c2))
    have g_2 := (rowOf_cell HX3.out 2 : _ = some (Value.slice p3 n3 c3))
    have g_3 := (rowOf_cell HX3.out 3 : _ = some (Value.slice p4 n4 c4))
    have y_0 := (rowOf_cell HY3.out 0 : _ = some (Value.func (.func 29) #[] #[]))
    have y_1 := (rowOf_cell HY3.out 1 : _ = some (Value.func (.func 30) #[] #[]))
    have y_2 := (rowOf_cell HY3.out 2 : _ = some (Value.func (.func 31) #[] #[]))
    have y_3 := (rowOf_cell HY3.out 3 : _ = some (Value.func (.func 32) #[] #[]))
    by_cases ha : a = 0
    · subst ha
      have HR2 := Lib.hid (HO2.out.1 rfl)
      clear HO2
      have K3 := Lib.hid (H3.out HR1.out HR2.out)
      clear H3
      go_wp2
      rw [rounds_succ]
      go_wp2_with fail
      refine (K3.out _ HB3.out).mono ?_
      rintro e w4 ⟨a, b, rfl, hok, hb⟩
      have HB4 := Lib.hid (bstep HB3.out hb HB3.out.size)
      have HX4 := Lib.hid (rowOf_below HX3.out hb (rowOf_lt HX3.out))
      have HY4 := Lib.hid (rowOf_below HY3.out hb (rowOf_lt HY3.out))
      have HO3 := Lib.hid hok
      clear hb hok g_0 g_1 g_2 g_3 y_0 y_1 y_2 y_3 HB3 HX3 HY3 K3
      have g_0 := (rowOf_cell HX4.out 0 : _ = some (Value.slice p1 n1 c1))
      have g_1 := (rowOf_cell HX4.out 1 : _ = some (Value.slice p2 n2 c2))
      have g_2 := (rowOf_cell HX4.out 2 : _ = some (Value.slice p3 n3 c3))
      have g_3 := (rowOf_cell HX4.out 3 : _ = some (Value.slice p4 n4 c4))
      have y_0 := (rowOf_cell HY4.out 0 : _ = some (Value.func (.func 29) #[] #[]))
      have y_1 := (rowOf_cell HY4.out 1 : _ = some (Value.func (.func 30) #[] #[]))
      have y_2 := (rowOf_cell HY4.out 2 : _ = some (Value.func (.func 31) #[] #[]))
      have y_3 := (rowOf_cell HY4.out 3 : _ = some (Value.func (.func 32) #[] #[]))
      by_cases ha : a = 0
      · subst ha
        have HR3 := Lib.hid (HO3.out.1 rfl)
        clear HO3
        have K4 := Lib.hid (H4.out)
        clear H4
        go_wp2
        rw [rounds_succ]
        go_wp2_with fail
        refine (K4.out _ HB4.out).mono ?_
        rintro e w5 ⟨a, b, rfl, hok, hb⟩
        have HB5 := Lib.hid (bstep HB4.out hb HB4.out.size)
        have HX5 := Lib.hid (rowOf_below HX4.out hb (rowOf_lt HX4.out))
        have HY5 := Lib.hid (rowOf_below HY4.out hb (rowOf_lt HY4.out))
        have HO4 := Lib.hid hok
        clear hb hok g_0 g_1 g_2 g_3 y_0 y_1 y_2 y_3 HB4 HX4 HY4 K4
        have g_0 := (rowOf_cell HX5.out 0 : _ = some (Value.slice p1 n1 c1))
        have g_1 := (rowOf_cell HX5.out 1 : _ = some (Value.slice p2 n2 c2))
        have g_2 := (rowOf_cell HX5.out 2 : _ = some (Value.slice p3 n3 c3))
        have g_3 := (rowOf_cell HX5.out 3 : _ = some (Value.slice p4 n4 c4))
        have y_0 := (rowOf_cell HY5.out 0 : _ = some (Value.func (.func 29) #[] #[]))
        have y_1 := (rowOf_cell HY5.out 1 : _ = some (Value.func (.func 30) #[] #[]))
        have y_2 := (rowOf_cell HY5.out 2 : _ = some (Value.func (.func 31) #[] #[]))
        have y_3 := (rowOf_cell HY5.out 3 : _ = some (Value.func (.func 32) #[] #[]))
        by_cases ha : a = 0
        · subst ha
          have HR4 := Lib.hid (HO4.out.1 rfl)
          clear HO4
          have HALL : Hid R := HG.out HR1.out HR2.out HR3.out HR4.out
          have hA := HALL.out
          clear HG HALL HR1 HR2 HR3 HR4
          go_wp2
          rw [rounds_succ]
          go_wp2
          go_returns
          exact ⟨0, 0, rfl, ⟨fun _ => hA, fun _ => rfl⟩, HB5.out⟩
        · have ab : (a != 0) = true := by simpa using ha
          have HA := Lib.hid ha
          have HNr : Hid (¬ R) := fun r => HA.out (HO4.out.2 (HG4.out r))
          clear ha
          go_wp2
          go_returns
          exact ⟨a, b, rfl, ⟨fun e => absurd e HA.out, fun r => absurd r HNr.out⟩, HB5.out⟩
      · have ab : (a != 0) = true := by simpa using ha
        have HA := Lib.hid ha
        have HNr : Hid (¬ R) := fun r => HA.out (HO3.out.2 (HG3.out r))
        clear ha
        go_wp2
        go_returns
        exact ⟨a, b, rfl, ⟨fun e => absurd e HA.out, fun r => absurd r HNr.out⟩, HB4.out⟩
    · have ab : (a != 0) = true := by simpa using ha
      have HA := Lib.hid ha
      have HNr : Hid (¬ R) := fun r => HA.out (HO2.out.2 (HG2.out r))
      clear ha
      go_wp2
      go_returns
      exact ⟨a, b, rfl, ⟨fun e => absurd e HA.out, fun r => absurd r HNr.out⟩, HB3.out⟩
  · have ab : (a != 0) = true := by simpa using ha
    have HA := Lib.hid ha
    have HNr : Hid (¬ R) := fun r => HA.out (HO1.out.2 (HG1.out r))
    clear ha
    go_wp2
    go_returns
    exact ⟨a, b, rfl, ⟨fun e => absurd e HA.out, fun r => absurd r HNr.out⟩, HB2.out⟩
end Go.Proofs.YtjaahmgokiobjaaGreat
/- the document's node: what an operator's error is -/
namespace Go.Proofs.YtjaahmgokiobjaaGreat
open Go.RowKit
set_option linter.unusedVariables false
set_option linter.unusedSimpArgs false

set_option maxRecDepth 100000 in
set_option maxHeartbeats 64000000 in
theorem rnode_any (g : GV) (v : Value) (n : Nat) (w : World) (h : IsG w v g) (hl : g.parent.length ≤ 900000) (hn : n < g.nodes.length) (hN : g.nodes.length ≤ 900000) (hp : g.nodes[n]!.prog.length ≤ 900000) :
    Calls Tryz.prog 26 #[v, .int .i64 (n : Int)] w (Ret (.int .i64 (nodeE g n)) w) := by
  have HFo : Hid (0 ≤ g.nodes[n]!.scope ∧ g.nodes[n]!.scope < (g.parent.length : Int) → ∀ W, Below w.heap.size w W → Calls Tryz.prog 51 #[v, .int .i64 (n : Int)] W (Ret (.bool (followsG g n)) W)) := fun hs W hW => rfollows_any g v n W (h.below hW) hl hn hN hs
  obtain ⟨p1, c1, p2, c2, p3, c3, p4, c4, rfl, G⟩ := h.go
  obtain ⟨b, off, p, c, rfl, hpi, hc⟩ := G.nod n hn
  have HRt : Hid (∀ W, Below w.heap.size w W → Calls Tryz.prog 52 #[.slice p g.nodes[n]!.prog.length c] W (Ret (.bool (rightC g.nodes[n]!.prog)) W)) := fun W hW => rright_any _ _ W hp (hpi.below hW)
  have hnl : (n : Int) < (g.nodes.length : Int) := by omega
  unfold nodeE
  have HC := Lib.hid hc
  clear h G hpi hc
  generalize followsG g n = fo at *
  generalize rightC g.nodes[n]!.prog = rt at *
  generalize g.nodes[n]!.prog.length = pl at *
  generalize g.nodes[n]!.kind = k at *
  generalize g.nodes[n]!.scope = s at *
  generalize g.nodes[n]!.arg = ar at *
  generalize g.parent.length = n1 at *
  generalize g.bound.length = n2 at *
  generalize g.nodes.length = n3 at *
  generalize g.edges.length = n4 at *
  generalize hV : nodeV k s n1 fo ar rt pl = V
  have HV := Lib.hid hV
  clear hV
  have HB0 := Lib.hid ((Below.refl w.heap.size w).alloc (Nat.le_refl _) (.cells #[.slice p1 n1 c1, .slice p2 n2 c2, .slice (some ⟨b, off, none⟩) n3 c3, .slice p4 n4 c4] 26))
  obtain ⟨e0, e1, e2, e3⟩ := HC.out _ HB0.out
  have hb0 : b < w.heap.size := World.block_lt_of_cell? _ _ (HC.out _ (Below.refl _ _)).1
  clear HC
  by_cases h1 : k < 1
  · obtain rfl : V = 1 := by rw [← HV.out]; unfold nodeV; rw [if_pos (.inl h1)]
    clear HFo HRt HV
    go_enter Tryz.func26, Tryz.ntmps26
    go_wp2
    go_returns
    exact ⟨rfl, by go_grown⟩
  by_cases h2 : k > 15
  · obtain rfl : V = 1 := by rw [← HV.out]; unfold nodeV; rw [if_pos (.inr h2)]
    clear HFo HRt HV
    go_enter Tryz.func26, Tryz.ntmps26
    go_wp2
    go_returns
    exact ⟨rfl, by go_grown⟩
  have hk0 : ¬ (k < 1 ∨ 15 < k) := by omega
  by_cases h3 : s < 0
  · obtain rfl : V = 6 := by rw [← HV.out]; unfold nodeV; rw [if_neg hk0, if_pos (.inl h3)]
    clear HFo HRt HV hk0
    go_enter Tryz.func26, Tryz.ntmps26
    go_wp2
    go_returns
    exact ⟨rfl, by go_grown⟩
  by_cases h4 : s ≥ (n1 : Int)
  · obtain rfl : V = 6 := by rw [← HV.out]; unfold nodeV; rw [if_neg hk0, if_pos (.inr h4)]
    clear HFo HRt HV hk0
    go_enter Tryz.func26, Tryz.ntmps26
    go_wp2
    go_returns
    exact ⟨rfl, by go_grown⟩
  have hs0 : ¬ (s < 0 ∨ (n1 : Int) ≤ s) := by omega
  have HFo2 := Lib.hid (HFo.out (by omega))
  have HV2 : Hid ((if (s = 0 ∧ 10 ≤ k ∧ k ≤ 12) ∨ (0 < s ∧ (k = 1 ∨ k = 15)) then (6 : Int) else if fo = false then 6
      else if (k = 4 ∧ ar < 1) ∨ (k ≠ 4 ∧ k ≠ 3 ∧ ar ≠ 0) then 1 else if (k = 2 ∧ rt = false) ∨ (k ≠ 2 ∧ 0 < pl) then 13 else 0) = V) := by
    show _ = V
    rw [← HV.out]
    unfold nodeV
    rw [if_neg hk0, if_neg hs0]
  clear HV HFo hk0 hs0
  have hss : s = 0 ∨ (0 < s ∧ (s == 0) = false) := by
    by_cases q : s = 0
    · exact .inl q
    · exact .inr ⟨by omega, by simpa using q⟩
  have hk : k = 1 ∨ k = 2 ∨ k = 3 ∨ k = 4 ∨ k = 5 ∨ k = 6 ∨ k = 7 ∨ k = 8 ∨ k = 9 ∨ k = 10 ∨ k = 11 ∨ k = 12 ∨ k = 13 ∨ k = 14 ∨ k = 15 := by omega
  have HBB : Hid (∀ x t, Below w.heap.size w ((w.alloc (.cells #[.slice p1 n1 c1, .slice p2 n2 c2, .slice (some ⟨b, off, none⟩) n3 c3, .slice p4 n4 c4] 26)).alloc (.cells x t))) := fun x t => HB0.out.alloc (by simp) _
  clear h1 h2 HB0
  rcases hk with rfl | rfl | rfl | rfl | rfl | rfl | rfl | rfl | rfl | rfl | rfl | rfl | rfl | rfl | rfl
  all_goals
    rcases hss with rfl | ⟨hs1, hs2⟩
  all_goals
    go_enter Tryz.func26, Tryz.ntmps26
    first
    | (obtain rfl : V = 6 := by rw [← HV2.out, if_pos (by first | exact .inl ⟨rfl, by decide, by decide⟩ | exact .inr ⟨hs1, .inl rfl⟩ | exact .inr ⟨hs1, .inr rfl⟩)]
       clear HFo2 HRt HV2
       go_wp2
       go_returns
       exact ⟨rfl, HBB.out _ _⟩)
    | (have HV3 := HV2.out
       rw [if_neg (by omega)] at HV3
       have HV4 := Lib.hid HV3
       clear HV3 HV2
       go_wp2_with fail
       refine (HFo2.out _ (HBB.out _ _)).mono ?_
       rintro e w2 ⟨rfl, hb2⟩
       have HN := Lib.hid (rowOf_below (row_new (by simp) : rowOf ((w.alloc (.cells #[.slice p1 n1 c1, .slice p2 n2 c2, .slice (some ⟨b, off, none⟩) n3 c3, .slice p4 n4 c4] 26)).alloc (.cells _ 42)) (w.heap.size + 1) = some _) hb2 (by simp))
       have HB2 := Lib.hid (bstep (HBB.out _ _) hb2 (HBB.out _ _).size)
       clear hb2 e0 e1 e2 e3 HFo2
       have k0 := rowOf_cell HN.out 0
       have k1 := rowOf_cell HN.out 1
       have k2 := rowOf_cell HN.out 2
       have k3 := rowOf_cell HN.out 3
       have HB3 := HB2
       cases fo
       · obtain rfl : V = 6 := by rw [← HV4.out, if_pos rfl]
         clear HRt HV4
         go_wp2
         go_returns
         exact ⟨rfl, HB2.out⟩
       · have HV5 := HV4.out
         rw [if_neg (by simp)] at HV5
         have HV6 := Lib.hid HV5
         clear HV5 HV4
         go_wp2_with fail
         all_goals
           first
           | (go_returns
              refine ⟨ret_int ?_, HB2.out⟩
              rw [← HV6.out]; go_light; (try simp only [bne_eq_false_iff_eq, bne_iff_ne, ne_eq] at *); (repeat' split) <;> (first | rfl | (exfalso; omega) | (exfalso; simp_all; done) | (exfalso; simp_all; omega) | (simp_all; done) | (simp_all; omega)))
           | (refine (HRt.out _ HB2.out).mono ?_
              rintro e w3 ⟨rfl, hb3⟩
              have HB4 := Lib.hid (bstep HB2.out hb3 HB2.out.size)
              have HN3 := rowOf_below HN.out hb3 (rowOf_lt HN.out)
              have m0 := rowOf_cell HN3 0
              clear hb3 HN3
              cases rt
              all_goals
                go_wp2
                all_goals go_returns
                all_goals refine ⟨ret_int ?_, HB4.out⟩
                all_goals (rw [← HV6.out]; go_light; (try simp only [bne_eq_false_iff_eq, bne_iff_ne, ne_eq] at *); (repeat' split) <;> (first | rfl | (exfalso; omega) | (exfalso; simp_all; done) | (exfalso; simp_all; omega) | (simp_all; done) | (simp_all; omega)))))
end Go.Proofs.YtjaahmgokiobjaaGreat
