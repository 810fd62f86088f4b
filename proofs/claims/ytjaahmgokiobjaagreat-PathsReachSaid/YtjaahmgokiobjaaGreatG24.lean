/- the document's Check; written by gen/mb6.py -/
import Derived.Test.YtjaahmgokiobjaaGreatG22
import Derived.Test.YtjaahmgokiobjaaGreatG23
namespace Go.Proofs.YtjaahmgokiobjaaGreat
open Go.RowKit
set_option linter.unusedVariables false
set_option linter.unusedSimpArgs false

def runD (g : GV) : Prop := runS g ∧ runN g ∧ runE g ∧ ∀ n, n < g.nodes.length → openE g n = 0
theorem runD_iff (g : GV) : runD g ↔ runG g := by
  constructor
  · rintro ⟨a, b, c, d⟩
    exact ⟨a, b, c, fun n hn => (open_full c n).1 (d n hn)⟩
  · rintro ⟨a, b, c, d⟩
    exact ⟨a, b, c, fun n hn => (open_full c n).2 (d n hn)⟩
theorem count_range {k : Nat} (f : Nat → Bool) : (List.range (k + 1)).countP f = (List.range k).countP f + if f k = true then 1 else 0 := by
  rw [List.range_succ, List.countP_append]
  simp [List.countP_cons]
set_option maxRecDepth 100000 in
set_option maxHeartbeats 32000000 in
theorem rcheck_any (g : GV) (v : Value) (w : World) (h : IsG w v g) (S : SmallG g) :
    Calls Tryz.prog 13 #[v] w (RetChk (runG g) w) := by
  have HCh : Hid (∀ k : Nat, ∀ W, Below w.heap.size w W → Calls Tryz.prog 25 #[v, .int .i64 (k : Int)] W (RN.Made (chainL g.parent 10 (k : Int)) W)) := fun k W hW => rchain_any g v _ W (h.below hW) S.p
  have H2 : Hid (∀ k : Nat, k < g.nodes.length → ∀ W, Below w.heap.size w W → Calls Tryz.prog 26 #[v, .int .i64 (k : Int)] W (Ret (.int .i64 (nodeE g k)) W)) := fun k hk W hW => rnode_any g v k W (h.below hW) S.p hk S.n (S.pr k hk)
  have H3' : Hid ((∀ j, j < g.nodes.length → nodeE g j = 0) → ∀ k : Nat, k < g.edges.length → ∀ W, Below w.heap.size w W → Calls Tryz.prog 27 #[v, .int .i64 (k : Int)] W (Ret (.int .i64 (edgeE g k)) W)) := fun hn k hk W hW => redge_any g v k W (h.below hW) S.p hk S.n S.e fun n h => node_ok (hn n h)
  have HSn : Hid ((g.parent.length = 0 ∨ 8 < g.parent.length ∨ g.parent.length ≠ g.bound.length) → ¬ runG g) := fun c r => r.1.1 c
  have HSyy : Hid (¬ (g.parent.length = 0 ∨ 8 < g.parent.length ∨ g.parent.length ≠ g.bound.length) → (∀ j, j < g.parent.length → scopeE g j = 0) → runS g) := fun c r => ⟨c, r⟩
  have HSb : Hid (∀ k, k < g.parent.length → ¬ scopeE g k = 0 → ¬ runG g) := fun k hk hz r => hz (r.1.2 k hk)
  have HNo : Hid ((g.nodes.length = 0 ∨ 32 < g.nodes.length ∨ 64 < g.edges.length) → ¬ runG g) := fun c r => r.2.1.1 c
  have HNyy : Hid (¬ (g.nodes.length = 0 ∨ 32 < g.nodes.length ∨ 64 < g.edges.length) → (∀ j, j < g.nodes.length → nodeE g j = 0) → runN g) := fun c r => ⟨c, r⟩
  have HNb : Hid (∀ k, k < g.nodes.length → ¬ nodeE g k = 0 → ¬ runG g) := fun k hk hz r => hz (r.2.1.2 k hk)
  have HEb : Hid (∀ k, k < g.edges.length → ¬ edgeE g k = 0 → ¬ runG g) := fun k hk hz r => hz (r.2.2.1 k hk)
  have HEy : Hid ((∀ k, k < g.edges.length → edgeE g k = 0) → runE g) := fun r => r
  have HOb : Hid (∀ k, k < g.nodes.length → ¬ openE g k = 0 → ¬ runG g) := fun k hk hz r => hz (((runD_iff g).2 r).2.2.2 k hk)
  have HAll : Hid (runS g → runN g → runE g → (∀ n, n < g.nodes.length → openE g n = 0) → runG g) := fun a b c d => (runD_iff g).1 ⟨a, b, c, d⟩
  have HOp : Hid (∀ n, openE g n = if (((List.range g.edges.length).countP fun i => decide (g.edges[i]!.dst = (n : Int)) : Nat) : Int) < portsG g.nodes[n]!.kind then 7 else 0) := fun n => rfl
  have hn9 := S.n
  have he9 := S.e
  have hp9 := S.p
  generalize runG g = R at *
  obtain ⟨p1, c1, p2, c2, p3, c3, p4, c4, rfl, G⟩ := h.go
  have HPa : Hid (∀ W, Below w.heap.size w W → ∀ j, j < g.parent.length → ∃ b off, p1 = some ⟨b, off, none⟩ ∧ W.cell? ⟨b, off + j, none⟩ = some (.int .i64 g.parent[j]!)) := fun W hW j hj => G.par W hW j hj
  have HBo : Hid (∀ W, Below w.heap.size w W → ∀ j, j < g.bound.length → ∃ b off, p2 = some ⟨b, off, none⟩ ∧ W.cell? ⟨b, off + j, none⟩ = some (.int .i64 g.bound[j]!)) := fun W hW j hj => G.bnd W hW j hj
  have HKd : Hid (∀ n, n < g.nodes.length → ∃ b off, p3 = some ⟨b, off, none⟩ ∧ ∀ W, Below w.heap.size w W → W.cell? ⟨b, off + n * 4, none⟩ = some (.int .i64 g.nodes[n]!.kind)) := fun n hn => by
    obtain ⟨b, off, p, c, e, _, hc⟩ := G.nod n hn
    exact ⟨b, off, e, fun W hW => (hc W hW).1⟩
  have HDs : Hid (∀ j, j < g.edges.length → ∃ b off, p4 = some ⟨b, off, none⟩ ∧ ∀ W, Below w.heap.size w W → W.cell? ⟨b, off + j * 4 + 1, none⟩ = some (.int .i64 g.edges[j]!.dst)) := fun j hj => by
    obtain ⟨b, off, e, hc⟩ := G.edg j hj
    exact ⟨b, off, e, fun W hW => (hc W hW).2.1⟩
  clear h G S
  generalize g.parent.length = n1 at *
  generalize g.bound.length = n2 at *
  generalize g.nodes.length = n3 at *
  generalize g.edges.length = n4 at *
  have HB0 := Lib.hid ((Below.refl w.heap.size w).alloc (Nat.le_refl _) (.cells #[.slice p1 n1 c1, .slice p2 n2 c2, .slice p3 n3 c3, .slice p4 n4 c4] 26))
  have HX0 : Hid (rowOf (w.alloc (.cells #[.slice p1 n1 c1, .slice p2 n2 c2, .slice p3 n3 c3, .slice p4 n4 c4] 26)) w.heap.size = some #[.slice p1 n1 c1, .slice p2 n2 c2, .slice p3 n3 c3, .slice p4 n4 c4]) := row_new rfl
  by_cases a1 : n1 < 1
  · have hR := Lib.hid (HSn.out (.inl (by omega)))
    have a1z : ((n1 : Int) == 0) = true := by simp; omega
    clear HCh H2 H3' HSn HSyy HSb HNo HNyy HNb HEb HEy HOb HAll HOp HPa HBo HKd HDs
    go_enter Tryz.func13, Tryz.ntmps13
    go_wp2
    go_returns
    exact ⟨6, _, rfl, ⟨fun e => by simp at e, fun hok => absurd hok hR.out⟩, HB0.out⟩
  have a1z : ((n1 : Int) == 0) = false := by simp; omega
  by_cases a2 : 8 < n1
  · have hR := Lib.hid (HSn.out (.inr (.inl a2)))
    have a2z : (n1 : Int) > 8 := by omega
    clear HCh H2 H3' HSn HSyy HSb HNo HNyy HNb HEb HEy HOb HAll HOp HPa HBo HKd HDs
    go_enter Tryz.func13, Tryz.ntmps13
    go_wp2
    go_returns
    exact ⟨6, _, rfl, ⟨fun e => by simp at e, fun hok => absurd hok hR.out⟩, HB0.out⟩
  have a2z : ¬ (n1 : Int) > 8 := by omega
  by_cases a3 : n2 = n1
  · have HSy := Lib.hid (HSyy.out (by omega))
    have HNn : Hid True := trivial
    clear HSyy HSn
    subst a3
    go_enter Tryz.func13, Tryz.ntmps13
    go_wp2
    go_loopg [4] n2 (fun gg iv wr => ∃ k : Nat, k ≤ n2 ∧ n2 - k ≤ gg ∧ iv = .int .i64 (k : Int) ∧ Hid (∀ j, j < k → scopeE g j = 0) ∧ Hid (Below w.heap.size w wr) ∧ Hid (rowOf wr w.heap.size = some #[.slice p1 n2 c1, .slice p2 n2 c2, .slice p3 n3 c3, .slice p4 n4 c4]))
    case atStart => exact ⟨0, Nat.zero_le _, by omega, rfl, fun j hj => by omega, HB0.out, HX0.out⟩
    case round =>
      clear HB0 HX0
      obtain ⟨k, hk, hg, rfl, HP, HB, HX⟩ := hrel
      have g_0 := (rowOf_cell HX.out 0 : _ = some (Value.slice p1 n2 c1))
      have g_1 := (rowOf_cell HX.out 1 : _ = some (Value.slice p2 n2 c2))
      have g_2 := (rowOf_cell HX.out 2 : _ = some (Value.slice p3 n3 c3))
      have g_3 := (rowOf_cell HX.out 3 : _ = some (Value.slice p4 n4 c4))
      by_cases hlt : k < n2
      · have hlz : (k : Int) < (n2 : Int) := by omega
        obtain ⟨b1, off1, rfl, e1⟩ := HPa.out wr HB.out k hlt
        obtain ⟨b2, off2, rfl, e2⟩ := HBo.out wr HB.out k hlt
        have hE0 : Hid (k = 0 → (scopeE g k = 0 ↔ g.parent[k]! = -1 ∧ g.bound[k]! = 0)) := fun e => by subst e; exact scopeE_first g
        have hE1 : Hid (0 < k → (scopeE g k = 0 ↔ 0 ≤ g.parent[k]! ∧ g.parent[k]! < (k : Int) ∧ 1 ≤ g.bound[k]! ∧ g.bound[k]! ≤ 64 ∧ (chainL g.parent 10 (k : Int)).length ≤ 4)) := scopeE_next g k
        have HBk := Lib.hid (HSb.out k hlt)
        have HC := Lib.hid (HCh.out k)
        have HP1 : Hid (scopeE g k = 0 → ∀ j, j < k + 1 → scopeE g j = 0) := fun hz j hj => by
          by_cases e : j = k
          · rw [e]; exact hz
          · exact HP.out j (by omega)
        generalize scopeE g k = x at *
        generalize g.parent[k]! = pi at *
        generalize g.bound[k]! = bi at *
        generalize hL : chainL g.parent 10 (k : Int) = L at *
        clear hL HP HPa HBo HSb HCh HAll H2 H3' HNb HEb HOb HNn HNo HNyy HEy HOp HKd HDs HSy
        by_cases h0 : k = 0
        · have hE := Lib.hid (hE0.out h0)
          have kz : ¬ (k : Int) > 0 := by omega
          clear hE0 hE1 HC h0
          by_cases a1 : pi = -1
          · subst a1
            by_cases a2 : bi = 0
            · subst a2
              have hx : x = 0 := hE.out.2 ⟨rfl, rfl⟩
              have HP2 := Lib.hid (HP1.out hx)
              clear hx HP1 hE HBk
              go_wp2
              go_roundg (n2 - (k + 1))
              case measure => omega
              case rel => exact ⟨k + 1, by omega, by omega, by go_num, HP2.out, HB.out, HX.out⟩
            · have ab : (bi == 0) = false := by simpa using a2
              have hR := Lib.hid (HBk.out fun e => a2 (hE.out.1 e).2)
              clear a2 HP1 hE HBk
              go_wp2
              go_returns
              exact ⟨6, _, rfl, ⟨fun e => by simp at e, fun hok => absurd hok hR.out⟩, HB.out⟩
          · have ab : (pi == -1) = false := by simpa using a1
            have hR := Lib.hid (HBk.out fun e => a1 (hE.out.1 e).1)
            clear a1 HP1 hE HBk
            go_wp2
            go_returns
            exact ⟨6, _, rfl, ⟨fun e => by simp at e, fun hok => absurd hok hR.out⟩, HB.out⟩
        · have kz : (k : Int) > 0 := by omega
          have hE := Lib.hid (hE1.out (by omega))
          clear hE0 hE1 h0
          by_cases a1 : 0 ≤ pi
          · have ab : (pi == -1) = false := by simp; omega
            by_cases a2 : pi < (k : Int)
            · by_cases a3 : 1 ≤ bi
              · by_cases a4 : bi ≤ 64
                · have hE2 : Hid (x = 0 ↔ L.length ≤ 4) := ⟨fun e => (hE.out.1 e).2.2.2.2, fun e => hE.out.2 ⟨a1, a2, a3, a4, e⟩⟩
                  clear hE
                  go_wp2_with fail
                  refine (HC.out _ HB.out).mono ?_
                  rintro e w3 ⟨vL, rfl, hO, hb⟩
                  obtain ⟨pL, cL, rfl⟩ := hO.is.slice
                  have HB3 := Lib.hid (bstep HB.out hb HB.out.size)
                  have HX3 := Lib.hid (rowOf_below HX.out hb (rowOf_lt HX.out))
                  clear hb hO g_0 g_1 g_2 g_3 HC e1 e2
                  generalize L.length = ln at *
                  by_cases hz : ln ≤ 4
                  · have hzz : decide ((ln : Int) ≤ 4) = true := decide_eq_true (by omega)
                    have HP2 := Lib.hid (HP1.out (hE2.out.2 hz))
                    clear HP1 hE2 HBk hz
                    go_wp2
                    go_roundg (n2 - (k + 1))
                    case measure => omega
                    case rel => exact ⟨k + 1, by omega, by omega, by go_num, HP2.out, HB3.out, HX3.out⟩
                  · have hzz : decide ((ln : Int) ≤ 4) = false := decide_eq_false (by omega)
                    have hR := Lib.hid (HBk.out fun e => hz (hE2.out.1 e))
                    clear HP1 hE2 HBk hz
                    go_wp2
                    go_returns
                    exact ⟨6, _, rfl, ⟨fun e => by simp at e, fun hok => absurd hok hR.out⟩, HB3.out⟩
                · have hR := Lib.hid (HBk.out fun e => a4 (hE.out.1 e).2.2.2.1)
                  clear HP1 hE HBk HC
                  go_wp2
                  go_returns
                  exact ⟨6, _, rfl, ⟨fun e => by simp at e, fun hok => absurd hok hR.out⟩, HB.out⟩
              · have hR := Lib.hid (HBk.out fun e => a3 (hE.out.1 e).2.2.1)
                clear HP1 hE HBk HC
                go_wp2
                go_returns
                exact ⟨6, _, rfl, ⟨fun e => by simp at e, fun hok => absurd hok hR.out⟩, HB.out⟩
            · have hR := Lib.hid (HBk.out fun e => a2 (hE.out.1 e).2.1)
              clear HP1 hE HBk HC
              go_wp2
              go_returns
              exact ⟨6, _, rfl, ⟨fun e => by simp at e, fun hok => absurd hok hR.out⟩, HB.out⟩
          · have hR := Lib.hid (HBk.out fun e => a1 (hE.out.1 e).1)
            have a1z : ¬ pi ≥ 0 := a1
            clear HP1 hE HBk HC
            by_cases hm : pi = -1
            · subst hm
              go_wp2
              go_returns
              exact ⟨6, _, rfl, ⟨fun e => by simp at e, fun hok => absurd hok hR.out⟩, HB.out⟩
            · have ab : (pi == -1) = false := by simpa using hm
              clear hm
              go_wp2
              go_returns
              exact ⟨6, _, rfl, ⟨fun e => by simp at e, fun hok => absurd hok hR.out⟩, HB.out⟩
      · have hlz : ¬ (k : Int) < (n2 : Int) := by omega
        obtain rfl : n2 = k := by omega
        have HRS := Lib.hid (HSy.out HP.out)
        clear HPa HBo HSb HCh HP hk hg
        obtain ⟨wa, rfl⟩ : ∃ wa : World, wa = wr := ⟨_, rfl⟩
        by_cases b1 : n3 < 1
        · have b1z : ((n3 : Int) == 0) = true := by simp; omega
          have hR := Lib.hid (HNo.out (.inl (by omega)))
          clear H2 H3' HNo HNn HNb HEb HOb HAll HNyy HEy HRS HOp HKd HDs
          go_wp2
          go_returns
          exact ⟨11, _, rfl, ⟨fun e => by simp at e, fun hok => absurd hok hR.out⟩, HB.out⟩
        have b1z : ((n3 : Int) == 0) = false := by simp; omega
        by_cases b2 : 32 < n3
        · have b2z : (n3 : Int) > 32 := by omega
          have hR := Lib.hid (HNo.out (.inr (.inl b2)))
          clear H2 H3' HNo HNn HNb HEb HOb HAll HNyy HEy HRS HOp HKd HDs
          go_wp2
          go_returns
          exact ⟨11, _, rfl, ⟨fun e => by simp at e, fun hok => absurd hok hR.out⟩, HB.out⟩
        have b2z : ¬ (n3 : Int) > 32 := by omega
        by_cases b3 : 64 < n4
        · have b3z : (n4 : Int) > 64 := by omega
          have hR := Lib.hid (HNo.out (.inr (.inr b3)))
          clear H2 H3' HNo HNn HNb HEb HOb HAll HNyy HEy HRS HOp HKd HDs
          go_wp2
          go_returns
          exact ⟨11, _, rfl, ⟨fun e => by simp at e, fun hok => absurd hok hR.out⟩, HB.out⟩
        have b3z : ¬ (n4 : Int) > 64 := by omega
        have HNy := Lib.hid (HNyy.out (by omega))
        clear HNo HNn HNyy b1 b2 b3
        go_wp2
        go_loopg [6] n3 (fun gg iv wr => ∃ k : Nat, k ≤ n3 ∧ n3 - k ≤ gg ∧ iv = .int .i64 (k : Int) ∧ Hid (∀ j, j < k → nodeE g j = 0) ∧ Hid (Below w.heap.size w wr) ∧ Hid (rowOf wr w.heap.size = some #[.slice p1 n2 c1, .slice p2 n2 c2, .slice p3 n3 c3, .slice p4 n4 c4]))
        case atStart => exact ⟨0, Nat.zero_le _, by omega, rfl, fun j hj => by omega, HB.out, HX.out⟩
        case round =>
          clear g_0 g_1 g_2 g_3
          obtain ⟨k, hk, hg, rfl, HP, HBr, HXr⟩ := hrel
          have g_0 := (rowOf_cell HXr.out 0 : _ = some (Value.slice p1 n2 c1))
          have g_1 := (rowOf_cell HXr.out 1 : _ = some (Value.slice p2 n2 c2))
          have g_2 := (rowOf_cell HXr.out 2 : _ = some (Value.slice p3 n3 c3))
          have g_3 := (rowOf_cell HXr.out 3 : _ = some (Value.slice p4 n4 c4))
          by_cases hlt : k < n3
          · have hlz : (k : Int) < (n3 : Int) := by omega
            have HC := Lib.hid (H2.out k hlt)
            have HBk := Lib.hid (HNb.out k hlt)
            have HP1 : Hid (nodeE g k = 0 → ∀ j, j < k + 1 → nodeE g j = 0) := fun hz j hj => by
              by_cases e : j = k
              · rw [e]; exact hz
              · exact HP.out j (by omega)
            generalize nodeE g k = x at *
            clear HP H2 HNb HNy H3' HEb HOb HAll HEy HRS HOp HKd HDs
            go_wp2_with fail
            refine (HC.out _ HBr.out).mono ?_
            rintro e w3 ⟨rfl, hb⟩
            have HB3 := Lib.hid (bstep HBr.out hb HBr.out.size)
            have HX3 := Lib.hid (rowOf_below HXr.out hb (rowOf_lt HXr.out))
            clear hb g_0 g_1 g_2 g_3 HC
            by_cases hz : x = 0
            · have HP2 := Lib.hid (HP1.out hz)
              subst hz
              clear HP1 HBk
              go_wp2
              go_roundg (n3 - (k + 1))
              case measure => omega
              case rel => exact ⟨k + 1, by omega, by omega, by go_num, HP2.out, HB3.out, HX3.out⟩
            · have hR := Lib.hid (HBk.out hz)
              have xb : (x != 0) = true := by simpa using hz
              have HZ := Lib.hid hz
              clear hz HP1 HBk
              go_wp2
              go_returns
              exact ⟨x, _, rfl, ⟨fun e => absurd e HZ.out, fun hok => absurd hok hR.out⟩, HB3.out⟩
          · have hlz : ¬ (k : Int) < (n3 : Int) := by omega
            obtain rfl : n3 = k := by omega
            have HRN := Lib.hid (HNy.out HP.out)
            have H3 := Lib.hid (fun k hk => H3'.out HP.out k hk)
            clear H2 HNb HNy H3' HP hk hg
            obtain ⟨wc, rfl⟩ : ∃ wc : World, wc = wr := ⟨_, rfl⟩
            go_wp2
            go_loopg [8] n4 (fun gg iv wr => ∃ k : Nat, k ≤ n4 ∧ n4 - k ≤ gg ∧ iv = .int .i64 (k : Int) ∧ Hid (∀ j, j < k → edgeE g j = 0) ∧ Hid (Below w.heap.size w wr) ∧ Hid (rowOf wr w.heap.size = some #[.slice p1 n2 c1, .slice p2 n2 c2, .slice p3 n3 c3, .slice p4 n4 c4]))
            case atStart => exact ⟨0, Nat.zero_le _, by omega, rfl, fun j hj => by omega, HBr.out, HXr.out⟩
            case round =>
              clear g_0 g_1 g_2 g_3
              obtain ⟨k, hk, hg, rfl, HP, HBr, HXr⟩ := hrel
              have g_0 := (rowOf_cell HXr.out 0 : _ = some (Value.slice p1 n2 c1))
              have g_1 := (rowOf_cell HXr.out 1 : _ = some (Value.slice p2 n2 c2))
              have g_2 := (rowOf_cell HXr.out 2 : _ = some (Value.slice p3 n3 c3))
              have g_3 := (rowOf_cell HXr.out 3 : _ = some (Value.slice p4 n4 c4))
              by_cases hlt : k < n4
              · have hlz : (k : Int) < (n4 : Int) := by omega
                have HC := Lib.hid (H3.out k hlt)
                have HBk := Lib.hid (HEb.out k hlt)
                have HP1 : Hid (edgeE g k = 0 → ∀ j, j < k + 1 → edgeE g j = 0) := fun hz j hj => by
                  by_cases e : j = k
                  · rw [e]; exact hz
                  · exact HP.out j (by omega)
                generalize edgeE g k = x at *
                clear HP H3 HEb HOb HAll HEy HRS HRN HOp HKd HDs
                go_wp2_with fail
                refine (HC.out _ HBr.out).mono ?_
                rintro e w3 ⟨rfl, hb⟩
                have HB3 := Lib.hid (bstep HBr.out hb HBr.out.size)
                have HX3 := Lib.hid (rowOf_below HXr.out hb (rowOf_lt HXr.out))
                clear hb g_0 g_1 g_2 g_3 HC
                by_cases hz : x = 0
                · have HP2 := Lib.hid (HP1.out hz)
                  subst hz
                  clear HP1 HBk
                  go_wp2
                  go_roundg (n4 - (k + 1))
                  case measure => omega
                  case rel => exact ⟨k + 1, by omega, by omega, by go_num, HP2.out, HB3.out, HX3.out⟩
                · have hR := Lib.hid (HBk.out hz)
                  have xb : (x != 0) = true := by simpa using hz
                  have HZ := Lib.hid hz
                  clear hz HP1 HBk
                  go_wp2
                  go_returns
                  exact ⟨x, _, rfl, ⟨fun e => absurd e HZ.out, fun hok => absurd hok hR.out⟩, HB3.out⟩
              · have hlz : ¬ (k : Int) < (n4 : Int) := by omega
                obtain rfl : n4 = k := by omega
                have HRE := Lib.hid (HEy.out HP.out)
                clear H3 HEb HP hk hg
                obtain ⟨wd, rfl⟩ : ∃ wd : World, wd = wr := ⟨_, rfl⟩
                go_wp2
                go_loopg [10] n3 (fun gg iv wr => ∃ k : Nat, k ≤ n3 ∧ n3 - k ≤ gg ∧ iv = .int .i64 (k : Int) ∧ Hid (∀ j, j < k → openE g j = 0) ∧ Hid (Below w.heap.size w wr) ∧ Hid (rowOf wr w.heap.size = some #[.slice p1 n2 c1, .slice p2 n2 c2, .slice p3 n3 c3, .slice p4 n4 c4]))
                case atStart => exact ⟨0, Nat.zero_le _, by omega, rfl, fun j hj => by omega, HBr.out, HXr.out⟩
                case round =>
                  clear g_0 g_1 g_2 g_3 HBr HXr
                  obtain ⟨k, hk, hg, rfl, HP, HBr, HXr⟩ := hrel
                  have g_0 := (rowOf_cell HXr.out 0 : _ = some (Value.slice p1 n2 c1))
                  have g_1 := (rowOf_cell HXr.out 1 : _ = some (Value.slice p2 n2 c2))
                  have g_2 := (rowOf_cell HXr.out 2 : _ = some (Value.slice p3 n3 c3))
                  have g_3 := (rowOf_cell HXr.out 3 : _ = some (Value.slice p4 n4 c4))
                  by_cases hlt : k < n3
                  · have hlz : (k : Int) < (n3 : Int) := by omega
                    have HBk := Lib.hid (HOb.out k hlt)
                    have HP1 : Hid (openE g k = 0 → ∀ j, j < k + 1 → openE g j = 0) := fun hz j hj => by
                      by_cases e : j = k
                      · rw [e]; exact hz
                      · exact HP.out j (by omega)
                    have HOe : Hid (openE g k = if (((List.range n4).countP fun i => decide (g.edges[i]!.dst = (k : Int)) : Nat) : Int) < portsG g.nodes[k]!.kind then 7 else 0) := HOp.out k
                    obtain ⟨b3, off3, rfl, hkd⟩ := HKd.out k hlt
                    have HKk := Lib.hid hkd
                    have HCr := Lib.hid (fun j => count_range (k := j) (fun i => decide (g.edges[i]!.dst = (k : Int))))
                    clear HP hkd HKd HOp HOb HAll HRS HRN HRE
                    generalize openE g k = x at *
                    generalize g.nodes[k]!.kind = kd at *
                    have HPo : Hid (∀ W : World, Calls Tryz.prog 28 #[.int .i64 kd] W (Ret (.int .i64 (portsG kd)) W)) := fun W => rports_any kd W
                    generalize portsG kd = pk at *
                    obtain ⟨we, rfl⟩ : ∃ we : World, we = wr := ⟨_, rfl⟩
                    go_wp2
                    clear g_0 g_1 g_2 g_3
                    go_loopg [12, 11] n4 (fun gg iv cv wr => ∃ j : Nat, j ≤ n4 ∧ n4 - j ≤ gg ∧ iv = .int .i64 (j : Int) ∧ cv = .int .i64 (((List.range j).countP fun i => decide (g.edges[i]!.dst = (k : Int)) : Nat) : Int) ∧ Hid (Below w.heap.size w wr) ∧ Hid (rowOf wr w.heap.size = some #[.slice p1 n2 c1, .slice p2 n2 c2, .slice (some ⟨b3, off3, none⟩) n3 c3, .slice p4 n4 c4]))
                    case atStart => exact ⟨0, Nat.zero_le _, by omega, rfl, rfl, HBr.out, HXr.out⟩
                    case round =>
                      clear HBr HXr
                      obtain ⟨j, hj, hgj, rfl, rfl, HBr, HXr⟩ := hrel
                      have g_0 := (rowOf_cell HXr.out 0 : _ = some (Value.slice p1 n2 c1))
                      have g_1 := (rowOf_cell HXr.out 1 : _ = some (Value.slice p2 n2 c2))
                      have g_2 := (rowOf_cell HXr.out 2 : _ = some (Value.slice (some ⟨b3, off3, none⟩) n3 c3))
                      have g_3 := (rowOf_cell HXr.out 3 : _ = some (Value.slice p4 n4 c4))
                      by_cases hjl : j < n4
                      · have hjz : (j : Int) < (n4 : Int) := by omega
                        obtain ⟨b4, off4, rfl, hcd⟩ := HDs.out j hjl
                        have hc := hcd wr HBr.out
                        have hst := HCr.out j
                        have hcl : (List.range j).countP (fun i => decide (g.edges[i]!.dst = (k : Int))) ≤ 900000 := by
                          have := List.countP_le_length (p := fun i => decide (g.edges[i]!.dst = (k : Int))) (l := List.range j)
                          rw [List.length_range] at this
                          omega
                        have HST := Lib.hid hst
                        clear hst hcd HDs HCr
                        generalize (List.range j).countP (fun i => decide (g.edges[i]!.dst = (k : Int))) = cn at *
                        generalize g.edges[j]!.dst = dj at *
                        by_cases hd : dj = (k : Int)
                        · have db : (dj == (k : Int)) = true := by simpa using hd
                          have hs2 : Hid ((List.range (j + 1)).countP (fun i => decide (g.edges[i]!.dst = (k : Int))) = cn + 1) := by rw [Hid, HST.out, if_pos (decide_eq_true hd)]
                          clear HST hd
                          go_wp2
                          go_roundg (n4 - (j + 1))
                          case measure => omega
                          case rel => exact ⟨j + 1, by omega, by omega, by go_num, by rw [hs2.out]; go_num, HBr.out, HXr.out⟩
                        · have db : (dj == (k : Int)) = false := by simpa using hd
                          have hs2 : Hid ((List.range (j + 1)).countP (fun i => decide (g.edges[i]!.dst = (k : Int))) = cn) := by rw [Hid, HST.out, if_neg (by rw [decide_eq_false hd]; simp)]; rfl
                          clear HST hd
                          go_wp2
                          go_roundg (n4 - (j + 1))
                          case measure => omega
                          case rel => exact ⟨j + 1, by omega, by omega, by go_num, by rw [hs2.out], HBr.out, HXr.out⟩
                      · have hjz : ¬ (j : Int) < (n4 : Int) := by omega
                        obtain rfl : n4 = j := by omega
                        have hck := HKk.out wr HBr.out
                        clear HDs HCr HKk
                        generalize (List.range n4).countP (fun i => decide (g.edges[i]!.dst = (k : Int))) = cn at *
                        go_wp2_with fail
                        refine (HPo.out _).mono ?_
                        rintro e w3 ⟨rfl, hb⟩
                        have HB3 := Lib.hid (bstep HBr.out hb HBr.out.size)
                        have HX3 := Lib.hid (rowOf_below HXr.out hb (rowOf_lt HXr.out))
                        clear hb g_0 g_1 g_2 g_3 HPo hck
                        by_cases hz : (cn : Int) < pk
                        · have hR := Lib.hid (HBk.out (by rw [HOe.out, if_pos hz]; simp))
                          clear HP1 HBk HOe
                          go_wp2
                          go_returns
                          exact ⟨7, _, rfl, ⟨fun e => by simp at e, fun hok => absurd hok hR.out⟩, HB3.out⟩
                        · have HP2 := Lib.hid (HP1.out (by rw [HOe.out, if_neg hz]))
                          clear HP1 HBk HOe
                          go_wp2
                          go_roundg (n3 - (k + 1))
                          case measure => omega
                          case rel => exact ⟨k + 1, by omega, by omega, by go_num, HP2.out, HB3.out, HX3.out⟩
                  · have hlz : ¬ (k : Int) < (n3 : Int) := by omega
                    obtain rfl : n3 = k := by omega
                    have hR := HAll.out HRS.out HRN.out HRE.out HP.out
                    clear HOb HOp HKd HDs HP HAll HRS HRN HRE
                    go_wp2
                    go_returns
                    exact ⟨0, _, rfl, ⟨fun _ => hR, fun _ => rfl⟩, HBr.out⟩
  · have hR := Lib.hid (HSn.out (.inr (.inr (fun e => a3 e.symm))))
    have a3b : ((n1 : Int) != (n2 : Int)) = true := by simp; omega
    clear HCh H2 H3' HSn HSyy HSb HNo HNyy HNb HEb HEy HOb HAll HOp HPa HBo HKd HDs a3
    go_enter Tryz.func13, Tryz.ntmps13
    go_wp2
    go_returns
    exact ⟨6, _, rfl, ⟨fun e => by simp at e, fun hok => absurd hok hR.out⟩, HB0.out⟩
end Go.Proofs.YtjaahmgokiobjaaGreat
