/- the program's hasEdge, endsAreThere, givesIn, checkEdge, checkEdges; written by gen/mb4.py -/
import Derived.Test.YtjaahmgokiobjaaGreatG20
namespace Go.Proofs.YtjaahmgokiobjaaGreat
open Go.RowKit
set_option linter.unusedVariables false
set_option linter.unusedSimpArgs false

set_option maxRecDepth 100000 in
set_option maxHeartbeats 8000000 in
theorem phas_any (es : List GE) (m c4 : Nat) (p4 : Option Addr) (x y : Int) (w : World) (hm : m ≤ 900000)
    (he : ∀ j, j < m → ∃ b off, p4 = some ⟨b, off, none⟩ ∧ ∀ W, Below w.heap.size w W → W.cell? ⟨b, off + j * 4, none⟩ = some (.int .i64 es[j]!.src) ∧ W.cell? ⟨b, off + j * 4 + 1, none⟩ = some (.int .i64 es[j]!.dst) ∧ W.cell? ⟨b, off + j * 4 + 2, none⟩ = some (.int .i64 es[j]!.port) ∧ W.cell? ⟨b, off + j * 4 + 3, none⟩ = some (.bool es[j]!.ex)) :
    Calls Tryz.prog 58 #[.slice p4 m c4, .int .i64 x, .int .i64 y] w (Ret (.bool ((List.range m).any fun j => decide (es[j]!.dst = x) && decide (es[j]!.port = y))) w) := by
  have HE := Lib.hid he
  clear he
  have HRs := Lib.hid (fun k => any_range (k := k) (fun j => decide (es[j]!.dst = x) && decide (es[j]!.port = y)))
  generalize hV : ((List.range m).any fun j => decide (es[j]!.dst = x) && decide (es[j]!.port = y)) = V
  have HV := Lib.hid hV
  clear hV
  have HHit : Hid (∀ j, j < m → es[j]!.dst = x → es[j]!.port = y → V = true) := fun j hj h1 h2 => by
    rw [← HV.out, List.any_eq_true]
    exact ⟨j, List.mem_range.2 hj, by rw [decide_eq_true h1, decide_eq_true h2]; rfl⟩
  go_enter Tryz.func58, Tryz.ntmps58
  go_wp2
  go_loopg [11] m (fun gg iv wr => ∃ j : Nat, j ≤ m ∧ m - j ≤ gg ∧ iv = .int .i64 (j : Int) ∧ Hid ((List.range j).any (fun j => decide (es[j]!.dst = x) && decide (es[j]!.port = y)) = false) ∧ Hid (Below w.heap.size w wr))
  case atStart => exact ⟨0, Nat.zero_le _, by omega, rfl, rfl, Below.refl _ _⟩
  case round =>
    obtain ⟨j, hjm, hg, rfl, HD, HB⟩ := hrel
    by_cases hlt : j < m
    · have hlz : (j : Int) < (m : Int) := by omega
      obtain ⟨b, off, rfl, hc⟩ := HE.out j hlt
      obtain ⟨e0, e1, e2, e3⟩ := hc wr HB.out
      have hst := HRs.out j
      rw [HD.out, Bool.false_or] at hst
      have HH := Lib.hid (HHit.out j hlt)
      clear hc
      generalize es[j]!.src = src at *
      generalize es[j]!.dst = dst at *
      generalize es[j]!.port = port at *
      generalize es[j]!.ex = ex at *
      have HB2 : Hid (Below w.heap.size w (wr.alloc (.cells #[.int .i64 src, .int .i64 dst, .int .i64 port, .bool ex] 44))) := HB.out.alloc HB.out.size _
      by_cases h1 : dst = x
      · have b1 : (dst == x) = true := by simpa using h1
        by_cases h2 : port = y
        · have b2 : (port == y) = true := by simpa using h2
          have hq := HH.out h1 h2
          subst hq
          clear hst HRs HD HH HHit HV HE h1 h2 HB
          go_wp2
          go_returns
          exact ⟨rfl, HB2.out⟩
        · have b2 : (port == y) = false := by simpa using h2
          have HD2 : Hid ((List.range (j + 1)).any (fun j => decide (es[j]!.dst = x) && decide (es[j]!.port = y)) = false) := by rw [Hid, hst, decide_eq_false h2, Bool.and_false]
          clear hst HRs HD HH HHit HV HE h1 h2 HB
          go_wp2
          go_roundg (m - (j + 1))
          case measure => omega
          case rel => exact ⟨j + 1, by omega, by omega, by go_num, HD2.out, HB2.out⟩
      · have b1 : (dst == x) = false := by simpa using h1
        have HD2 : Hid ((List.range (j + 1)).any (fun j => decide (es[j]!.dst = x) && decide (es[j]!.port = y)) = false) := by rw [Hid, hst, decide_eq_false h1, Bool.false_and]
        clear hst HRs HD HH HHit HV HE h1 HB
        go_wp2
        go_roundg (m - (j + 1))
        case measure => omega
        case rel => exact ⟨j + 1, by omega, by omega, by go_num, HD2.out, HB2.out⟩
    · have hlz : ¬ (j : Int) < (m : Int) := by omega
      obtain rfl : m = j := by omega
      have hq : V = false := by rw [← HV.out]; exact HD.out
      subst hq
      clear HD HRs HHit HE
      go_wp2
      go_returns
      exact ⟨rfl, HB.out⟩
set_option maxRecDepth 100000 in
set_option maxHeartbeats 8000000 in
theorem pgivesIn_any (g : GV) (v : Value) (n : Nat) (w : World) (h : IsG w v g) (hn : n < g.nodes.length) (hN : g.nodes.length ≤ 900000) (hs : scopeOk g n) :
    Calls Tryz.prog 84 #[v, .int .i64 (n : Int)] w (Ret (.int .i64 (placeG g n true)) w) := by
  have H1 : Hid (∀ W, Below w.heap.size w W → Calls Tryz.prog 86 #[v, .int .i64 (n : Int), .int .i64 11] W (Ret (.int .i64 (placeG g n true)) W)) := fun W hW => by
    rw [← but_gives]
    exact pbut_any g v n 11 W (h.below hW) hn hN hs
  obtain ⟨p1, c1, p2, c2, p3, c3, p4, c4, rfl, G⟩ := h.go
  clear h G hs hn hN
  generalize placeG g n true = V at *
  generalize g.parent.length = n1 at *
  generalize g.bound.length = n2 at *
  generalize g.nodes.length = n3 at *
  generalize g.edges.length = n4 at *
  go_enter Tryz.func84, Tryz.ntmps84
  go_wp2_with fail
  refine (H1.out _ (by go_grown)).mono ?_
  rintro e w1 ⟨rfl, hb1⟩
  have HB1 := Lib.hid (bcall (B := w.heap.size) (a := w) (by go_grown) hb1 (by go_size))
  clear hb1
  go_wp2
  go_returns
  exact ⟨rfl, HB1.out⟩
/-- does an edge lead out of an operator that gives to a port of another one? -/
def endsV (src dst port : Int) (n3 : Nat) (ks pk : Int) : Bool := decide (0 ≤ src ∧ src < (n3 : Int) ∧ 0 ≤ dst ∧ dst < (n3 : Int) ∧ ks ≠ 15 ∧ 0 ≤ port ∧ port < pk)
set_option maxRecDepth 100000 in
set_option maxHeartbeats 8000000 in
theorem pends_any (g : GV) (v : Value) (src dst port : Int) (ex : Bool) (w : World) (h : IsG w v g) (hN : g.nodes.length ≤ 900000) :
    Calls Tryz.prog 83 #[v, .agg #[.int .i64 src, .int .i64 dst, .int .i64 port, .bool ex]] w (Ret (.bool (endsV src dst port g.nodes.length g.nodes[src.toNat]!.kind (portsG g.nodes[dst.toNat]!.kind))) w) := by
  obtain ⟨p1, c1, p2, c2, p3, c3, p4, c4, rfl, G⟩ := h.go
  clear h
  have HK : Hid (∀ n, n < g.nodes.length → ∃ b off, p3 = some ⟨b, off, none⟩ ∧ ∀ W, Below w.heap.size w W → W.cell? ⟨b, off + n * 4, none⟩ = some (.int .i64 g.nodes[n]!.kind)) := fun n hn => by
    obtain ⟨b, off, p, c, e, _, hc⟩ := G.nod n hn
    exact ⟨b, off, e, fun W hW => (hc W hW).1⟩
  clear G
  generalize hV : endsV src dst port g.nodes.length g.nodes[src.toNat]!.kind (portsG g.nodes[dst.toNat]!.kind) = V
  have HV : Hid (V = true ↔ (0 ≤ src ∧ src < (g.nodes.length : Int) ∧ 0 ≤ dst ∧ dst < (g.nodes.length : Int) ∧ g.nodes[src.toNat]!.kind ≠ 15 ∧ 0 ≤ port ∧ port < portsG g.nodes[dst.toNat]!.kind)) := by rw [Hid, ← hV, endsV, decide_eq_true_eq]
  clear hV
  generalize g.parent.length = n1 at *
  generalize g.bound.length = n2 at *
  generalize g.nodes.length = n3 at *
  generalize g.edges.length = n4 at *
  have HB0 := Lib.hid ((Below.refl w.heap.size w).alloc (Nat.le_refl _) (.cells #[.slice p1 n1 c1, .slice p2 n2 c2, .slice p3 n3 c3, .slice p4 n4 c4] 26))
  have HX0 : Hid (rowOf (w.alloc (.cells #[.slice p1 n1 c1, .slice p2 n2 c2, .slice p3 n3 c3, .slice p4 n4 c4] 26)) w.heap.size = some #[.slice p1 n1 c1, .slice p2 n2 c2, .slice p3 n3 c3, .slice p4 n4 c4]) := row_new rfl
  go_enter Tryz.func83, Tryz.ntmps83
  go_upto_region 1 with (fail)
  refine gen_world (fun W2 => Hid (Below w.heap.size w W2) ∧ Hid (rowOf W2 w.heap.size = some #[.slice p1 n1 c1, .slice p2 n2 c2, .slice p3 n3 c3, .slice p4 n4 c4]) ∧ Hid (rowOf W2 (w.heap.size + 1) = some #[.int .i64 src, .int .i64 dst, .int .i64 port, .bool ex])) ⟨Lib.hid (HB0.out.alloc (by simp) _), Lib.hid (row_old HX0.out), Lib.hid (row_new (by simp))⟩ ?_
  clear HB0 HX0
  rintro w1 ⟨HB1, HX1, HY1⟩
  have g_0 := (rowOf_cell HX1.out 0 : _ = some (Value.slice p1 n1 c1))
  have g_1 := (rowOf_cell HX1.out 1 : _ = some (Value.slice p2 n2 c2))
  have g_2 := (rowOf_cell HX1.out 2 : _ = some (Value.slice p3 n3 c3))
  have g_3 := (rowOf_cell HX1.out 3 : _ = some (Value.slice p4 n4 c4))
  have y_0 := (rowOf_cell HY1.out 0 : _ = some (Value.int .i64 src))
  have y_1 := (rowOf_cell HY1.out 1 : _ = some (Value.int .i64 dst))
  have y_2 := (rowOf_cell HY1.out 2 : _ = some (Value.int .i64 port))
  by_cases a1 : src < 0
  · have hq : V = false := Bool.eq_false_iff.2 fun e => by have := HV.out.1 e; omega
    subst hq
    clear HV HK
    go_wp2
    go_returns
    exact ⟨by first | rfl | simp, HB1.out⟩
  by_cases a2 : src ≥ (n3 : Int)
  · have hq : V = false := Bool.eq_false_iff.2 fun e => by have := HV.out.1 e; omega
    subst hq
    clear HV HK
    go_wp2
    go_returns
    exact ⟨by first | rfl | simp, HB1.out⟩
  by_cases a3 : dst < 0
  · have hq : V = false := Bool.eq_false_iff.2 fun e => by have := HV.out.1 e; omega
    subst hq
    clear HV HK
    go_wp2
    go_returns
    exact ⟨by first | rfl | simp, HB1.out⟩
  by_cases a4 : dst ≥ (n3 : Int)
  · have hq : V = false := Bool.eq_false_iff.2 fun e => by have := HV.out.1 e; omega
    subst hq
    clear HV HK
    go_wp2
    go_returns
    exact ⟨by first | rfl | simp, HB1.out⟩
  obtain ⟨sn, rfl⟩ : ∃ q : Nat, src = (q : Int) := ⟨src.toNat, by omega⟩
  obtain ⟨dn, rfl⟩ : ∃ q : Nat, dst = (q : Int) := ⟨dst.toNat, by omega⟩
  have hsl : (sn : Int) < (n3 : Int) := by omega
  have hdl : (dn : Int) < (n3 : Int) := by omega
  obtain ⟨b3, off3, rfl, hks⟩ := HK.out sn (by omega)
  have HKd : Hid (∀ W, Below w.heap.size w W → W.cell? ⟨b3, off3 + dn * 4, none⟩ = some (.int .i64 g.nodes[dn]!.kind)) := fun W hW => by
    obtain ⟨b', off', e, hc⟩ := HK.out dn (by omega)
    simp only [Option.some.injEq, Addr.mk.injEq] at e
    obtain ⟨rfl, rfl, _⟩ := e
    exact hc W hW
  have HKs := Lib.hid hks
  simp only [Int.toNat_natCast] at HV
  clear hks HK
  generalize g.nodes[sn]!.kind = ks at *
  generalize g.nodes[dn]!.kind = kd at *
  have HPo : Hid (∀ p : World, Calls Tryz.prog 57 #[.int .i64 kd] p (Ret (.int .i64 (portsG kd)) p)) := fun W => pports_any kd W
  generalize portsG kd = pk at *
  go_upto_region 3 with (fail)
  have x0 := bx_cell g_0
  have x1 := bx_cell g_1
  have x2 := bx_cell g_2
  have x3 := bx_cell g_3
  have y0 := bx_cell y_0
  have y1 := bx_cell y_1
  have y2 := bx_cell y_2
  have z0 := bx_cell (HKs.out _ HB1.out)
  have z1 := bx_cell (HKd.out _ HB1.out)
  clear g_0 g_1 g_2 g_3 y_0 y_1 y_2 HKs HKd
  by_cases q5 : ks = 15
  · have q5b : (ks != 15) = false := by simpa using q5
    have hq : V = false := Bool.eq_false_iff.2 fun e => (HV.out.1 e).2.2.2.2.1 q5
    subst hq
    clear HV
    refine wp_region_bx (by kernel_rfl) (by kernel_rfl) ?_
    repeat (first | go_big_quiet_step (fail) | quiet_step (fail))
    refine wpQuiet_nil ?_
    intro _ hw'
    obtain ⟨g9, hw''⟩ := hw'
    subst hw''
    have hb9 := g9.h
    generalize g9.w = w2 at hb9 ⊢
    clear g9
    have HB2 := Lib.hid (bstep HB1.out hb9 HB1.out.size)
    clear hb9 x0 x1 x2 x3 y0 y1 y2 z0 z1
    go_wp2
    go_returns
    exact ⟨by first | rfl | simp, HB2.out⟩
  have q5b : (ks != 15) = true := by simpa using q5
  by_cases q6 : 0 ≤ port
  · have hq : V = decide (port < pk) := by rw [Bool.eq_iff_iff, HV.out, decide_eq_true_eq]; exact ⟨fun e => e.2.2.2.2.2.2, fun e => ⟨by omega, hsl, by omega, hdl, q5, q6, e⟩⟩
    subst hq
    clear HV q5
    refine wp_region_bx (by kernel_rfl) (by kernel_rfl) ?_
    repeat (first | go_big_quiet_step (first | (with_reducible exact Calls.bx (HPo.out _))) | quiet_step (first | (with_reducible exact Calls.bx (HPo.out _))))
    refine wpQuiet_nil ?_
    intro _ hw'
    obtain ⟨g9, hw''⟩ := hw'
    subst hw''
    have hb9 := g9.h
    generalize g9.w = w2 at hb9 ⊢
    clear g9
    have HB2 := Lib.hid (bstep HB1.out hb9 HB1.out.size)
    clear hb9 x0 x1 x2 x3 y0 y1 y2 z0 z1
    go_wp2
    go_returns
    exact ⟨by first | rfl | simp, HB2.out⟩
  · have hq : V = false := Bool.eq_false_iff.2 fun e => q6 (HV.out.1 e).2.2.2.2.2.1
    subst hq
    clear HV q5
    refine wp_region_bx (by kernel_rfl) (by kernel_rfl) ?_
    repeat (first | go_big_quiet_step (fail) | quiet_step (fail))
    refine wpQuiet_nil ?_
    intro _ hw'
    obtain ⟨g9, hw''⟩ := hw'
    subst hw''
    have hb9 := g9.h
    generalize g9.w = w2 at hb9 ⊢
    clear g9
    have HB2 := Lib.hid (bstep HB1.out hb9 HB1.out.size)
    clear hb9 x0 x1 x2 x3 y0 y1 y2 z0 z1
    go_wp2
    go_returns
    exact ⟨by first | rfl | simp, HB2.out⟩
theorem edgeV_out {src dst port : Int} {ex : Bool} {n3 : Nat} {ks kd ps pd pk : Int} {tk : Bool} (h : endsV src dst port n3 ks pk = false) : edgeV src dst port ex n3 ks kd ps pd pk tk = 7 := by
  unfold edgeV
  unfold endsV at h
  have := of_decide_eq_false h
  rw [if_pos (by
    rcases Classical.em (ks = 15) with e | e
    · exact .inr (.inr (.inr (.inr (.inl e))))
    · omega)]
theorem edgeV_in {src dst port : Int} {ex : Bool} {n3 : Nat} {ks kd ps pd pk : Int} {tk : Bool} (h : endsV src dst port n3 ks pk = true) : edgeV src dst port ex n3 ks kd ps pd pk tk = if ps ≠ pd then 6 else if ks ≠ 12 ∧ dst ≤ src then 8 else if ex = false ∧ gathersG kd = true then 1 else if tk = true then 7 else 0 := by
  unfold edgeV
  unfold endsV at h
  have := of_decide_eq_true h
  rw [if_neg (by omega)]
  have e : gathersG kd = true ↔ (kd = 6 ∨ kd = 7 ∨ kd = 8 ∨ kd = 9 ∨ kd = 14) := by unfold gathersG; rw [decide_eq_true_eq]
  simp only [e]
set_option maxRecDepth 100000 in
set_option maxHeartbeats 8000000 in
theorem pedgeE_any (g : GV) (v : Value) (i : Nat) (w : World) (h : IsG w v g) (hcap : capsG v) (hi : i < g.edges.length) (S : SmallG g) (hs : ∀ n, n < g.nodes.length → scopeOk g n) :
    Calls Tryz.prog 56 #[v, .int .i64 (i : Int)] w (Ret (.int .i64 (edgeE g i)) w) := by
  have HEn : Hid (∀ W, Below w.heap.size w W → Calls Tryz.prog 83 #[v, .agg #[.int .i64 g.edges[i]!.src, .int .i64 g.edges[i]!.dst, .int .i64 g.edges[i]!.port, .bool g.edges[i]!.ex]] W (Ret (.bool (endsV g.edges[i]!.src g.edges[i]!.dst g.edges[i]!.port g.nodes.length g.nodes[g.edges[i]!.src.toNat]!.kind (portsG g.nodes[g.edges[i]!.dst.toNat]!.kind))) W)) := fun W hW => pends_any g v _ _ _ _ W (h.below hW) S.n
  have HGi : Hid (∀ n : Nat, n < g.nodes.length → ∀ W, Below w.heap.size w W → Calls Tryz.prog 84 #[v, .int .i64 (n : Int)] W (Ret (.int .i64 (placeG g n true)) W)) := fun n hn W hW => pgivesIn_any g v n W (h.below hW) hn S.n (hs n hn)
  have HTi : Hid (∀ n : Nat, n < g.nodes.length → ∀ W, Below w.heap.size w W → Calls Tryz.prog 61 #[v, .int .i64 (n : Int)] W (Ret (.int .i64 (placeG g n false)) W)) := fun n hn W hW => ptakesIn_any g v n W (h.below hW) hn S.n (hs n hn)
  have hi4 := hcap
  obtain ⟨p1, c1, p2, c2, p3, c3, p4, c4, rfl, G⟩ := h.go
  have hc4 : g.edges.length ≤ c4 := hi4.get.2
  have HHe : Hid (∀ W, Below w.heap.size w W → Calls Tryz.prog 58 #[.slice p4 i c4, .int .i64 g.edges[i]!.dst, .int .i64 g.edges[i]!.port] W (Ret (.bool (takenG g i)) W)) := fun W hW => phas_any g.edges i c4 p4 _ _ W (by have := S.e; omega) fun j hj => by
    obtain ⟨b, off, e, hc⟩ := G.edg j (by omega)
    exact ⟨b, off, e, fun W2 h2 => hc W2 (hW.trans (h2.mono hW.size))⟩
  have HK : Hid (∀ n, n < g.nodes.length → ∃ b off, p3 = some ⟨b, off, none⟩ ∧ ∀ W, Below w.heap.size w W → W.cell? ⟨b, off + n * 4, none⟩ = some (.int .i64 g.nodes[n]!.kind)) := fun n hn => by
    obtain ⟨b, off, p, c, e, _, hc⟩ := G.nod n hn
    exact ⟨b, off, e, fun W hW => (hc W hW).1⟩
  obtain ⟨b4, off4, rfl, hce⟩ := G.edg i hi
  clear h hcap G hs hi4
  generalize hV : edgeE g i = V
  unfold edgeE at hV
  have HV := Lib.hid hV
  clear hV
  generalize takenG g i = tk at *
  generalize hed : g.edges[i]! = ed at *
  clear hed
  obtain ⟨src, dst, port, ex⟩ := ed
  simp only at HV hce HHe HEn
  have hil : (i : Int) < (g.edges.length : Int) := by omega
  have hic : (i : Int) ≤ (c4 : Int) := by omega
  have hic2 : i ≤ c4 := by omega
  clear S
  obtain ⟨z0, z1, z2, z3⟩ := hce _ ((Below.refl w.heap.size w).alloc (Nat.le_refl _) (.cells #[.slice p1 g.parent.length c1, .slice p2 g.bound.length c2, .slice p3 g.nodes.length c3, .slice (some ⟨b4, off4, none⟩) g.edges.length c4] 26))
  clear hce
  generalize g.parent.length = n1 at *
  generalize g.bound.length = n2 at *
  generalize g.nodes.length = n3 at *
  generalize g.edges.length = n4 at *
  have HB0 := Lib.hid ((Below.refl w.heap.size w).alloc (Nat.le_refl _) (.cells #[.slice p1 n1 c1, .slice p2 n2 c2, .slice p3 n3 c3, .slice (some ⟨b4, off4, none⟩) n4 c4] 26))
  have HX0 : Hid (rowOf (w.alloc (.cells #[.slice p1 n1 c1, .slice p2 n2 c2, .slice p3 n3 c3, .slice (some ⟨b4, off4, none⟩) n4 c4] 26)) w.heap.size = some #[.slice p1 n1 c1, .slice p2 n2 c2, .slice p3 n3 c3, .slice (some ⟨b4, off4, none⟩) n4 c4]) := row_new rfl
  go_enter Tryz.func56, Tryz.ntmps56
  go_upto_region 2 with (fail)
  refine gen_world (fun W2 => Hid (Below w.heap.size w W2) ∧ Hid (rowOf W2 w.heap.size = some #[.slice p1 n1 c1, .slice p2 n2 c2, .slice p3 n3 c3, .slice (some ⟨b4, off4, none⟩) n4 c4]) ∧ Hid (rowOf W2 (w.heap.size + 1) = some #[.int .i64 src, .int .i64 dst, .int .i64 port, .bool ex])) ⟨Lib.hid (HB0.out.alloc (by simp) _), Lib.hid (row_old HX0.out), Lib.hid (row_new (by simp))⟩ ?_
  clear HB0 HX0 z0 z1 z2 z3
  rintro w1 ⟨HB1, HX1, HY1⟩
  have g_0 := (rowOf_cell HX1.out 0 : _ = some (Value.slice p1 n1 c1))
  have g_1 := (rowOf_cell HX1.out 1 : _ = some (Value.slice p2 n2 c2))
  have g_2 := (rowOf_cell HX1.out 2 : _ = some (Value.slice p3 n3 c3))
  have g_3 := (rowOf_cell HX1.out 3 : _ = some (Value.slice (some ⟨b4, off4, none⟩) n4 c4))
  have y_0 := (rowOf_cell HY1.out 0 : _ = some (Value.int .i64 src))
  have y_1 := (rowOf_cell HY1.out 1 : _ = some (Value.int .i64 dst))
  have y_2 := (rowOf_cell HY1.out 2 : _ = some (Value.int .i64 port))
  have y_3 := (rowOf_cell HY1.out 3 : _ = some (Value.bool ex))
  go_wp2_with fail
  refine (HEn.out _ HB1.out).mono ?_
  rintro e w2 ⟨rfl, hb⟩
  have HB2 := Lib.hid (bstep HB1.out hb HB1.out.size)
  have HX2 := Lib.hid (rowOf_below HX1.out hb (rowOf_lt HX1.out))
  have HY2 := Lib.hid (rowOf_below HY1.out hb (rowOf_lt HY1.out))
  clear hb
  clear g_0 g_1 g_2 g_3 y_0 y_1 y_2 y_3
  generalize hen : endsV src dst port n3 g.nodes[src.toNat]!.kind (portsG g.nodes[dst.toNat]!.kind) = en at *
  cases en
  · obtain rfl : V = 7 := by rw [← HV.out]; exact edgeV_out hen
    clear HV hen HEn HGi HTi HHe HK
    go_wp2
    go_returns
    exact ⟨rfl, HB2.out⟩
  have HEN := Lib.hid hen
  have hV := HV.out
  unfold endsV at hen
  have hen' := of_decide_eq_true hen
  have q1 := hen'.1
  have q2 := hen'.2.1
  have q3 := hen'.2.2.1
  have q4 := hen'.2.2.2.1
  clear hen hen' HV HEn
  obtain ⟨sn, rfl⟩ : ∃ q : Nat, src = (q : Int) := ⟨src.toNat, by omega⟩
  obtain ⟨dn, rfl⟩ : ∃ q : Nat, dst = (q : Int) := ⟨dst.toNat, by omega⟩
  obtain ⟨b3, off3, rfl, hks⟩ := HK.out sn (by omega)
  have HKd : Hid (∀ W, Below w.heap.size w W → W.cell? ⟨b3, off3 + dn * 4, none⟩ = some (.int .i64 g.nodes[dn]!.kind)) := fun W hW => by
    obtain ⟨b', off', e, hc⟩ := HK.out dn (by omega)
    simp only [Option.some.injEq, Addr.mk.injEq] at e
    obtain ⟨rfl, rfl, _⟩ := e
    exact hc W hW
  have HKs := Lib.hid hks
  clear hks HK
  simp only [Int.toNat_natCast] at hV
  have hen2 := HEN.out
  simp only [Int.toNat_natCast] at hen2
  clear HEN
  have HPs := Lib.hid (HGi.out sn (by omega))
  have HPd := Lib.hid (HTi.out dn (by omega))
  clear HGi HTi
  generalize g.nodes[sn]!.kind = ks at *
  generalize g.nodes[dn]!.kind = kd at *
  generalize placeG g sn true = ps at *
  generalize placeG g dn false = pd at *
  have HGa : Hid (∀ W : World, Calls Tryz.prog 85 #[.int .i64 kd] W (Ret (.bool (gathersG kd)) W)) := fun W => pgathers_any kd W
  generalize hga : gathersG kd = ga at *
  have HV : Hid (V = if ps ≠ pd then 6 else if ks ≠ 12 ∧ (dn : Int) ≤ (sn : Int) then 8 else if ex = false ∧ ga = true then 1 else if tk = true then 7 else 0) := by
    rw [Hid, ← hV, edgeV_in hen2, hga]
  clear hV hen2 hga
  have q1' : ¬ n3 ≤ sn := by omega
  have q3' : ¬ n3 ≤ dn := by omega
  go_upto_region 4 with (fail)
  have x0 := bx_cell (rowOf_cell HX2.out 0 : _ = some (Value.slice p1 n1 c1))
  have x1 := bx_cell (rowOf_cell HX2.out 1 : _ = some (Value.slice p2 n2 c2))
  have x2 := bx_cell (rowOf_cell HX2.out 2 : _ = some (Value.slice (some ⟨b3, off3, none⟩) n3 c3))
  have x3 := bx_cell (rowOf_cell HX2.out 3 : _ = some (Value.slice (some ⟨b4, off4, none⟩) n4 c4))
  have t0 := bx_cell (rowOf_cell HY2.out 0 : _ = some (Value.int .i64 (sn : Int)))
  have t1 := bx_cell (rowOf_cell HY2.out 1 : _ = some (Value.int .i64 (dn : Int)))
  have t2 := bx_cell (rowOf_cell HY2.out 2 : _ = some (Value.int .i64 port))
  have t3 := bx_cell (rowOf_cell HY2.out 3 : _ = some (Value.bool ex))
  have K1 : Hid (∀ p : Bx w2, Calls Tryz.prog 84 #[.agg #[.slice p1 n1 c1, .slice p2 n2 c2, .slice (some ⟨b3, off3, none⟩) n3 c3, .slice (some ⟨b4, off4, none⟩) n4 c4], .int .i64 (sn : Int)] p.w (Ret (.int .i64 ps) p.w)) := fun p => HPs.out p.w (bstep HB2.out p.h HB2.out.size)
  have K2 : Hid (∀ p : Bx w2, Calls Tryz.prog 61 #[.agg #[.slice p1 n1 c1, .slice p2 n2 c2, .slice (some ⟨b3, off3, none⟩) n3 c3, .slice (some ⟨b4, off4, none⟩) n4 c4], .int .i64 (dn : Int)] p.w (Ret (.int .i64 pd) p.w)) := fun p => HPd.out p.w (bstep HB2.out p.h HB2.out.size)
  refine wp_region_bx (by kernel_rfl) (by kernel_rfl) ?_
  repeat (first | go_big_quiet_step (first | (with_reducible exact Calls.bx (K1.out _)) | (with_reducible exact Calls.bx (K2.out _))) | quiet_step (first | (with_reducible exact Calls.bx (K1.out _)) | (with_reducible exact Calls.bx (K2.out _))))
  refine wpQuiet_nil ?_
  intro _ hw'
  obtain ⟨g9, hw''⟩ := hw'
  subst hw''
  have hb9 := g9.h
  generalize g9.w = w3 at hb9 ⊢
  clear g9
  have HB3 := Lib.hid (bstep HB2.out hb9 HB2.out.size)
  have HX3 := Lib.hid (rowOf_below HX2.out hb9 (rowOf_lt HX2.out))
  have HY3 := Lib.hid (rowOf_below HY2.out hb9 (rowOf_lt HY2.out))
  clear hb9 x0 x1 x2 x3 t0 t1 t2 t3 K1 K2 HPs HPd
  by_cases q8 : ps = pd
  · have q8b : (ps != pd) = false := by simpa using q8
    have HV2 : Hid (V = if ks ≠ 12 ∧ (dn : Int) ≤ (sn : Int) then 8 else if ex = false ∧ ga = true then 1 else if tk = true then 7 else 0) := by
      have := HV.out
      rw [if_neg (fun e => e q8)] at this
      exact this
    clear HV q8
    have g_0 := (rowOf_cell HX3.out 0 : _ = some (Value.slice p1 n1 c1))
    have g_1 := (rowOf_cell HX3.out 1 : _ = some (Value.slice p2 n2 c2))
    have g_2 := (rowOf_cell HX3.out 2 : _ = some (Value.slice (some ⟨b3, off3, none⟩) n3 c3))
    have g_3 := (rowOf_cell HX3.out 3 : _ = some (Value.slice (some ⟨b4, off4, none⟩) n4 c4))
    have y_0 := (rowOf_cell HY3.out 0 : _ = some (Value.int .i64 (sn : Int)))
    have y_1 := (rowOf_cell HY3.out 1 : _ = some (Value.int .i64 (dn : Int)))
    have y_2 := (rowOf_cell HY3.out 2 : _ = some (Value.int .i64 port))
    have y_3 := (rowOf_cell HY3.out 3 : _ = some (Value.bool ex))
    have z0 := HKs.out _ HB3.out
    have z1 := HKd.out _ HB3.out
    by_cases q9 : ks ≠ 12 ∧ (dn : Int) ≤ (sn : Int)
    · obtain rfl : V = 8 := by rw [HV2.out, if_pos q9]
      have q9b : (ks != 12) = true := by simpa using q9.1
      have q9c := q9.2
      clear HV2 q9 HHe HGa
      go_wp2
      go_returns
      exact ⟨rfl, HB3.out⟩
    have HV3 : Hid (V = if ex = false ∧ ga = true then 1 else if tk = true then 7 else 0) := by
      have := HV2.out
      rw [if_neg q9] at this
      exact this
    clear HV2
    by_cases q10 : (dn : Int) ≤ (sn : Int)
    · have q9b : (ks != 12) = false := by
        have : ks = 12 := Classical.byContradiction fun e => q9 ⟨e, q10⟩
        simpa using this
      clear q9
      clear g_0 g_1 g_3
      go_wp2_with fail
      refine (HGa.out _).mono ?_
      rintro e w4 ⟨rfl, hb⟩
      have HB4 := Lib.hid (bstep HB3.out hb HB3.out.size)
      have HX4 := Lib.hid (rowOf_below HX3.out hb (rowOf_lt HX3.out))
      have HY4 := Lib.hid (rowOf_below HY3.out hb (rowOf_lt HY3.out))
      clear hb g_2 y_0 y_1 y_2 y_3 z0 z1 HGa
      have g_2 := (rowOf_cell HX4.out 2 : _ = some (Value.slice (some ⟨b3, off3, none⟩) n3 c3))
      have y_0 := (rowOf_cell HY4.out 0 : _ = some (Value.int .i64 (sn : Int)))
      have y_1 := (rowOf_cell HY4.out 1 : _ = some (Value.int .i64 (dn : Int)))
      have y_2 := (rowOf_cell HY4.out 2 : _ = some (Value.int .i64 port))
      have y_3 := (rowOf_cell HY4.out 3 : _ = some (Value.bool ex))
      cases ga
      · have HV4 : Hid (V = if tk = true then 7 else 0) := by
          have := HV3.out
          rw [if_neg (fun e => by simp at e)] at this
          exact this
        clear HV3
        go_upto_region 10 with (fail)
        have x0 := bx_cell (rowOf_cell HX4.out 0 : _ = some (Value.slice p1 n1 c1))
        have x1 := bx_cell (rowOf_cell HX4.out 1 : _ = some (Value.slice p2 n2 c2))
        have x2 := bx_cell (rowOf_cell HX4.out 2 : _ = some (Value.slice (some ⟨b3, off3, none⟩) n3 c3))
        have x3 := bx_cell (rowOf_cell HX4.out 3 : _ = some (Value.slice (some ⟨b4, off4, none⟩) n4 c4))
        have t0 := bx_cell (rowOf_cell HY4.out 0 : _ = some (Value.int .i64 (sn : Int)))
        have t1 := bx_cell (rowOf_cell HY4.out 1 : _ = some (Value.int .i64 (dn : Int)))
        have t2 := bx_cell (rowOf_cell HY4.out 2 : _ = some (Value.int .i64 port))
        have t3 := bx_cell (rowOf_cell HY4.out 3 : _ = some (Value.bool ex))
        have K3 : Hid (∀ p : Bx w4, Calls Tryz.prog 58 #[.slice (some ⟨b4, off4, none⟩) i c4, .int .i64 (dn : Int), .int .i64 port] p.w (Ret (.bool tk) p.w)) := fun p => HHe.out p.w (bstep HB4.out p.h HB4.out.size)
        clear HHe g_2 y_0 y_1 y_2 y_3 HKs HKd
        refine wp_region_bx (by kernel_rfl) (by kernel_rfl) ?_
        repeat (first | go_big_quiet_step (first | (with_reducible exact Calls.bx (K3.out _))) | quiet_step (first | (with_reducible exact Calls.bx (K3.out _))))
        refine wpQuiet_nil ?_
        intro _ hw'
        obtain ⟨g9, hw''⟩ := hw'
        subst hw''
        have hb9 := g9.h
        generalize g9.w = w5 at hb9 ⊢
        clear g9
        have HB5 := Lib.hid (bstep HB4.out hb9 HB4.out.size)
        clear hb9 x0 x1 x2 x3 t0 t1 t2 t3 K3
        cases tk
        · obtain rfl : V = 0 := HV4.out
          clear HV4
          go_wp2
          go_returns
          exact ⟨rfl, HB5.out⟩
        · obtain rfl : V = 7 := HV4.out
          clear HV4
          go_wp2
          go_returns
          exact ⟨rfl, HB5.out⟩
      · cases ex
        · obtain rfl : V = 1 := by rw [HV3.out, if_pos ⟨rfl, rfl⟩]
          clear HV3 HHe HKs HKd
          go_wp2
          go_returns
          exact ⟨rfl, HB4.out⟩
        · have HV4 : Hid (V = if tk = true then 7 else 0) := by
            have := HV3.out
            rw [if_neg (fun e => by simp at e)] at this
            exact this
          clear HV3
          go_upto_region 10 with (fail)
          have x0 := bx_cell (rowOf_cell HX4.out 0 : _ = some (Value.slice p1 n1 c1))
          have x1 := bx_cell (rowOf_cell HX4.out 1 : _ = some (Value.slice p2 n2 c2))
          have x2 := bx_cell (rowOf_cell HX4.out 2 : _ = some (Value.slice (some ⟨b3, off3, none⟩) n3 c3))
          have x3 := bx_cell (rowOf_cell HX4.out 3 : _ = some (Value.slice (some ⟨b4, off4, none⟩) n4 c4))
          have t0 := bx_cell (rowOf_cell HY4.out 0 : _ = some (Value.int .i64 (sn : Int)))
          have t1 := bx_cell (rowOf_cell HY4.out 1 : _ = some (Value.int .i64 (dn : Int)))
          have t2 := bx_cell (rowOf_cell HY4.out 2 : _ = some (Value.int .i64 port))
          have t3 := bx_cell (rowOf_cell HY4.out 3 : _ = some (Value.bool true))
          have K3 : Hid (∀ p : Bx w4, Calls Tryz.prog 58 #[.slice (some ⟨b4, off4, none⟩) i c4, .int .i64 (dn : Int), .int .i64 port] p.w (Ret (.bool tk) p.w)) := fun p => HHe.out p.w (bstep HB4.out p.h HB4.out.size)
          clear HHe g_2 y_0 y_1 y_2 y_3 HKs HKd
          refine wp_region_bx (by kernel_rfl) (by kernel_rfl) ?_
          repeat (first | go_big_quiet_step (first | (with_reducible exact Calls.bx (K3.out _))) | quiet_step (first | (with_reducible exact Calls.bx (K3.out _))))
          refine wpQuiet_nil ?_
          intro _ hw'
          obtain ⟨g9, hw''⟩ := hw'
          subst hw''
          have hb9 := g9.h
          generalize g9.w = w5 at hb9 ⊢
          clear g9
          have HB5 := Lib.hid (bstep HB4.out hb9 HB4.out.size)
          clear hb9 x0 x1 x2 x3 t0 t1 t2 t3 K3
          cases tk
          · obtain rfl : V = 0 := HV4.out
            clear HV4
            go_wp2
            go_returns
            exact ⟨rfl, HB5.out⟩
          · obtain rfl : V = 7 := HV4.out
            clear HV4
            go_wp2
            go_returns
            exact ⟨rfl, HB5.out⟩
    · clear q9
      clear g_0 g_1 g_3
      go_wp2_with fail
      refine (HGa.out _).mono ?_
      rintro e w4 ⟨rfl, hb⟩
      have HB4 := Lib.hid (bstep HB3.out hb HB3.out.size)
      have HX4 := Lib.hid (rowOf_below HX3.out hb (rowOf_lt HX3.out))
      have HY4 := Lib.hid (rowOf_below HY3.out hb (rowOf_lt HY3.out))
      clear hb g_2 y_0 y_1 y_2 y_3 z0 z1 HGa
      have g_2 := (rowOf_cell HX4.out 2 : _ = some (Value.slice (some ⟨b3, off3, none⟩) n3 c3))
      have y_0 := (rowOf_cell HY4.out 0 : _ = some (Value.int .i64 (sn : Int)))
      have y_1 := (rowOf_cell HY4.out 1 : _ = some (Value.int .i64 (dn : Int)))
      have y_2 := (rowOf_cell HY4.out 2 : _ = some (Value.int .i64 port))
      have y_3 := (rowOf_cell HY4.out 3 : _ = some (Value.bool ex))
      cases ga
      · have HV4 : Hid (V = if tk = true then 7 else 0) := by
          have := HV3.out
          rw [if_neg (fun e => by simp at e)] at this
          exact this
        clear HV3
        go_upto_region 10 with (fail)
        have x0 := bx_cell (rowOf_cell HX4.out 0 : _ = some (Value.slice p1 n1 c1))
        have x1 := bx_cell (rowOf_cell HX4.out 1 : _ = some (Value.slice p2 n2 c2))
        have x2 := bx_cell (rowOf_cell HX4.out 2 : _ = some (Value.slice (some ⟨b3, off3, none⟩) n3 c3))
        have x3 := bx_cell (rowOf_cell HX4.out 3 : _ = some (Value.slice (some ⟨b4, off4, none⟩) n4 c4))
        have t0 := bx_cell (rowOf_cell HY4.out 0 : _ = some (Value.int .i64 (sn : Int)))
        have t1 := bx_cell (rowOf_cell HY4.out 1 : _ = some (Value.int .i64 (dn : Int)))
        have t2 := bx_cell (rowOf_cell HY4.out 2 : _ = some (Value.int .i64 port))
        have t3 := bx_cell (rowOf_cell HY4.out 3 : _ = some (Value.bool ex))
        have K3 : Hid (∀ p : Bx w4, Calls Tryz.prog 58 #[.slice (some ⟨b4, off4, none⟩) i c4, .int .i64 (dn : Int), .int .i64 port] p.w (Ret (.bool tk) p.w)) := fun p => HHe.out p.w (bstep HB4.out p.h HB4.out.size)
        clear HHe g_2 y_0 y_1 y_2 y_3 HKs HKd
        refine wp_region_bx (by kernel_rfl) (by kernel_rfl) ?_
        repeat (first | go_big_quiet_step (first | (with_reducible exact Calls.bx (K3.out _))) | quiet_step (first | (with_reducible exact Calls.bx (K3.out _))))
        refine wpQuiet_nil ?_
        intro _ hw'
        obtain ⟨g9, hw''⟩ := hw'
        subst hw''
        have hb9 := g9.h
        generalize g9.w = w5 at hb9 ⊢
        clear g9
        have HB5 := Lib.hid (bstep HB4.out hb9 HB4.out.size)
        clear hb9 x0 x1 x2 x3 t0 t1 t2 t3 K3
        cases tk
        · obtain rfl : V = 0 := HV4.out
          clear HV4
          go_wp2
          go_returns
          exact ⟨rfl, HB5.out⟩
        · obtain rfl : V = 7 := HV4.out
          clear HV4
          go_wp2
          go_returns
          exact ⟨rfl, HB5.out⟩
      · cases ex
        · obtain rfl : V = 1 := by rw [HV3.out, if_pos ⟨rfl, rfl⟩]
          clear HV3 HHe HKs HKd
          go_wp2
          go_returns
          exact ⟨rfl, HB4.out⟩
        · have HV4 : Hid (V = if tk = true then 7 else 0) := by
            have := HV3.out
            rw [if_neg (fun e => by simp at e)] at this
            exact this
          clear HV3
          go_upto_region 10 with (fail)
          have x0 := bx_cell (rowOf_cell HX4.out 0 : _ = some (Value.slice p1 n1 c1))
          have x1 := bx_cell (rowOf_cell HX4.out 1 : _ = some (Value.slice p2 n2 c2))
          have x2 := bx_cell (rowOf_cell HX4.out 2 : _ = some (Value.slice (some ⟨b3, off3, none⟩) n3 c3))
          have x3 := bx_cell (rowOf_cell HX4.out 3 : _ = some (Value.slice (some ⟨b4, off4, none⟩) n4 c4))
          have t0 := bx_cell (rowOf_cell HY4.out 0 : _ = some (Value.int .i64 (sn : Int)))
          have t1 := bx_cell (rowOf_cell HY4.out 1 : _ = some (Value.int .i64 (dn : Int)))
          have t2 := bx_cell (rowOf_cell HY4.out 2 : _ = some (Value.int .i64 port))
          have t3 := bx_cell (rowOf_cell HY4.out 3 : _ = some (Value.bool true))
          have K3 : Hid (∀ p : Bx w4, Calls Tryz.prog 58 #[.slice (some ⟨b4, off4, none⟩) i c4, .int .i64 (dn : Int), .int .i64 port] p.w (Ret (.bool tk) p.w)) := fun p => HHe.out p.w (bstep HB4.out p.h HB4.out.size)
          clear HHe g_2 y_0 y_1 y_2 y_3 HKs HKd
          refine wp_region_bx (by kernel_rfl) (by kernel_rfl) ?_
          repeat (first | go_big_quiet_step (first | (with_reducible exact Calls.bx (K3.out _))) | quiet_step (first | (with_reducible exact Calls.bx (K3.out _))))
          refine wpQuiet_nil ?_
          intro _ hw'
          obtain ⟨g9, hw''⟩ := hw'
          subst hw''
          have hb9 := g9.h
          generalize g9.w = w5 at hb9 ⊢
          clear g9
          have HB5 := Lib.hid (bstep HB4.out hb9 HB4.out.size)
          clear hb9 x0 x1 x2 x3 t0 t1 t2 t3 K3
          cases tk
          · obtain rfl : V = 0 := HV4.out
            clear HV4
            go_wp2
            go_returns
            exact ⟨rfl, HB5.out⟩
          · obtain rfl : V = 7 := HV4.out
            clear HV4
            go_wp2
            go_returns
            exact ⟨rfl, HB5.out⟩
  · have q8b : (ps != pd) = true := by simpa using q8
    obtain rfl : V = 6 := by rw [HV.out, if_pos q8]
    clear HV q8 HHe HGa HKs HKd
    go_wp2
    go_returns
    exact ⟨rfl, HB3.out⟩
set_option maxRecDepth 100000 in
set_option maxHeartbeats 8000000 in
theorem pedgesC_any (g : GV) (v : Value) (w : World) (h : IsG w v g) (hcap : capsG v) (S : SmallG g) (hs : ∀ n, n < g.nodes.length → scopeOk g n) :
    Calls Tryz.prog 31 #[v] w (RetChk (runE g) w) := by
  have HS : Hid (∀ k : Nat, k < g.edges.length → ∀ W, Below w.heap.size w W → Calls Tryz.prog 56 #[v, .int .i64 (k : Int)] W (Ret (.int .i64 (edgeE g k)) W)) := fun k hk W hW => pedgeE_any g v k W (h.below hW) hcap hk S hs
  have HYes : Hid ((∀ j, j < g.edges.length → edgeE g j = 0) → runE g) := fun r => r
  have HBad : Hid (∀ k, k < g.edges.length → ¬ edgeE g k = 0 → ¬ runE g) := fun k hk hz r => hz (r k hk)
  obtain ⟨p1, c1, p2, c2, p3, c3, p4, c4, rfl, G⟩ := h.go
  have hn9 := S.e
  clear h G hcap S hs
  generalize runE g = R at *
  generalize g.parent.length = n1 at *
  generalize g.bound.length = n2 at *
  generalize g.nodes.length = n3 at *
  generalize g.edges.length = n4 at *
  have HB0 := Lib.hid ((Below.refl w.heap.size w).alloc (Nat.le_refl _) (.cells #[.slice p1 n1 c1, .slice p2 n2 c2, .slice p3 n3 c3, .slice p4 n4 c4] 26))
  have HX0 : Hid (rowOf (w.alloc (.cells #[.slice p1 n1 c1, .slice p2 n2 c2, .slice p3 n3 c3, .slice p4 n4 c4] 26)) w.heap.size = some #[.slice p1 n1 c1, .slice p2 n2 c2, .slice p3 n3 c3, .slice p4 n4 c4]) := row_new rfl
  go_enter Tryz.func31, Tryz.ntmps31
  go_wp2
  go_loopg [9] n4 (fun gg iv wr => ∃ k : Nat, k ≤ n4 ∧ n4 - k ≤ gg ∧ iv = .int .i64 (k : Int) ∧ Hid (∀ j, j < k → edgeE g j = 0) ∧ Hid (Below w.heap.size w wr) ∧ Hid (rowOf wr w.heap.size = some #[.slice p1 n1 c1, .slice p2 n2 c2, .slice p3 n3 c3, .slice p4 n4 c4]))
  case atStart => exact ⟨0, Nat.zero_le _, by omega, rfl, fun j hj => by omega, HB0.out, HX0.out⟩
  case round =>
    obtain ⟨k, hk, hg, rfl, HP, HB, HX⟩ := hrel
    by_cases hlt : k < n4
    · have hlz : (k : Int) < (n4 : Int) := by omega
      have HC := Lib.hid (HS.out k hlt)
      have g_0 := (rowOf_cell HX.out 0 : _ = some (Value.slice p1 n1 c1))
      have g_1 := (rowOf_cell HX.out 1 : _ = some (Value.slice p2 n2 c2))
      have g_2 := (rowOf_cell HX.out 2 : _ = some (Value.slice p3 n3 c3))
      have g_3 := (rowOf_cell HX.out 3 : _ = some (Value.slice p4 n4 c4))
      clear HB0 HX0
      go_wp2_with fail
      refine (HC.out _ HB.out).mono ?_
      rintro e w3 ⟨rfl, hb⟩
      have HB3 := Lib.hid (bstep HB.out hb HB.out.size)
      have HX3 := Lib.hid (rowOf_below HX.out hb (rowOf_lt HX.out))
      clear hb g_0 g_1 g_2 g_3 HC
      by_cases hz : edgeE g k = 0
      · rw [hz]
        have HP2 : Hid (∀ j, j < k + 1 → edgeE g j = 0) := fun j hj => by
          by_cases e : j = k
          · rw [e]; exact hz
          · exact HP.out j (by omega)
        clear hz HS HP
        go_wp2
        go_roundg (n4 - (k + 1))
        case measure => omega
        case rel => exact ⟨k + 1, by omega, by omega, by go_num, HP2.out, HB3.out, HX3.out⟩
      · have hR := Lib.hid (HBad.out k hlt hz)
        generalize edgeE g k = x at *
        have xb : (x != 0) = true := by simpa using hz
        have HZ := Lib.hid hz
        clear hz HS HP HBad HYes
        go_wp2
        go_returns
        exact ⟨x, _, rfl, ⟨fun e => absurd e HZ.out, fun hok => absurd hok hR.out⟩, HB3.out⟩
    · have hlz : ¬ (k : Int) < (n4 : Int) := by omega
      obtain rfl : n4 = k := by omega
      have hR := HYes.out HP.out
      clear HS HBad HYes HB0 HX0
      go_wp2
      go_returns
      exact ⟨0, _, rfl, ⟨fun _ => hR, fun _ => rfl⟩, HB.out⟩
end Go.Proofs.YtjaahmgokiobjaaGreat
