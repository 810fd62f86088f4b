/- the document's edge: what an edge's error is -/
import Derived.Test.YtjaahmgokiobjaaGreatG14
import Derived.Test.YtjaahmgokiobjaaGreatG05
namespace Go.Proofs.YtjaahmgokiobjaaGreat
open Go.RowKit
set_option linter.unusedVariables false
set_option linter.unusedSimpArgs false
set_option maxRecDepth 100000 in
set_option maxHeartbeats 64000000 in
theorem redge_any (g : GV) (v : Value) (i : Nat) (w : World) (h : IsG w v g) (hl : g.parent.length ≤ 900000) (hi : i < g.edges.length) (hN : g.nodes.length ≤ 900000) (hE : g.edges.length ≤ 900000) (hs : ∀ n, n < g.nodes.length → scopeOk g n) :
    Calls Tryz.prog 27 #[v, .int .i64 (i : Int)] w (Ret (.int .i64 (edgeE g i)) w) := by
  have HPl := Lib.hid (fun n b (hn : n < g.nodes.length) W (hW : Below w.heap.size w W) => rplace_any g v n b W (h.below hW) hn (hs n hn))
  obtain ⟨p1, c1, p2, c2, p3, c3, p4, c4, rfl, G⟩ := h.go
  obtain ⟨b4, off4, rfl, hc4⟩ := G.edg i hi
  have HG := Lib.hid G
  have HE : Hid (edgeE g i = edgeE g i) := rfl
  have hil : (i : Int) < (g.edges.length : Int) := by omega
  have HKind : Hid (∀ n, n < g.nodes.length → ∃ b off, p3 = some ⟨b, off, none⟩ ∧ ∀ W, Below w.heap.size w W → W.cell? ⟨b, off + n * 4, none⟩ = some (.int .i64 g.nodes[n]!.kind)) := fun n hn => by
    obtain ⟨b, off, p, c, e, _, hc⟩ := G.nod n hn
    exact ⟨b, off, e, fun W hW => (hc W hW).1⟩
  have HOld : Hid (∀ j, j < g.edges.length → ∀ W, Below w.heap.size w W → W.cell? ⟨b4, off4 + j * 4 + 1, none⟩ = some (.int .i64 g.edges[j]!.dst) ∧ W.cell? ⟨b4, off4 + j * 4 + 2, none⟩ = some (.int .i64 g.edges[j]!.port)) := fun j hj W hW => by
    obtain ⟨b', off', e, hc⟩ := G.edg j hj
    simp only [Option.some.injEq, Addr.mk.injEq] at e
    obtain ⟨rfl, rfl, _⟩ := e
    exact ⟨(hc W hW).2.1, (hc W hW).2.2.1⟩
  clear h G HE
  have hcell := hc4 _ ((Below.refl w.heap.size w).alloc (Nat.le_refl _) (.cells #[.slice p1 g.parent.length c1, .slice p2 g.bound.length c2, .slice p3 g.nodes.length c3, .slice (some ⟨b4, off4, none⟩) g.edges.length c4] 26))
  have hb4 : b4 < w.heap.size := World.block_lt_of_cell? _ _ (hc4 _ (Below.refl _ _)).1
  clear hc4
  generalize hV : edgeE g i = V
  have HV := Lib.hid hV
  clear hV
  have HTk : Hid (takenG g i = (List.range i).any (fun j => decide (g.edges[j]!.dst = g.edges[i]!.dst) && decide (g.edges[j]!.port = g.edges[i]!.port))) := rfl
  unfold edgeE at HV
  generalize takenG g i = tk at *
  generalize hed : g.edges[i]! = ed at *
  obtain ⟨src, dst, port, ex⟩ := ed
  simp only at HV hcell
  obtain ⟨e0, e1, e2, e3⟩ := hcell
  have HN3 : Hid (∀ n : Nat, (n : Int) < (g.nodes.length : Int) → n < g.nodes.length) := fun n hn => by omega
  generalize g.parent.length = n1 at *
  generalize g.bound.length = n2 at *
  generalize g.nodes.length = n3 at *
  generalize g.edges.length = n4 at *
  have HX0 : Hid (rowOf (w.alloc (.cells #[.slice p1 n1 c1, .slice p2 n2 c2, .slice p3 n3 c3, .slice (some ⟨b4, off4, none⟩) n4 c4] 26)) w.heap.size = some #[.slice p1 n1 c1, .slice p2 n2 c2, .slice p3 n3 c3, .slice (some ⟨b4, off4, none⟩) n4 c4]) := row_new rfl
  have HB0 := Lib.hid ((Below.refl w.heap.size w).alloc (Nat.le_refl _) (.cells #[.slice p1 n1 c1, .slice p2 n2 c2, .slice p3 n3 c3, .slice (some ⟨b4, off4, none⟩) n4 c4] 26))
  go_enter Tryz.func27, Tryz.ntmps27
  go_wp2_with fail
  refine gen_world (fun W2 => Hid (Below w.heap.size w W2) ∧ Hid (rowOf W2 w.heap.size = some #[.slice p1 n1 c1, .slice p2 n2 c2, .slice p3 n3 c3, .slice (some ⟨b4, off4, none⟩) n4 c4]) ∧ Hid (rowOf W2 (w.heap.size + 1) = some #[.int .i64 src, .int .i64 dst, .int .i64 port, .bool ex])) ⟨Lib.hid (HB0.out.alloc (by simp) _), Lib.hid (row_old HX0.out), Lib.hid (row_new (by simp))⟩ ?_
  clear HB0 HX0 e0 e1 e2 e3
  rintro w1 ⟨HB, HX, HY⟩
  have a0 := bx_cell (rowOf_cell HX.out 0 : _ = some (.slice p1 n1 c1))
  have a1 := bx_cell (rowOf_cell HX.out 1 : _ = some (.slice p2 n2 c2))
  have a2 := bx_cell (rowOf_cell HX.out 2 : _ = some (.slice p3 n3 c3))
  have a3 := bx_cell (rowOf_cell HX.out 3 : _ = some (.slice (some ⟨b4, off4, none⟩) n4 c4))
  have x0 := bx_cell (rowOf_cell HY.out 0 : _ = some (.int .i64 src))
  have x1 := bx_cell (rowOf_cell HY.out 1 : _ = some (.int .i64 dst))
  have x2 := bx_cell (rowOf_cell HY.out 2 : _ = some (.int .i64 port))
  have x3 := bx_cell (rowOf_cell HY.out 3 : _ = some (.bool ex))
  by_cases q1 : src < 0
  · obtain rfl : V = 7 := by rw [← HV.out]; unfold edgeV; rw [if_pos (.inl q1)]
    clear HV
    go_wp2_with fail
    refine wp_region_bx (by kernel_rfl) (by kernel_rfl) ?_
    repeat (first | go_big_quiet_step (first | fail) | quiet_step (first | fail))
    refine wpQuiet_nil ?_
    intro _ hw'
    obtain ⟨g9, hw''⟩ := hw'
    subst hw''
    have hb9 := g9.h
    generalize g9.w = w2 at hb9 ⊢
    clear g9
    have HB2 := Lib.hid (bstep HB.out hb9 HB.out.size)
    have HX2 := Lib.hid (rowOf_below HX.out hb9 (rowOf_lt HX.out))
    have HY2 := Lib.hid (rowOf_below HY.out hb9 (rowOf_lt HY.out))
    clear hb9
    clear a0 a1 a2 a3 x0 x1 x2 x3
    go_wp2
    go_returns
    exact ⟨rfl, HB2.out⟩
  by_cases q2 : src ≥ (n3 : Int)
  · obtain rfl : V = 7 := by rw [← HV.out]; unfold edgeV; rw [if_pos (.inr (.inl q2))]
    clear HV
    go_wp2_with fail
    refine wp_region_bx (by kernel_rfl) (by kernel_rfl) ?_
    repeat (first | go_big_quiet_step (first | fail) | quiet_step (first | fail))
    refine wpQuiet_nil ?_
    intro _ hw'
    obtain ⟨g9, hw''⟩ := hw'
    subst hw''
    have hb9 := g9.h
    generalize g9.w = w2 at hb9 ⊢
    clear g9
    have HB2 := Lib.hid (bstep HB.out hb9 HB.out.size)
    have HX2 := Lib.hid (rowOf_below HX.out hb9 (rowOf_lt HX.out))
    have HY2 := Lib.hid (rowOf_below HY.out hb9 (rowOf_lt HY.out))
    clear hb9
    clear a0 a1 a2 a3 x0 x1 x2 x3
    go_wp2
    go_returns
    exact ⟨rfl, HB2.out⟩
  by_cases q3 : dst < 0
  · obtain rfl : V = 7 := by rw [← HV.out]; unfold edgeV; rw [if_pos (.inr (.inr (.inl q3)))]
    clear HV
    go_wp2_with fail
    refine wp_region_bx (by kernel_rfl) (by kernel_rfl) ?_
    repeat (first | go_big_quiet_step (first | fail) | quiet_step (first | fail))
    refine wpQuiet_nil ?_
    intro _ hw'
    obtain ⟨g9, hw''⟩ := hw'
    subst hw''
    have hb9 := g9.h
    generalize g9.w = w2 at hb9 ⊢
    clear g9
    have HB2 := Lib.hid (bstep HB.out hb9 HB.out.size)
    have HX2 := Lib.hid (rowOf_below HX.out hb9 (rowOf_lt HX.out))
    have HY2 := Lib.hid (rowOf_below HY.out hb9 (rowOf_lt HY.out))
    clear hb9
    clear a0 a1 a2 a3 x0 x1 x2 x3
    go_wp2
    go_returns
    exact ⟨rfl, HB2.out⟩
  by_cases q4 : dst ≥ (n3 : Int)
  · obtain rfl : V = 7 := by rw [← HV.out]; unfold edgeV; rw [if_pos (.inr (.inr (.inr (.inl q4))))]
    clear HV
    go_wp2_with fail
    refine wp_region_bx (by kernel_rfl) (by kernel_rfl) ?_
    repeat (first | go_big_quiet_step (first | fail) | quiet_step (first | fail))
    refine wpQuiet_nil ?_
    intro _ hw'
    obtain ⟨g9, hw''⟩ := hw'
    subst hw''
    have hb9 := g9.h
    generalize g9.w = w2 at hb9 ⊢
    clear g9
    have HB2 := Lib.hid (bstep HB.out hb9 HB.out.size)
    have HX2 := Lib.hid (rowOf_below HX.out hb9 (rowOf_lt HX.out))
    have HY2 := Lib.hid (rowOf_below HY.out hb9 (rowOf_lt HY.out))
    clear hb9
    clear a0 a1 a2 a3 x0 x1 x2 x3
    go_wp2
    go_returns
    exact ⟨rfl, HB2.out⟩
  obtain ⟨sn, rfl⟩ : ∃ q : Nat, src = (q : Int) := ⟨src.toNat, by omega⟩
  obtain ⟨dn, rfl⟩ : ∃ q : Nat, dst = (q : Int) := ⟨dst.toNat, by omega⟩
  have hsl : (sn : Int) < (n3 : Int) := by omega
  have hdl : (dn : Int) < (n3 : Int) := by omega
  have hsn : ¬ n3 ≤ sn := by omega
  have hdn : ¬ n3 ≤ dn := by omega
  obtain ⟨b, off, rfl, hks⟩ := HKind.out sn (by omega)
  have HKd : Hid (∀ W, Below w.heap.size w W → W.cell? ⟨b, off + dn * 4, none⟩ = some (.int .i64 g.nodes[dn]!.kind)) := fun W hW => by
    obtain ⟨b', off', e, hc⟩ := HKind.out dn (by omega)
    simp only [Option.some.injEq, Addr.mk.injEq] at e
    obtain ⟨rfl, rfl, _⟩ := e
    exact hc W hW
  have HKs := Lib.hid hks
  clear hks
  simp only [Int.toNat_natCast] at HV
  have HPs := Lib.hid (HPl.out sn true (by omega))
  have HPd := Lib.hid (HPl.out dn false (by omega))
  generalize g.nodes[sn]!.kind = ks at *
  generalize g.nodes[dn]!.kind = kd at *
  generalize placeG g sn true = ps at *
  generalize placeG g dn false = pd at *
  have y0 := bx_cell (HKs.out _ HB.out)
  have y1 := bx_cell (HKd.out _ HB.out)
  have HPo := Lib.hid (fun W => rports_any kd W)
  generalize portsG kd = pk at *
  have hbad : ∀ (c : Prop), c → (c → ((sn : Int) < 0 ∨ (n3 : Int) ≤ (sn : Int) ∨ (dn : Int) < 0 ∨ (n3 : Int) ≤ (dn : Int) ∨ ks = 15 ∨ port < 0 ∨ pk ≤ port)) → V = 7 := fun c hc hi => by rw [← HV.out]; unfold edgeV; rw [if_pos (hi hc)]
  have HBad := Lib.hid hbad
  clear hbad
  by_cases q5 : ks = 15
  · obtain rfl : V = 7 := HBad.out _ q5 (fun q => .inr (.inr (.inr (.inr (.inl q)))))
    have q5b : (ks == 15) = true := by simpa using q5
    clear HV HBad
    go_wp2_with fail
    refine wp_region_bx (by kernel_rfl) (by kernel_rfl) ?_
    repeat (first | go_big_quiet_step (first | fail) | quiet_step (first | fail))
    refine wpQuiet_nil ?_
    intro _ hw'
    obtain ⟨g9, hw''⟩ := hw'
    subst hw''
    have hb9 := g9.h
    generalize g9.w = w2 at hb9 ⊢
    clear g9
    have HB2 := Lib.hid (bstep HB.out hb9 HB.out.size)
    have HX2 := Lib.hid (rowOf_below HX.out hb9 (rowOf_lt HX.out))
    have HY2 := Lib.hid (rowOf_below HY.out hb9 (rowOf_lt HY.out))
    clear hb9
    clear a0 a1 a2 a3 x0 x1 x2 x3 y0 y1
    go_wp2
    go_returns
    exact ⟨rfl, HB2.out⟩
  have q5b : (ks == 15) = false := by simpa using q5
  by_cases q6 : port < 0
  · obtain rfl : V = 7 := HBad.out _ q6 (fun q => .inr (.inr (.inr (.inr (.inr (.inl q))))))
    clear HV HBad
    go_wp2_with fail
    refine wp_region_bx (by kernel_rfl) (by kernel_rfl) ?_
    repeat (first | go_big_quiet_step (first | fail) | quiet_step (first | fail))
    refine wpQuiet_nil ?_
    intro _ hw'
    obtain ⟨g9, hw''⟩ := hw'
    subst hw''
    have hb9 := g9.h
    generalize g9.w = w2 at hb9 ⊢
    clear g9
    have HB2 := Lib.hid (bstep HB.out hb9 HB.out.size)
    have HX2 := Lib.hid (rowOf_below HX.out hb9 (rowOf_lt HX.out))
    have HY2 := Lib.hid (rowOf_below HY.out hb9 (rowOf_lt HY.out))
    clear hb9
    clear a0 a1 a2 a3 x0 x1 x2 x3 y0 y1
    go_wp2
    go_returns
    exact ⟨rfl, HB2.out⟩
  by_cases q7 : port ≥ pk
  · obtain rfl : V = 7 := HBad.out _ q7 (fun q => .inr (.inr (.inr (.inr (.inr (.inr q))))))
    clear HV HBad
    go_wp2_with fail
    refine wp_region_bx (by kernel_rfl) (by kernel_rfl) ?_
    repeat (first | go_big_quiet_step (first | (with_reducible exact Calls.bx (HPo.out _))) | quiet_step (first | (with_reducible exact Calls.bx (HPo.out _))))
    refine wpQuiet_nil ?_
    intro _ hw'
    obtain ⟨g9, hw''⟩ := hw'
    subst hw''
    have hb9 := g9.h
    generalize g9.w = w2 at hb9 ⊢
    clear g9
    have HB2 := Lib.hid (bstep HB.out hb9 HB.out.size)
    have HX2 := Lib.hid (rowOf_below HX.out hb9 (rowOf_lt HX.out))
    have HY2 := Lib.hid (rowOf_below HY.out hb9 (rowOf_lt HY.out))
    clear hb9
    clear a0 a1 a2 a3 x0 x1 x2 x3 y0 y1
    go_wp2
    go_returns
    exact ⟨rfl, HB2.out⟩
  have HV2 := HV.out
  unfold edgeV at HV2
  rw [if_neg (by omega)] at HV2
  have HV3 := Lib.hid HV2
  clear HV2 HV HBad
  go_wp2_with fail
  refine wp_region_bx (by kernel_rfl) (by kernel_rfl) ?_
  repeat (first | go_big_quiet_step (first | (with_reducible exact Calls.bx (HPo.out _))) | quiet_step (first | (with_reducible exact Calls.bx (HPo.out _))))
  refine wpQuiet_nil ?_
  intro _ hw'
  obtain ⟨g9, hw''⟩ := hw'
  subst hw''
  have hb9 := g9.h
  generalize g9.w = w2 at hb9 ⊢
  clear g9
  have HB2 := Lib.hid (bstep HB.out hb9 HB.out.size)
  have HX2 := Lib.hid (rowOf_below HX.out hb9 (rowOf_lt HX.out))
  have HY2 := Lib.hid (rowOf_below HY.out hb9 (rowOf_lt HY.out))
  clear hb9
  clear a0 a1 a2 a3 x0 x1 x2 x3 y0 y1 HPo
  have HPs2 : Hid (∀ p : Bx w2, Calls Tryz.prog 53 #[.agg #[.slice p1 n1 c1, .slice p2 n2 c2, .slice (some ⟨b, off, none⟩) n3 c3, .slice (some ⟨b4, off4, none⟩) n4 c4], .int .i64 (sn : Int), .bool true] p.w (Ret (.int .i64 ps) p.w)) := fun p => HPs.out p.w (bstep HB2.out p.h HB2.out.size)
  have HPd2 : Hid (∀ p : Bx w2, Calls Tryz.prog 53 #[.agg #[.slice p1 n1 c1, .slice p2 n2 c2, .slice (some ⟨b, off, none⟩) n3 c3, .slice (some ⟨b4, off4, none⟩) n4 c4], .int .i64 (dn : Int), .bool false] p.w (Ret (.int .i64 pd) p.w)) := fun p => HPd.out p.w (bstep HB2.out p.h HB2.out.size)
  have a0 := bx_cell (rowOf_cell HX2.out 0 : _ = some (.slice p1 n1 c1))
  have a1 := bx_cell (rowOf_cell HX2.out 1 : _ = some (.slice p2 n2 c2))
  have a2 := bx_cell (rowOf_cell HX2.out 2 : _ = some (.slice (some ⟨b, off, none⟩) n3 c3))
  have a3 := bx_cell (rowOf_cell HX2.out 3 : _ = some (.slice (some ⟨b4, off4, none⟩) n4 c4))
  have x0 := bx_cell (rowOf_cell HY2.out 0 : _ = some (.int .i64 (sn : Int)))
  have x1 := bx_cell (rowOf_cell HY2.out 1 : _ = some (.int .i64 (dn : Int)))
  have x2 := bx_cell (rowOf_cell HY2.out 2 : _ = some (.int .i64 port))
  have x3 := bx_cell (rowOf_cell HY2.out 3 : _ = some (.bool ex))
  go_wp2_with fail
  refine wp_region_bx (by kernel_rfl) (by kernel_rfl) ?_
  repeat (first | go_big_quiet_step (first | (with_reducible exact Calls.bx (HPs2.out _)) | (with_reducible exact Calls.bx (HPd2.out _))) | quiet_step (first | (with_reducible exact Calls.bx (HPs2.out _)) | (with_reducible exact Calls.bx (HPd2.out _))))
  refine wpQuiet_nil ?_
  intro _ hw'
  obtain ⟨g9, hw''⟩ := hw'
  subst hw''
  have hb9 := g9.h
  generalize g9.w = w3 at hb9 ⊢
  clear g9
  have HB3 := Lib.hid (bstep HB2.out hb9 HB2.out.size)
  have HX3 := Lib.hid (rowOf_below HX2.out hb9 (rowOf_lt HX2.out))
  have HY3 := Lib.hid (rowOf_below HY2.out hb9 (rowOf_lt HY2.out))
  clear hb9
  clear a0 a1 a2 a3 x0 x1 x2 x3 HPs2 HPd2 HPs HPd HB HX HY HB2 HX2 HY2
  by_cases q8 : ps = pd
  · have q8b : (ps != pd) = false := by simpa using q8
    have HV4 : Hid ((if ks ≠ 12 ∧ (dn : Int) ≤ (sn : Int) then (8 : Int) else if ex = false ∧ (kd = 6 ∨ kd = 7 ∨ kd = 8 ∨ kd = 9 ∨ kd = 14) then 1 else if tk = true then 7 else 0) = V) := by
      have q := HV3.out
      rw [if_neg (fun e => e q8)] at q
      exact q
    clear HV3 q8
    have g2 : w3.cell? ⟨w.heap.size, 2, none⟩ = some (.slice (some ⟨b, off, none⟩) n3 c3) := rowOf_cell HX3.out 2
    have z0 : w3.cell? ⟨w.heap.size + 1, 0, none⟩ = some (.int .i64 (sn : Int)) := rowOf_cell HY3.out 0
    have z1 : w3.cell? ⟨w.heap.size + 1, 1, none⟩ = some (.int .i64 (dn : Int)) := rowOf_cell HY3.out 1
    have z3 : w3.cell? ⟨w.heap.size + 1, 3, none⟩ = some (.bool ex) := rowOf_cell HY3.out 3
    have t0 := HKs.out _ HB3.out
    have t1 := HKd.out _ HB3.out
    by_cases q9 : ks = 12
    · have q9b : (ks != 12) = false := by simpa using q9
      have HV5 : Hid ((if ex = false ∧ (kd = 6 ∨ kd = 7 ∨ kd = 8 ∨ kd = 9 ∨ kd = 14) then (1 : Int) else if tk = true then 7 else 0) = V) := by
        have q := HV4.out
        rw [if_neg (fun e => e.1 q9)] at q
        exact q
      clear HV4 q9
      cases ex
      · by_cases hk : kd = 6 ∨ kd = 7 ∨ kd = 8 ∨ kd = 9 ∨ kd = 14
        · obtain rfl : V = 1 := by rw [← HV5.out, if_pos ⟨rfl, hk⟩]
          clear HV5
          rcases hk with rfl | rfl | rfl | rfl | rfl
          all_goals
            go_wp2
            go_returns
            exact ⟨rfl, HB3.out⟩
        · have HV6 : Hid ((if tk = true then (7 : Int) else 0) = V) := by
            have q := HV5.out
            rw [if_neg (fun e => hk e.2)] at q
            exact q
          have kb6 : (kd == 6) = false := by simp; omega
          have kb7 : (kd == 7) = false := by simp; omega
          have kb8 : (kd == 8) = false := by simp; omega
          have kb9 : (kd == 9) = false := by simp; omega
          have kb14 : (kd == 14) = false := by simp; omega
          clear HV5 hk
          have HTr : Hid (∀ j, (List.range (j + 1)).any (fun j => decide (g.edges[j]!.dst = (dn : Int)) && decide (g.edges[j]!.port = port)) = ((List.range j).any (fun j => decide (g.edges[j]!.dst = (dn : Int)) && decide (g.edges[j]!.port = port)) || (decide (g.edges[j]!.dst = (dn : Int)) && decide (g.edges[j]!.port = port)))) := fun j => any_range _
          go_wp2_with fail
          clear g2 z0 z1 z3 t0 t1
          go_loopg [8] i (fun gg jv wr => ∃ j : Nat, j ≤ i ∧ i - j ≤ gg ∧ jv = .int .i64 (j : Int) ∧ Hid ((List.range j).any (fun j => decide (g.edges[j]!.dst = (dn : Int)) && decide (g.edges[j]!.port = port)) = false) ∧ Hid (Below w.heap.size w wr) ∧ Hid (rowOf wr w.heap.size = some #[.slice p1 n1 c1, .slice p2 n2 c2, .slice (some ⟨b, off, none⟩) n3 c3, .slice (some ⟨b4, off4, none⟩) n4 c4]) ∧ Hid (rowOf wr (w.heap.size + 1) = some #[.int .i64 (sn : Int), .int .i64 (dn : Int), .int .i64 port, .bool false]))
          case atStart => exact ⟨0, Nat.zero_le _, by omega, rfl, rfl, HB3.out, HX3.out, HY3.out⟩
          case round =>
            clear HB3 HX3 HY3
            obtain ⟨j, hj, hgg, rfl, HA, HBj, HXj, HYj⟩ := hrel
            by_cases hjl : j < i
            · have hjz : (j : Int) < (i : Int) := by omega
              have hjn : j < n4 := by omega
              have hjz4 : (j : Int) < (n4 : Int) := by omega
              obtain ⟨o1, o2⟩ := HOld.out j hjn _ HBj.out
              have r1 := bx_cell o1; have r2 := bx_cell o2
              have r3 := bx_cell (rowOf_cell HXj.out 3 : _ = some (.slice (some ⟨b4, off4, none⟩) n4 c4))
              have r4 := bx_cell (rowOf_cell HYj.out 1 : _ = some (.int .i64 (dn : Int)))
              have r5 := bx_cell (rowOf_cell HYj.out 2 : _ = some (.int .i64 port))
              have hst := HTr.out j
              rw [HA.out, Bool.false_or] at hst
              have HHit : Hid (g.edges[j]!.dst = (dn : Int) → g.edges[j]!.port = port → tk = true) := fun h1 h2 => by
                rw [HTk.out, List.any_eq_true]
                refine ⟨j, List.mem_range.2 hjl, ?_⟩
                first
                  | (show (decide (_ = _) && decide (_ = _)) = true
                     rw [decide_eq_true h1, decide_eq_true h2]; rfl)
                  | (dsimp only; rw [h1, h2]; simp)
              generalize g.edges[j]!.dst = dj at *
              generalize g.edges[j]!.port = pj at *
              clear o1 o2
              by_cases m1 : dj = (dn : Int)
              · have m1b : (dj == (dn : Int)) = true := by simpa using m1
                by_cases m2 : pj = port
                · have m2b : (pj == port) = true := by simpa using m2
                  have htk := HHit.out m1 m2
                  have hq := HV6.out
                  rw [if_pos htk] at hq
                  subst hq
                  clear hst HHit m1 m2
                  go_wp2_with fail
                  refine wp_region_bx (by kernel_rfl) (by kernel_rfl) ?_
                  repeat (first | go_big_quiet_step (first | fail) | quiet_step (first | fail))
                  refine wpQuiet_nil ?_
                  intro _ hw'
                  obtain ⟨g9, hw''⟩ := hw'
                  subst hw''
                  have hb9 := g9.h
                  generalize g9.w = wk at hb9 ⊢
                  clear g9
                  have HBk := Lib.hid (bstep HBj.out hb9 HBj.out.size)
                  have HXk := Lib.hid (rowOf_below HXj.out hb9 (rowOf_lt HXj.out))
                  have HYk := Lib.hid (rowOf_below HYj.out hb9 (rowOf_lt HYj.out))
                  clear hb9
                  clear r1 r2 r3 r4 r5
                  go_wp2
                  go_returns
                  exact ⟨rfl, HBk.out⟩
                · have m2b : (pj == port) = false := by simpa using m2
                  rw [decide_eq_false m2, Bool.and_false] at hst
                  have HA2 := Lib.hid hst
                  clear hst HHit m1 m2
                  go_wp2_with fail
                  refine wp_region_bx (by kernel_rfl) (by kernel_rfl) ?_
                  repeat (first | go_big_quiet_step (first | fail) | quiet_step (first | fail))
                  refine wpQuiet_nil ?_
                  intro _ hw'
                  obtain ⟨g9, hw''⟩ := hw'
                  subst hw''
                  have hb9 := g9.h
                  generalize g9.w = wk at hb9 ⊢
                  clear g9
                  have HBk := Lib.hid (bstep HBj.out hb9 HBj.out.size)
                  have HXk := Lib.hid (rowOf_below HXj.out hb9 (rowOf_lt HXj.out))
                  have HYk := Lib.hid (rowOf_below HYj.out hb9 (rowOf_lt HYj.out))
                  clear hb9
                  clear r1 r2 r3 r4 r5
                  go_wp2_with fail
                  go_roundg (i - (j + 1))
                  case measure => omega
                  case rel => exact ⟨j + 1, by omega, by omega, by go_num, HA2.out, HBk.out, HXk.out, HYk.out⟩
              · have m1b : (dj == (dn : Int)) = false := by simpa using m1
                rw [decide_eq_false m1, Bool.false_and] at hst
                have HA2 := Lib.hid hst
                clear hst HHit m1
                go_wp2_with fail
                refine wp_region_bx (by kernel_rfl) (by kernel_rfl) ?_
                repeat (first | go_big_quiet_step (first | fail) | quiet_step (first | fail))
                refine wpQuiet_nil ?_
                intro _ hw'
                obtain ⟨g9, hw''⟩ := hw'
                subst hw''
                have hb9 := g9.h
                generalize g9.w = wk at hb9 ⊢
                clear g9
                have HBk := Lib.hid (bstep HBj.out hb9 HBj.out.size)
                have HXk := Lib.hid (rowOf_below HXj.out hb9 (rowOf_lt HXj.out))
                have HYk := Lib.hid (rowOf_below HYj.out hb9 (rowOf_lt HYj.out))
                clear hb9
                clear r1 r2 r3 r4 r5
                go_wp2_with fail
                go_roundg (i - (j + 1))
                case measure => omega
                case rel => exact ⟨j + 1, by omega, by omega, by go_num, HA2.out, HBk.out, HXk.out, HYk.out⟩
            · have hjz : ¬ (j : Int) < (i : Int) := by omega
              obtain rfl : i = j := by omega
              have hq := HV6.out
              rw [if_neg (by rw [HTk.out, HA.out]; simp)] at hq
              subst hq
              clear HA HTk HV6
              go_wp2
              go_returns
              exact ⟨rfl, HBj.out⟩
      · have HV6 : Hid ((if tk = true then (7 : Int) else 0) = V) := by
          have q := HV5.out
          rw [if_neg (fun e => by cases e.1)] at q
          exact q
        clear HV5
        have HTr : Hid (∀ j, (List.range (j + 1)).any (fun j => decide (g.edges[j]!.dst = (dn : Int)) && decide (g.edges[j]!.port = port)) = ((List.range j).any (fun j => decide (g.edges[j]!.dst = (dn : Int)) && decide (g.edges[j]!.port = port)) || (decide (g.edges[j]!.dst = (dn : Int)) && decide (g.edges[j]!.port = port)))) := fun j => any_range _
        go_wp2_with fail
        clear g2 z0 z1 z3 t0 t1
        go_loopg [8] i (fun gg jv wr => ∃ j : Nat, j ≤ i ∧ i - j ≤ gg ∧ jv = .int .i64 (j : Int) ∧ Hid ((List.range j).any (fun j => decide (g.edges[j]!.dst = (dn : Int)) && decide (g.edges[j]!.port = port)) = false) ∧ Hid (Below w.heap.size w wr) ∧ Hid (rowOf wr w.heap.size = some #[.slice p1 n1 c1, .slice p2 n2 c2, .slice (some ⟨b, off, none⟩) n3 c3, .slice (some ⟨b4, off4, none⟩) n4 c4]) ∧ Hid (rowOf wr (w.heap.size + 1) = some #[.int .i64 (sn : Int), .int .i64 (dn : Int), .int .i64 port, .bool true]))
        case atStart => exact ⟨0, Nat.zero_le _, by omega, rfl, rfl, HB3.out, HX3.out, HY3.out⟩
        case round =>
          clear HB3 HX3 HY3
          obtain ⟨j, hj, hgg, rfl, HA, HBj, HXj, HYj⟩ := hrel
          by_cases hjl : j < i
          · have hjz : (j : Int) < (i : Int) := by omega
            have hjn : j < n4 := by omega
            have hjz4 : (j : Int) < (n4 : Int) := by omega
            obtain ⟨o1, o2⟩ := HOld.out j hjn _ HBj.out
            have r1 := bx_cell o1; have r2 := bx_cell o2
            have r3 := bx_cell (rowOf_cell HXj.out 3 : _ = some (.slice (some ⟨b4, off4, none⟩) n4 c4))
            have r4 := bx_cell (rowOf_cell HYj.out 1 : _ = some (.int .i64 (dn : Int)))
            have r5 := bx_cell (rowOf_cell HYj.out 2 : _ = some (.int .i64 port))
            have hst := HTr.out j
            rw [HA.out, Bool.false_or] at hst
            have HHit : Hid (g.edges[j]!.dst = (dn : Int) → g.edges[j]!.port = port → tk = true) := fun h1 h2 => by
              rw [HTk.out, List.any_eq_true]
              refine ⟨j, List.mem_range.2 hjl, ?_⟩
              first
                | (show (decide (_ = _) && decide (_ = _)) = true
                   rw [decide_eq_true h1, decide_eq_true h2]; rfl)
                | (dsimp only; rw [h1, h2]; simp)
            generalize g.edges[j]!.dst = dj at *
            generalize g.edges[j]!.port = pj at *
            clear o1 o2
            by_cases m1 : dj = (dn : Int)
            · have m1b : (dj == (dn : Int)) = true := by simpa using m1
              by_cases m2 : pj = port
              · have m2b : (pj == port) = true := by simpa using m2
                have htk := HHit.out m1 m2
                have hq := HV6.out
                rw [if_pos htk] at hq
                subst hq
                clear hst HHit m1 m2
                go_wp2_with fail
                refine wp_region_bx (by kernel_rfl) (by kernel_rfl) ?_
                repeat (first | go_big_quiet_step (first | fail) | quiet_step (first | fail))
                refine wpQuiet_nil ?_
                intro _ hw'
                obtain ⟨g9, hw''⟩ := hw'
                subst hw''
                have hb9 := g9.h
                generalize g9.w = wk at hb9 ⊢
                clear g9
                have HBk := Lib.hid (bstep HBj.out hb9 HBj.out.size)
                have HXk := Lib.hid (rowOf_below HXj.out hb9 (rowOf_lt HXj.out))
                have HYk := Lib.hid (rowOf_below HYj.out hb9 (rowOf_lt HYj.out))
                clear hb9
                clear r1 r2 r3 r4 r5
                go_wp2
                go_returns
                exact ⟨rfl, HBk.out⟩
              · have m2b : (pj == port) = false := by simpa using m2
                rw [decide_eq_false m2, Bool.and_false] at hst
                have HA2 := Lib.hid hst
                clear hst HHit m1 m2
                go_wp2_with fail
                refine wp_region_bx (by kernel_rfl) (by kernel_rfl) ?_
                repeat (first | go_big_quiet_step (first | fail) | quiet_step (first | fail))
                refine wpQuiet_nil ?_
                intro _ hw'
                obtain ⟨g9, hw''⟩ := hw'
                subst hw''
                have hb9 := g9.h
                generalize g9.w = wk at hb9 ⊢
                clear g9
                have HBk := Lib.hid (bstep HBj.out hb9 HBj.out.size)
                have HXk := Lib.hid (rowOf_below HXj.out hb9 (rowOf_lt HXj.out))
                have HYk := Lib.hid (rowOf_below HYj.out hb9 (rowOf_lt HYj.out))
                clear hb9
                clear r1 r2 r3 r4 r5
                go_wp2_with fail
                go_roundg (i - (j + 1))
                case measure => omega
                case rel => exact ⟨j + 1, by omega, by omega, by go_num, HA2.out, HBk.out, HXk.out, HYk.out⟩
            · have m1b : (dj == (dn : Int)) = false := by simpa using m1
              rw [decide_eq_false m1, Bool.false_and] at hst
              have HA2 := Lib.hid hst
              clear hst HHit m1
              go_wp2_with fail
              refine wp_region_bx (by kernel_rfl) (by kernel_rfl) ?_
              repeat (first | go_big_quiet_step (first | fail) | quiet_step (first | fail))
              refine wpQuiet_nil ?_
              intro _ hw'
              obtain ⟨g9, hw''⟩ := hw'
              subst hw''
              have hb9 := g9.h
              generalize g9.w = wk at hb9 ⊢
              clear g9
              have HBk := Lib.hid (bstep HBj.out hb9 HBj.out.size)
              have HXk := Lib.hid (rowOf_below HXj.out hb9 (rowOf_lt HXj.out))
              have HYk := Lib.hid (rowOf_below HYj.out hb9 (rowOf_lt HYj.out))
              clear hb9
              clear r1 r2 r3 r4 r5
              go_wp2_with fail
              go_roundg (i - (j + 1))
              case measure => omega
              case rel => exact ⟨j + 1, by omega, by omega, by go_num, HA2.out, HBk.out, HXk.out, HYk.out⟩
          · have hjz : ¬ (j : Int) < (i : Int) := by omega
            obtain rfl : i = j := by omega
            have hq := HV6.out
            rw [if_neg (by rw [HTk.out, HA.out]; simp)] at hq
            subst hq
            clear HA HTk HV6
            go_wp2
            go_returns
            exact ⟨rfl, HBj.out⟩
    · have q9b : (ks != 12) = true := by simpa using q9
      by_cases q10 : (dn : Int) ≤ (sn : Int)
      · obtain rfl : V = 8 := by rw [← HV4.out, if_pos ⟨q9, q10⟩]
        have q10n : dn ≤ sn := by omega
        clear HV4 q9
        go_wp2
        go_returns
        exact ⟨rfl, HB3.out⟩
      · have q10n : ¬ dn ≤ sn := by omega
        have HV5 : Hid ((if ex = false ∧ (kd = 6 ∨ kd = 7 ∨ kd = 8 ∨ kd = 9 ∨ kd = 14) then (1 : Int) else if tk = true then 7 else 0) = V) := by
          have q := HV4.out
          rw [if_neg (fun e => q10 e.2)] at q
          exact q
        clear HV4 q9
        cases ex
        · by_cases hk : kd = 6 ∨ kd = 7 ∨ kd = 8 ∨ kd = 9 ∨ kd = 14
          · obtain rfl : V = 1 := by rw [← HV5.out, if_pos ⟨rfl, hk⟩]
            clear HV5
            rcases hk with rfl | rfl | rfl | rfl | rfl
            all_goals
              go_wp2
              go_returns
              exact ⟨rfl, HB3.out⟩
          · have HV6 : Hid ((if tk = true then (7 : Int) else 0) = V) := by
              have q := HV5.out
              rw [if_neg (fun e => hk e.2)] at q
              exact q
            have kb6 : (kd == 6) = false := by simp; omega
            have kb7 : (kd == 7) = false := by simp; omega
            have kb8 : (kd == 8) = false := by simp; omega
            have kb9 : (kd == 9) = false := by simp; omega
            have kb14 : (kd == 14) = false := by simp; omega
            clear HV5 hk
            have HTr : Hid (∀ j, (List.range (j + 1)).any (fun j => decide (g.edges[j]!.dst = (dn : Int)) && decide (g.edges[j]!.port = port)) = ((List.range j).any (fun j => decide (g.edges[j]!.dst = (dn : Int)) && decide (g.edges[j]!.port = port)) || (decide (g.edges[j]!.dst = (dn : Int)) && decide (g.edges[j]!.port = port)))) := fun j => any_range _
            go_wp2_with fail
            clear g2 z0 z1 z3 t0 t1
            go_loopg [8] i (fun gg jv wr => ∃ j : Nat, j ≤ i ∧ i - j ≤ gg ∧ jv = .int .i64 (j : Int) ∧ Hid ((List.range j).any (fun j => decide (g.edges[j]!.dst = (dn : Int)) && decide (g.edges[j]!.port = port)) = false) ∧ Hid (Below w.heap.size w wr) ∧ Hid (rowOf wr w.heap.size = some #[.slice p1 n1 c1, .slice p2 n2 c2, .slice (some ⟨b, off, none⟩) n3 c3, .slice (some ⟨b4, off4, none⟩) n4 c4]) ∧ Hid (rowOf wr (w.heap.size + 1) = some #[.int .i64 (sn : Int), .int .i64 (dn : Int), .int .i64 port, .bool false]))
            case atStart => exact ⟨0, Nat.zero_le _, by omega, rfl, rfl, HB3.out, HX3.out, HY3.out⟩
            case round =>
              clear HB3 HX3 HY3
              obtain ⟨j, hj, hgg, rfl, HA, HBj, HXj, HYj⟩ := hrel
              by_cases hjl : j < i
              · have hjz : (j : Int) < (i : Int) := by omega
                have hjn : j < n4 := by omega
                have hjz4 : (j : Int) < (n4 : Int) := by omega
                obtain ⟨o1, o2⟩ := HOld.out j hjn _ HBj.out
                have r1 := bx_cell o1; have r2 := bx_cell o2
                have r3 := bx_cell (rowOf_cell HXj.out 3 : _ = some (.slice (some ⟨b4, off4, none⟩) n4 c4))
                have r4 := bx_cell (rowOf_cell HYj.out 1 : _ = some (.int .i64 (dn : Int)))
                have r5 := bx_cell (rowOf_cell HYj.out 2 : _ = some (.int .i64 port))
                have hst := HTr.out j
                rw [HA.out, Bool.false_or] at hst
                have HHit : Hid (g.edges[j]!.dst = (dn : Int) → g.edges[j]!.port = port → tk = true) := fun h1 h2 => by
                  rw [HTk.out, List.any_eq_true]
                  refine ⟨j, List.mem_range.2 hjl, ?_⟩
                  first
                    | (show (decide (_ = _) && decide (_ = _)) = true
                       rw [decide_eq_true h1, decide_eq_true h2]; rfl)
                    | (dsimp only; rw [h1, h2]; simp)
                generalize g.edges[j]!.dst = dj at *
                generalize g.edges[j]!.port = pj at *
                clear o1 o2
                by_cases m1 : dj = (dn : Int)
                · have m1b : (dj == (dn : Int)) = true := by simpa using m1
                  by_cases m2 : pj = port
                  · have m2b : (pj == port) = true := by simpa using m2
                    have htk := HHit.out m1 m2
                    have hq := HV6.out
                    rw [if_pos htk] at hq
                    subst hq
                    clear hst HHit m1 m2
                    go_wp2_with fail
                    refine wp_region_bx (by kernel_rfl) (by kernel_rfl) ?_
                    repeat (first | go_big_quiet_step (first | fail) | quiet_step (first | fail))
                    refine wpQuiet_nil ?_
                    intro _ hw'
                    obtain ⟨g9, hw''⟩ := hw'
                    subst hw''
                    have hb9 := g9.h
                    generalize g9.w = wk at hb9 ⊢
                    clear g9
                    have HBk := Lib.hid (bstep HBj.out hb9 HBj.out.size)
                    have HXk := Lib.hid (rowOf_below HXj.out hb9 (rowOf_lt HXj.out))
                    have HYk := Lib.hid (rowOf_below HYj.out hb9 (rowOf_lt HYj.out))
                    clear hb9
                    clear r1 r2 r3 r4 r5
                    go_wp2
                    go_returns
                    exact ⟨rfl, HBk.out⟩
                  · have m2b : (pj == port) = false := by simpa using m2
                    rw [decide_eq_false m2, Bool.and_false] at hst
                    have HA2 := Lib.hid hst
                    clear hst HHit m1 m2
                    go_wp2_with fail
                    refine wp_region_bx (by kernel_rfl) (by kernel_rfl) ?_
                    repeat (first | go_big_quiet_step (first | fail) | quiet_step (first | fail))
                    refine wpQuiet_nil ?_
                    intro _ hw'
                    obtain ⟨g9, hw''⟩ := hw'
                    subst hw''
                    have hb9 := g9.h
                    generalize g9.w = wk at hb9 ⊢
                    clear g9
                    have HBk := Lib.hid (bstep HBj.out hb9 HBj.out.size)
                    have HXk := Lib.hid (rowOf_below HXj.out hb9 (rowOf_lt HXj.out))
                    have HYk := Lib.hid (rowOf_below HYj.out hb9 (rowOf_lt HYj.out))
                    clear hb9
                    clear r1 r2 r3 r4 r5
                    go_wp2_with fail
                    go_roundg (i - (j + 1))
                    case measure => omega
                    case rel => exact ⟨j + 1, by omega, by omega, by go_num, HA2.out, HBk.out, HXk.out, HYk.out⟩
                · have m1b : (dj == (dn : Int)) = false := by simpa using m1
                  rw [decide_eq_false m1, Bool.false_and] at hst
                  have HA2 := Lib.hid hst
                  clear hst HHit m1
                  go_wp2_with fail
                  refine wp_region_bx (by kernel_rfl) (by kernel_rfl) ?_
                  repeat (first | go_big_quiet_step (first | fail) | quiet_step (first | fail))
                  refine wpQuiet_nil ?_
                  intro _ hw'
                  obtain ⟨g9, hw''⟩ := hw'
                  subst hw''
                  have hb9 := g9.h
                  generalize g9.w = wk at hb9 ⊢
                  clear g9
                  have HBk := Lib.hid (bstep HBj.out hb9 HBj.out.size)
                  have HXk := Lib.hid (rowOf_below HXj.out hb9 (rowOf_lt HXj.out))
                  have HYk := Lib.hid (rowOf_below HYj.out hb9 (rowOf_lt HYj.out))
                  clear hb9
                  clear r1 r2 r3 r4 r5
                  go_wp2_with fail
                  go_roundg (i - (j + 1))
                  case measure => omega
                  case rel => exact ⟨j + 1, by omega, by omega, by go_num, HA2.out, HBk.out, HXk.out, HYk.out⟩
              · have hjz : ¬ (j : Int) < (i : Int) := by omega
                obtain rfl : i = j := by omega
                have hq := HV6.out
                rw [if_neg (by rw [HTk.out, HA.out]; simp)] at hq
                subst hq
                clear HA HTk HV6
                go_wp2
                go_returns
                exact ⟨rfl, HBj.out⟩
        · have HV6 : Hid ((if tk = true then (7 : Int) else 0) = V) := by
            have q := HV5.out
            rw [if_neg (fun e => by cases e.1)] at q
            exact q
          clear HV5
          have HTr : Hid (∀ j, (List.range (j + 1)).any (fun j => decide (g.edges[j]!.dst = (dn : Int)) && decide (g.edges[j]!.port = port)) = ((List.range j).any (fun j => decide (g.edges[j]!.dst = (dn : Int)) && decide (g.edges[j]!.port = port)) || (decide (g.edges[j]!.dst = (dn : Int)) && decide (g.edges[j]!.port = port)))) := fun j => any_range _
          go_wp2_with fail
          clear g2 z0 z1 z3 t0 t1
          go_loopg [8] i (fun gg jv wr => ∃ j : Nat, j ≤ i ∧ i - j ≤ gg ∧ jv = .int .i64 (j : Int) ∧ Hid ((List.range j).any (fun j => decide (g.edges[j]!.dst = (dn : Int)) && decide (g.edges[j]!.port = port)) = false) ∧ Hid (Below w.heap.size w wr) ∧ Hid (rowOf wr w.heap.size = some #[.slice p1 n1 c1, .slice p2 n2 c2, .slice (some ⟨b, off, none⟩) n3 c3, .slice (some ⟨b4, off4, none⟩) n4 c4]) ∧ Hid (rowOf wr (w.heap.size + 1) = some #[.int .i64 (sn : Int), .int .i64 (dn : Int), .int .i64 port, .bool true]))
          case atStart => exact ⟨0, Nat.zero_le _, by omega, rfl, rfl, HB3.out, HX3.out, HY3.out⟩
          case round =>
            clear HB3 HX3 HY3
            obtain ⟨j, hj, hgg, rfl, HA, HBj, HXj, HYj⟩ := hrel
            by_cases hjl : j < i
            · have hjz : (j : Int) < (i : Int) := by omega
              have hjn : j < n4 := by omega
              have hjz4 : (j : Int) < (n4 : Int) := by omega
              obtain ⟨o1, o2⟩ := HOld.out j hjn _ HBj.out
              have r1 := bx_cell o1; have r2 := bx_cell o2
              have r3 := bx_cell (rowOf_cell HXj.out 3 : _ = some (.slice (some ⟨b4, off4, none⟩) n4 c4))
              have r4 := bx_cell (rowOf_cell HYj.out 1 : _ = some (.int .i64 (dn : Int)))
              have r5 := bx_cell (rowOf_cell HYj.out 2 : _ = some (.int .i64 port))
              have hst := HTr.out j
              rw [HA.out, Bool.false_or] at hst
              have HHit : Hid (g.edges[j]!.dst = (dn : Int) → g.edges[j]!.port = port → tk = true) := fun h1 h2 => by
                rw [HTk.out, List.any_eq_true]
                refine ⟨j, List.mem_range.2 hjl, ?_⟩
                first
                  | (show (decide (_ = _) && decide (_ = _)) = true
                     rw [decide_eq_true h1, decide_eq_true h2]; rfl)
                  | (dsimp only; rw [h1, h2]; simp)
              generalize g.edges[j]!.dst = dj at *
              generalize g.edges[j]!.port = pj at *
              clear o1 o2
              by_cases m1 : dj = (dn : Int)
              · have m1b : (dj == (dn : Int)) = true := by simpa using m1
                by_cases m2 : pj = port
                · have m2b : (pj == port) = true := by simpa using m2
                  have htk := HHit.out m1 m2
                  have hq := HV6.out
                  rw [if_pos htk] at hq
                  subst hq
                  clear hst HHit m1 m2
                  go_wp2_with fail
                  refine wp_region_bx (by kernel_rfl) (by kernel_rfl) ?_
                  repeat (first | go_big_quiet_step (first | fail) | quiet_step (first | fail))
                  refine wpQuiet_nil ?_
                  intro _ hw'
                  obtain ⟨g9, hw''⟩ := hw'
                  subst hw''
                  have hb9 := g9.h
                  generalize g9.w = wk at hb9 ⊢
                  clear g9
                  have HBk := Lib.hid (bstep HBj.out hb9 HBj.out.size)
                  have HXk := Lib.hid (rowOf_below HXj.out hb9 (rowOf_lt HXj.out))
                  have HYk := Lib.hid (rowOf_below HYj.out hb9 (rowOf_lt HYj.out))
                  clear hb9
                  clear r1 r2 r3 r4 r5
                  go_wp2
                  go_returns
                  exact ⟨rfl, HBk.out⟩
                · have m2b : (pj == port) = false := by simpa using m2
                  rw [decide_eq_false m2, Bool.and_false] at hst
                  have HA2 := Lib.hid hst
                  clear hst HHit m1 m2
                  go_wp2_with fail
                  refine wp_region_bx (by kernel_rfl) (by kernel_rfl) ?_
                  repeat (first | go_big_quiet_step (first | fail) | quiet_step (first | fail))
                  refine wpQuiet_nil ?_
                  intro _ hw'
                  obtain ⟨g9, hw''⟩ := hw'
                  subst hw''
                  have hb9 := g9.h
                  generalize g9.w = wk at hb9 ⊢
                  clear g9
                  have HBk := Lib.hid (bstep HBj.out hb9 HBj.out.size)
                  have HXk := Lib.hid (rowOf_below HXj.out hb9 (rowOf_lt HXj.out))
                  have HYk := Lib.hid (rowOf_below HYj.out hb9 (rowOf_lt HYj.out))
                  clear hb9
                  clear r1 r2 r3 r4 r5
                  go_wp2_with fail
                  go_roundg (i - (j + 1))
                  case measure => omega
                  case rel => exact ⟨j + 1, by omega, by omega, by go_num, HA2.out, HBk.out, HXk.out, HYk.out⟩
              · have m1b : (dj == (dn : Int)) = false := by simpa using m1
                rw [decide_eq_false m1, Bool.false_and] at hst
                have HA2 := Lib.hid hst
                clear hst HHit m1
                go_wp2_with fail
                refine wp_region_bx (by kernel_rfl) (by kernel_rfl) ?_
                repeat (first | go_big_quiet_step (first | fail) | quiet_step (first | fail))
                refine wpQuiet_nil ?_
                intro _ hw'
                obtain ⟨g9, hw''⟩ := hw'
                subst hw''
                have hb9 := g9.h
                generalize g9.w = wk at hb9 ⊢
                clear g9
                have HBk := Lib.hid (bstep HBj.out hb9 HBj.out.size)
                have HXk := Lib.hid (rowOf_below HXj.out hb9 (rowOf_lt HXj.out))
                have HYk := Lib.hid (rowOf_below HYj.out hb9 (rowOf_lt HYj.out))
                clear hb9
                clear r1 r2 r3 r4 r5
                go_wp2_with fail
                go_roundg (i - (j + 1))
                case measure => omega
                case rel => exact ⟨j + 1, by omega, by omega, by go_num, HA2.out, HBk.out, HXk.out, HYk.out⟩
            · have hjz : ¬ (j : Int) < (i : Int) := by omega
              obtain rfl : i = j := by omega
              have hq := HV6.out
              rw [if_neg (by rw [HTk.out, HA.out]; simp)] at hq
              subst hq
              clear HA HTk HV6
              go_wp2
              go_returns
              exact ⟨rfl, HBj.out⟩
  · have q8b : (ps != pd) = true := by simpa using q8
    obtain rfl : V = 6 := by rw [← HV3.out, if_pos q8]
    clear HV3 q8
    go_wp2
    go_returns
    exact ⟨rfl, HB3.out⟩
end Go.Proofs.YtjaahmgokiobjaaGreat
