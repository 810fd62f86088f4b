/- PathsOn: the law's walk; written by gen/mc.py -/
import Derived.Test.YtacmdkbmakfdkaaG39
import Derived.Test.YtacmdkbmakfdkaaG41
namespace Go.Proofs.Ytacmdkbmakfdkaa
open Go.RowKit
set_option linter.unusedVariables false
set_option linter.unusedSimpArgs false

set_option maxRecDepth 100000 in
set_option maxHeartbeats 32000000 in
theorem pathsOn_walk (g : GV) (n : Int) (t : TV) (m : Int) (u : TV) (k : Int) (v : Value) (w : World) (h : IsG w v g) (hcap : capsG v) :
    Calls Try.prog 4 #[v, .int .i64 n, t.val, .int .i64 m, u.val, .int .i64 k] w (Ret (.bool true) w) := by
  have HA := Lib.hid (fun W => pawake W)
  obtain ⟨rb, hrb, hR⟩ := runs_any g
  have HRu : Hid (∀ W, Below w.heap.size w W → Calls Try.prog 8 #[v] W (Ret (.bool rb) W)) := fun W hW => hR v W (h.below hW)
  have HRB := Lib.hid hrb
  have HI : Hid (IsG w v g) := h
  have HCap : Hid (capsG v) := hcap
  obtain ⟨p1, c1, p2, c2, p3, c3, p4, c4, hv, G⟩ := h.go
  clear h hcap G hR hrb
  have HV := Lib.hid hv
  subst hv
  generalize hn1 : g.parent.length = n1 at *
  generalize hn2 : g.bound.length = n2 at *
  generalize hn3 : g.nodes.length = n3 at *
  generalize hn4 : g.edges.length = n4 at *
  have HN3 := Lib.hid hn3
  have HN4 := Lib.hid hn4
  clear hn1 hn2 hn3 hn4 HV
  go_enter Try.func4, Try.ntmps4
  go_wp2_with fail
  refine gen_c (fun W2 => Hid (Below w.heap.size w W2) ∧ Hid (rowOf W2 w.heap.size = some #[.slice p1 n1 c1, .slice p2 n2 c2, .slice p3 n3 c3, .slice p4 n4 c4]) ∧ Hid (rowOf W2 (w.heap.size + 1) = some (tvRow t)) ∧ Hid (rowOf W2 (w.heap.size + 1 + 1) = some (tvRow u))) ⟨by rw [Hid]; go_grown, Lib.hid (row_old (row_old (row_new rfl))), Lib.hid (row_old (row_new (by simp))), Lib.hid (row_new (by simp))⟩ ?_
  rintro w2 ⟨HB2, HX2, HT2, HU2⟩
  refine (HA.out _).mono ?_
  rintro e w3 ⟨rfl, hb⟩
  have HX3 := Lib.hid (rowOf_below HX2.out hb (rowOf_lt HX2.out))
  have HT3 := Lib.hid (rowOf_below HT2.out hb (rowOf_lt HT2.out))
  have HU3 := Lib.hid (rowOf_below HU2.out hb (rowOf_lt HU2.out))
  have HB3 := Lib.hid (bstep HB2.out hb HB2.out.size)
  clear hb HX2 HT2 HU2 HB2
  clear HA
  have g_0 := (rowOf_cell HX3.out 0 : _ = some (Value.slice p1 n1 c1))
  have g_1 := (rowOf_cell HX3.out 1 : _ = some (Value.slice p2 n2 c2))
  have g_2 := (rowOf_cell HX3.out 2 : _ = some (Value.slice p3 n3 c3))
  have g_3 := (rowOf_cell HX3.out 3 : _ = some (Value.slice p4 n4 c4))
  go_wp2_with fail
  refine (HRu.out _ HB3.out).mono ?_
  rintro e w4 ⟨rfl, hb⟩
  clear g_0 g_1 g_2 g_3 HRu
  have HX4 := Lib.hid (rowOf_below HX3.out hb (rowOf_lt HX3.out))
  have HT4 := Lib.hid (rowOf_below HT3.out hb (rowOf_lt HT3.out))
  have HU4 := Lib.hid (rowOf_below HU3.out hb (rowOf_lt HU3.out))
  have HB4 := Lib.hid (bstep HB3.out hb HB3.out.size)
  clear hb HX3 HT3 HU3 HB3
  have g_0 := (rowOf_cell HX4.out 0 : _ = some (Value.slice p1 n1 c1))
  have g_1 := (rowOf_cell HX4.out 1 : _ = some (Value.slice p2 n2 c2))
  have g_2 := (rowOf_cell HX4.out 2 : _ = some (Value.slice p3 n3 c3))
  have g_3 := (rowOf_cell HX4.out 3 : _ = some (Value.slice p4 n4 c4))
  cases rb
  · clear HRB
    go_wp2
    go_returns
    exact ⟨by first | rfl | simp, HB4.out⟩
  have hrr := HRB.out.1 rfl
  have HSh := Lib.hid hrr.1
  have HRn := Lib.hid hrr.2
  clear hrr HRB
  by_cases a1 : n < 0
  · clear HSh HRn
    go_wp2
    go_returns
    exact ⟨by first | rfl | simp, HB4.out⟩
  by_cases a2 : n ≥ (n3 : Int)
  · clear HSh HRn
    go_wp2
    go_returns
    exact ⟨by first | rfl | simp, HB4.out⟩
  by_cases a3 : m < 0
  · clear HSh HRn
    go_wp2
    go_returns
    exact ⟨by first | rfl | simp, HB4.out⟩
  by_cases a4 : m ≥ (n3 : Int)
  · clear HSh HRn
    go_wp2
    go_returns
    exact ⟨by first | rfl | simp, HB4.out⟩
  obtain ⟨nn, rfl⟩ : ∃ q : Nat, n = (q : Int) := ⟨n.toNat, by omega⟩
  obtain ⟨mm, rfl⟩ : ∃ q : Nat, m = (q : Int) := ⟨m.toNat, by omega⟩
  have hnn : nn < g.nodes.length := by rw [HN3.out]; omega
  have hmm : mm < g.nodes.length := by rw [HN3.out]; omega
  have S := short_small HSh.out
  obtain ⟨low, L, hrow⟩ := low_run HRn.out
  have M := runG_may HRn.out
  have HTa : Hid (∀ W, Below w.heap.size w W → Calls Try.prog 7 #[.agg #[.slice p1 n1 c1, .slice p2 n2 c2, .slice p3 n3 c3, .slice p4 n4 c4]] W (PTabR low n3 W)) := fun W hW => by
    have q := ptable_run HRn.out L hrow _ W (HI.out.below hW) HCap.out S
    rw [HN3.out] at q
    exact q
  obtain ⟨b1, hb1, hR1⟩ := preach_tab L S.n nn nn hnn hnn t t
  obtain ⟨b2, hb2, hR2⟩ := preach_tab L S.n nn mm hnn hmm t u
  rw [HN3.out] at hR1 hR2
  have HR1 := Lib.hid hR1
  have HR2 := Lib.hid hR2
  have HC2 := Lib.hid hb2
  have HL : Hid (∀ W, Below w.heap.size w W → Calls Try.prog 12 #[.agg #[.slice p1 n1 c1, .slice p2 n2 c2, .slice p3 n3 c3, .slice p4 n4 c4], .int .i64 (nn : Int), .bool false] W (Ret (.int .i64 (levelG g nn false : Int)) W)) := fun W hW => rlevel_any g _ nn false W (HI.out.below hW) S.p hnn (M.scope nn hnn)
  have HRt : Hid (∀ W, Calls Try.prog 11 #[t.val] W (Ret (.bool t.rightB) W)) := fun W => jtright_is rfl W
  have HSame : Hid (t.rightB = true → t.d = (levelG g nn false : Int) → b1 = true) := fun h1 h2 => by
    have lv := M.level nn hnn false
    have q := same_apply (levelG g nn false : Int) (by omega) (by omega) t h1 h2
    refine hb1.2 (comes_least ((L nn hnn).2 nn hnn).1 (way_none _ nn (sameG g nn)) (x := sameG g nn) q.1 ?_)
    have e : applyT (sameG g nn) t = t := q.2
    rw [e]
    exact leT_self h1
  have HEdge : Hid (∀ kk, kk < n4 → (g.edges[kk]!).src = (mm : Int) → b2 = true → ∃ dd : Nat, (g.edges[kk]!).dst = (dd : Int) ∧ dd < n3 ∧ (∀ W, Below w.heap.size w W → Calls Try.prog 15 #[.agg #[.slice p1 n1 c1, .slice p2 n2 c2, .slice p3 n3 c3, .slice p4 n4 c4], (g.edges[kk]!).val] W (Ret (stepG g g.edges[kk]!).val W)) ∧
      ∀ W bt tl, TabS low n3 W bt tl n3 → applyOk (stepG g g.edges[kk]!) u = true → Calls Try.prog 13 #[.slice (some ⟨bt, 0, none⟩) n3 n3, .int .i64 (nn : Int), t.val, .int .i64 (dd : Int), (applyT (stepG g g.edges[kk]!) u).val] W (Ret (.bool true) W)) := fun kk hk hs h2 => by
    rw [← HN4.out] at hk
    have en := M.ends kk hk
    have hsn : ((g.edges[kk]!).src).toNat = mm := by omega
    refine ⟨(g.edges[kk]!).dst.toNat, by omega, by rw [← HN3.out]; exact en.2.2.2, fun W hW => ?_, fun W bt tl hT ho => ?_⟩
    · exact rstep_any g _ _ W (HI.out.below hW) S.p en.1 en.2.1 (M.scope _ en.2.1) (M.level _ en.2.1 false)
    · obtain ⟨b3, hb3, hR3⟩ := preach_tab L S.n nn (g.edges[kk]!).dst.toNat hnn en.2.2.2 t (applyT (stepG g g.edges[kk]!) u)
      rw [HN3.out] at hR3
      have he : (⟨(g.edges[kk]!).src.toNat, (g.edges[kk]!).dst.toNat, stepG g g.edges[kk]!⟩ : NE) ∈ netE g := List.mem_map.2 ⟨g.edges[kk]!, by rw [getElem!_pos g.edges kk hk]; exact List.getElem_mem hk, rfl⟩
      have e3 : b3 = true := hb3.2 (comes_edge ((L nn hnn).2 mm hmm).1 ((L nn hnn).2 _ en.2.2.2).1 he hsn (HC2.out.1 h2) ho)
      rw [← e3]
      exact hR3 W bt tl hT
  have HK : Hid (∀ kk, kk < n4 → ∃ b4 off4, p4 = some ⟨b4, off4, none⟩ ∧ ∀ W, Below w.heap.size w W → W.cell? ⟨b4, off4 + kk * 4, none⟩ = some (.int .i64 (g.edges[kk]!).src) ∧ W.cell? ⟨b4, off4 + kk * 4 + 1, none⟩ = some (.int .i64 (g.edges[kk]!).dst) ∧ W.cell? ⟨b4, off4 + kk * 4 + 2, none⟩ = some (.int .i64 (g.edges[kk]!).port) ∧ W.cell? ⟨b4, off4 + kk * 4 + 3, none⟩ = some (.bool (g.edges[kk]!).ex)) := fun kk hk => by
    obtain ⟨q1, d1, q2, d2, q3, d3, q4, d4, hv, G⟩ := HI.out.go
    simp only [Value.agg.injEq, Array.mk.injEq, List.cons.injEq, Value.slice.injEq] at hv
    obtain ⟨⟨rfl, _, rfl⟩, ⟨rfl, _, rfl⟩, ⟨rfl, _, rfl⟩, ⟨rfl, _, rfl⟩, _⟩ := hv
    obtain ⟨b4, off4, e, hc⟩ := G.edg kk (by rw [HN4.out]; exact hk)
    exact ⟨b4, off4, e, hc⟩
  have hnz : (nn : Int) < (n3 : Int) := by omega
  have hmz : (mm : Int) < (n3 : Int) := by omega
  clear S L hrow M hb1 hR1 hb2 hR2 HSh HRn HI HCap HC2 hnn hmm HN3 HN4
  generalize (levelG g nn false : Int) = lv at *
  go_wp2_with fail
  refine (HTa.out _ HB4.out).mono ?_
  rintro e w5 ⟨bt, tl, rfl, hS, hbt, hb⟩
  have HS5 := Lib.hid hS
  clear hS hbt g_0 g_1 g_2 g_3 HTa
  have HX5 := Lib.hid (rowOf_below HX4.out hb (rowOf_lt HX4.out))
  have HT5 := Lib.hid (rowOf_below HT4.out hb (rowOf_lt HT4.out))
  have HU5 := Lib.hid (rowOf_below HU4.out hb (rowOf_lt HU4.out))
  have HB5 := Lib.hid (bstep HB4.out hb HB4.out.size)
  clear hb HX4 HT4 HU4 HB4
  go_upto_region 6 with (fail)
  refine gen_world (fun W2 => Hid (Below w.heap.size w W2) ∧ Hid (rowOf W2 w.heap.size = some #[.slice p1 n1 c1, .slice p2 n2 c2, .slice p3 n3 c3, .slice p4 n4 c4]) ∧ Hid (rowOf W2 (w.heap.size + 1) = some (tvRow t)) ∧ Hid (rowOf W2 (w.heap.size + 1 + 1) = some (tvRow u)) ∧ Hid (TabS low n3 W2 bt tl n3)) ⟨HB5, HX5, HT5, HU5, HS5⟩ ?_
  clear HB5 HX5 HT5 HU5 HS5 w3 w4 w5
  rintro w6 ⟨HB6, HX6, HT6, HU6, HS6⟩
  go_cut [63] from 45 to 62 (fun v wx => v = .bool false ∧ Hid (Below w6.heap.size w6 wx))
  case first =>
    clear HR2 HEdge HK
    have x0 := bx_cell (rowOf_cell HX6.out 0 : _ = some (Value.slice p1 n1 c1))
    have x1 := bx_cell (rowOf_cell HX6.out 1 : _ = some (Value.slice p2 n2 c2))
    have x2 := bx_cell (rowOf_cell HX6.out 2 : _ = some (Value.slice p3 n3 c3))
    have x3 := bx_cell (rowOf_cell HX6.out 3 : _ = some (Value.slice p4 n4 c4))
    have y0 := bx_cell (show _ = some (Value.int .i64 t.d) from rowOf_cell HT6.out 0)
    have y1 := bx_cell (show _ = some (Value.int .i64 t.c0) from rowOf_cell HT6.out 1)
    have y2 := bx_cell (show _ = some (Value.int .i64 t.c1) from rowOf_cell HT6.out 2)
    have y3 := bx_cell (show _ = some (Value.int .i64 t.c2) from rowOf_cell HT6.out 3)
    have y4 := bx_cell (show _ = some (Value.int .i64 t.c3) from rowOf_cell HT6.out 4)
    have K1 : Hid (∀ p : Bx w6, Calls Try.prog 11 #[.agg #[.int .i64 t.d, .int .i64 t.c0, .int .i64 t.c1, .int .i64 t.c2, .int .i64 t.c3]] p.w (Ret (.bool t.rightB) p.w)) := fun p => HRt.out p.w
    have K2 : Hid (∀ p : Bx w6, Calls Try.prog 12 #[.agg #[.slice p1 n1 c1, .slice p2 n2 c2, .slice p3 n3 c3, .slice p4 n4 c4], .int .i64 (nn : Int), .bool false] p.w (Ret (.int .i64 lv) p.w)) := fun p => HL.out p.w (bstep HB6.out p.h HB6.out.size)
    have K3 : Hid (∀ p : Bx w6, Calls Try.prog 13 #[.slice (some ⟨bt, 0, none⟩) n3 n3, .int .i64 (nn : Int), .agg #[.int .i64 t.d, .int .i64 t.c0, .int .i64 t.c1, .int .i64 t.c2, .int .i64 t.c3], .int .i64 (nn : Int), .agg #[.int .i64 t.d, .int .i64 t.c0, .int .i64 t.c1, .int .i64 t.c2, .int .i64 t.c3]] p.w (Ret (.bool b1) p.w)) := fun p => HR1.out p.w bt tl (HS6.out.below p.h)
    clear HRt HL HR1
    have HSm := HSame.out
    clear HSame
    generalize t.rightB = tr at *
    generalize t.d = td at *
    generalize t.c0 = tc0 at *
    generalize t.c1 = tc1 at *
    generalize t.c2 = tc2 at *
    generalize t.c3 = tc3 at *
    cases tr
    · clear HSm
      refine wp_region_bx (by kernel_rfl) (by kernel_rfl) ?_
      repeat (first | go_big_quiet_step (first | (with_reducible exact Calls.bx (K1.out _)) | (with_reducible exact Calls.bx (K2.out _)) | (with_reducible exact Calls.bx (K3.out _))) | quiet_step (first | (with_reducible exact Calls.bx (K1.out _)) | (with_reducible exact Calls.bx (K2.out _)) | (with_reducible exact Calls.bx (K3.out _))))
      refine wpQuiet_nil ?_
      intro _ hw'
      obtain ⟨g9, hw''⟩ := hw'
      subst hw''
      have hb9 := g9.h
      generalize g9.w = w7 at hb9 ⊢
      clear g9
      have hc : Below w6.heap.size w6 w7 := hb9
      clear hb9
      go_wp2_with fail
      go_meet
      case rel => exact ⟨by first | rfl | simp, Lib.hid hc⟩
    · by_cases hd : td = lv
      · have hq := HSm rfl hd
        subst hq
        have hdb : (td == lv) = true := by simpa using hd
        clear HSm hd
        refine wp_region_bx (by kernel_rfl) (by kernel_rfl) ?_
        repeat (first | go_big_quiet_step (first | (with_reducible exact Calls.bx (K1.out _)) | (with_reducible exact Calls.bx (K2.out _)) | (with_reducible exact Calls.bx (K3.out _))) | quiet_step (first | (with_reducible exact Calls.bx (K1.out _)) | (with_reducible exact Calls.bx (K2.out _)) | (with_reducible exact Calls.bx (K3.out _))))
        refine wpQuiet_nil ?_
        intro _ hw'
        obtain ⟨g9, hw''⟩ := hw'
        subst hw''
        have hb9 := g9.h
        generalize g9.w = w7 at hb9 ⊢
        clear g9
        have hc : Below w6.heap.size w6 w7 := hb9
        clear hb9
        go_wp2_with fail
        go_meet
        case rel => exact ⟨by first | rfl | simp, Lib.hid hc⟩
      · have hdb : (td == lv) = false := by simpa using hd
        clear HSm hd
        refine wp_region_bx (by kernel_rfl) (by kernel_rfl) ?_
        repeat (first | go_big_quiet_step (first | (with_reducible exact Calls.bx (K1.out _)) | (with_reducible exact Calls.bx (K2.out _)) | (with_reducible exact Calls.bx (K3.out _))) | quiet_step (first | (with_reducible exact Calls.bx (K1.out _)) | (with_reducible exact Calls.bx (K2.out _)) | (with_reducible exact Calls.bx (K3.out _))))
        refine wpQuiet_nil ?_
        intro _ hw'
        obtain ⟨g9, hw''⟩ := hw'
        subst hw''
        have hb9 := g9.h
        generalize g9.w = w7 at hb9 ⊢
        clear g9
        have hc : Below w6.heap.size w6 w7 := hb9
        clear hb9
        go_wp2_with fail
        go_meet
        case rel => exact ⟨by first | rfl | simp, Lib.hid hc⟩
  case rest =>
    obtain ⟨hv63, hbc⟩ := hcut
    subst hv63
    have hb := hbc.out
    clear hbc HRt HL HR1 HSame
    have HX7 := Lib.hid (rowOf_below HX6.out hb (rowOf_lt HX6.out))
    have HT7 := Lib.hid (rowOf_below HT6.out hb (rowOf_lt HT6.out))
    have HU7 := Lib.hid (rowOf_below HU6.out hb (rowOf_lt HU6.out))
    have HB7 := Lib.hid (bstep HB6.out hb HB6.out.size)
    have HS7 := Lib.hid (HS6.out.below hb)
    clear hb HX6 HT6 HU6 HB6 HS6
    have y_0 := (show _ = some (Value.int .i64 t.d) from rowOf_cell HT7.out 0)
    have y_1 := (show _ = some (Value.int .i64 t.c0) from rowOf_cell HT7.out 1)
    have y_2 := (show _ = some (Value.int .i64 t.c1) from rowOf_cell HT7.out 2)
    have y_3 := (show _ = some (Value.int .i64 t.c2) from rowOf_cell HT7.out 3)
    have y_4 := (show _ = some (Value.int .i64 t.c3) from rowOf_cell HT7.out 4)
    have z_0 := (show _ = some (Value.int .i64 u.d) from rowOf_cell HU7.out 0)
    have z_1 := (show _ = some (Value.int .i64 u.c0) from rowOf_cell HU7.out 1)
    have z_2 := (show _ = some (Value.int .i64 u.c1) from rowOf_cell HU7.out 2)
    have z_3 := (show _ = some (Value.int .i64 u.c2) from rowOf_cell HU7.out 3)
    have z_4 := (show _ = some (Value.int .i64 u.c3) from rowOf_cell HU7.out 4)
    go_wp2_with fail
    refine (HR2.out _ _ _ HS7.out).mono ?_
    rintro e w8 ⟨rfl, hb⟩
    clear y_0 y_1 y_2 y_3 y_4 z_0 z_1 z_2 z_3 z_4 HR2
    have HX8 := Lib.hid (rowOf_below HX7.out hb (rowOf_lt HX7.out))
    have HT8 := Lib.hid (rowOf_below HT7.out hb (rowOf_lt HT7.out))
    have HU8 := Lib.hid (rowOf_below HU7.out hb (rowOf_lt HU7.out))
    have HB8 := Lib.hid (bstep HB7.out hb HB7.out.size)
    have HS8 := Lib.hid (HS7.out.below hb)
    clear hb HX7 HT7 HU7 HB7 HS7
    have g_0 := (rowOf_cell HX8.out 0 : _ = some (Value.slice p1 n1 c1))
    have g_1 := (rowOf_cell HX8.out 1 : _ = some (Value.slice p2 n2 c2))
    have g_2 := (rowOf_cell HX8.out 2 : _ = some (Value.slice p3 n3 c3))
    have g_3 := (rowOf_cell HX8.out 3 : _ = some (Value.slice p4 n4 c4))
    cases b2
    · clear HEdge HK
      go_wp2
      go_returns
      exact ⟨by first | rfl | simp, HB8.out⟩
    by_cases a5 : k < 0
    · clear HEdge HK
      go_wp2
      go_returns
      exact ⟨by first | rfl | simp, HB8.out⟩
    by_cases a6 : k ≥ (n4 : Int)
    · clear HEdge HK
      go_wp2
      go_returns
      exact ⟨by first | rfl | simp, HB8.out⟩
    obtain ⟨kk, rfl⟩ : ∃ q : Nat, k = (q : Int) := ⟨k.toNat, by omega⟩
    have hkz : (kk : Int) < (n4 : Int) := by omega
    obtain ⟨b4, off4, rfl, hce⟩ := HK.out kk (by omega)
    have HCE := Lib.hid hce
    have HEk := Lib.hid (HEdge.out kk (by omega))
    clear HEdge HK hce
    generalize g.edges[kk]! = ed at *
    obtain ⟨src, dst, port, ex⟩ := ed
    have e_0 := (HCE.out _ HB8.out).1
    by_cases hsm : src = (mm : Int)
    · obtain ⟨dd, hdd, hddl, hStep, hRch⟩ := HEk.out hsm rfl
      have hdd : dst = (dd : Int) := hdd
      subst hdd
      subst hsm
      have HSt := Lib.hid hStep
      have HRc := Lib.hid hRch
      have HAp : Hid (∀ W, Calls Try.prog 14 #[(stepG g ⟨(mm : Int), (dd : Int), port, ex⟩).val, u.val] W (Ret (.tuple #[(applyT (stepG g ⟨(mm : Int), (dd : Int), port, ex⟩) u).val, .bool (applyOk (stepG g ⟨(mm : Int), (dd : Int), port, ex⟩) u)]) W)) := fun W => japply_any _ _ W
      generalize stepG g ⟨(mm : Int), (dd : Int), port, ex⟩ = s at *
      generalize applyT s u = y at *
      generalize applyOk s u = ok at *
      clear hStep hRch HEk
      go_upto_region 12 with (fail)
      clear g_0 g_1 g_2 g_3 e_0
      refine wp_region_float (ka := 12) (ks := 13) (d := 14) (oa := _) (os := _) (ta := []) (ts := [100]) (pv := fun b => .pointer (some ⟨b, 0, none⟩)) (us := undef) (B1 := fun b W => W.heap[b]? = some (.cells (tvRow TV.zero) 37 (0, 0))) (B2 := fun b W => W.heap[b]? = some (.cells (tvRow y) 37 (0, 0))) (fin := ?fin) (m := false) (by kernel_rfl) rfl rfl rfl rfl rfl (by kernel_rfl) (by kernel_rfl) (by simp) ?st1 ?st2 ?ha ?hs ?h ?hQ
      case h =>
        intro V hV
        simp only [flo, List.set_cons_succ, List.set_cons_zero]
        have hBV := bstep HB8.out hV.1 HB8.out.size
        have hgV := rowOf_below HX8.out hV.1 (rowOf_lt HX8.out)
        have huV := rowOf_below HU8.out hV.1 (rowOf_lt HU8.out)
        have x0 := fun p : Bd false V => bd_cell (rowOf_cell hgV 0 : _ = some (Value.slice p1 n1 c1)) p
        have x1 := fun p : Bd false V => bd_cell (rowOf_cell hgV 1 : _ = some (Value.slice p2 n2 c2)) p
        have x2 := fun p : Bd false V => bd_cell (rowOf_cell hgV 2 : _ = some (Value.slice p3 n3 c3)) p
        have x3 := fun p : Bd false V => bd_cell (rowOf_cell hgV 3 : _ = some (Value.slice (some ⟨b4, off4, none⟩) n4 c4)) p
        have z0 := fun p : Bd false V => bd_cell (show _ = some (Value.int .i64 u.d) from rowOf_cell huV 0) p
        have z1 := fun p : Bd false V => bd_cell (show _ = some (Value.int .i64 u.c0) from rowOf_cell huV 1) p
        have z2 := fun p : Bd false V => bd_cell (show _ = some (Value.int .i64 u.c1) from rowOf_cell huV 2) p
        have z3 := fun p : Bd false V => bd_cell (show _ = some (Value.int .i64 u.c2) from rowOf_cell huV 3) p
        have z4 := fun p : Bd false V => bd_cell (show _ = some (Value.int .i64 u.c3) from rowOf_cell huV 4) p
        have q0 := fun p : Bd false V => bd_cell (HCE.out V hBV).1 p
        have q1 := fun p : Bd false V => bd_cell (HCE.out V hBV).2.1 p
        have q2 := fun p : Bd false V => bd_cell (HCE.out V hBV).2.2.1 p
        have q3 := fun p : Bd false V => bd_cell (HCE.out V hBV).2.2.2 p
        have K1 : Hid (∀ p : Bd false V, Calls Try.prog 15 #[.agg #[.slice p1 n1 c1, .slice p2 n2 c2, .slice p3 n3 c3, .slice (some ⟨b4, off4, none⟩) n4 c4], .agg #[.int .i64 (mm : Int), .int .i64 (dd : Int), .int .i64 port, .bool ex]] p.w (Ret s.val p.w)) := fun p => HSt.out p.w (bstep hBV p.h.1 hBV.size)
        have K2 : Hid (∀ p : Bd false V, Calls Try.prog 14 #[s.val, .agg #[.int .i64 u.d, .int .i64 u.c0, .int .i64 u.c1, .int .i64 u.c2, .int .i64 u.c3]] p.w (Ret (.tuple #[y.val, .bool ok]) p.w)) := fun p => HAp.out p.w
        repeat (first | go_big_quiet_step (first | (with_reducible exact Calls.bd (K1.out _)) | (with_reducible exact Calls.bd (K2.out _))) | quiet_step (first | (with_reducible exact Calls.bd (K1.out _)) | (with_reducible exact Calls.bd (K2.out _))))
        refine wpQuiet_nil ?_
        rfl
      case st1 => exact fun b W W' h hb => (hb.block b (Array.getElem?_eq_some_iff.1 h).1).trans h
      case st2 => exact fun b W W' h hb => (hb.block b (Array.getElem?_eq_some_iff.1 h).1).trans h
      case ha =>
        intro ρ W _
        refine ⟨W.alloc (.cells (tvRow TV.zero) 37), ?_, ⟨(Below.refl _ _).alloc (Nat.le_refl _) _, fun _ => Nat.le_refl _⟩, heap_alloc_new W _⟩
        simp [execOp, go_sem]
        rfl
      case hs =>
        intro c W b K hb hB h1 hd ht hK
        have h100 := ht 100 (by simp)
        have hr : rowOf W b = some (tvRow TV.zero) := by unfold rowOf; rw [h1]; simp
        have h100' : c.eval (.tmp 100) = y.val := h100
        rw [storeT, hd, h100']
        simp only [rowAt_head, hr]
        rw [if_pos ⟨rfl, rfl, by decide, rfl⟩]
        exact hK _ ⟨below_setRow hB.1 _ _ hb, fun e => by cases e⟩ (RowKind.heap_set h1)
      case hQ =>
        intro b W hb hB hh
        simp only [Act.put, List.setIfInBounds_toArray, List.set_cons_succ, List.set_cons_zero]
        have HB9 := Lib.hid (bstep HB8.out hB.1 HB8.out.size)
        have HX9 := Lib.hid (rowOf_below HX8.out hB.1 (rowOf_lt HX8.out))
        have HT9 := Lib.hid (rowOf_below HT8.out hB.1 (rowOf_lt HT8.out))
        have HS9 := Lib.hid (HS8.out.below hB.1)
        have HY9 : Hid (rowOf W b = some (tvRow y)) := by rw [Hid]; unfold rowOf; rw [hh]; simp
        clear hB hh HB8 HX8 HT8 HU8 HS8 HSt HAp hb
        go_upto_region 13 with (fail)
        have x0 := bx_cell (rowOf_cell HX9.out 0 : _ = some (Value.slice p1 n1 c1))
        have x1 := bx_cell (rowOf_cell HX9.out 1 : _ = some (Value.slice p2 n2 c2))
        have x2 := bx_cell (rowOf_cell HX9.out 2 : _ = some (Value.slice p3 n3 c3))
        have x3 := bx_cell (rowOf_cell HX9.out 3 : _ = some (Value.slice (some ⟨b4, off4, none⟩) n4 c4))
        have y0 := bx_cell (show _ = some (Value.int .i64 t.d) from rowOf_cell HT9.out 0)
        have y1 := bx_cell (show _ = some (Value.int .i64 t.c0) from rowOf_cell HT9.out 1)
        have y2 := bx_cell (show _ = some (Value.int .i64 t.c1) from rowOf_cell HT9.out 2)
        have y3 := bx_cell (show _ = some (Value.int .i64 t.c2) from rowOf_cell HT9.out 3)
        have y4 := bx_cell (show _ = some (Value.int .i64 t.c3) from rowOf_cell HT9.out 4)
        have z0 := bx_cell (show _ = some (Value.int .i64 y.d) from rowOf_cell HY9.out 0)
        have z1 := bx_cell (show _ = some (Value.int .i64 y.c0) from rowOf_cell HY9.out 1)
        have z2 := bx_cell (show _ = some (Value.int .i64 y.c1) from rowOf_cell HY9.out 2)
        have z3 := bx_cell (show _ = some (Value.int .i64 y.c2) from rowOf_cell HY9.out 3)
        have z4 := bx_cell (show _ = some (Value.int .i64 y.c3) from rowOf_cell HY9.out 4)
        have q1 := bx_cell (HCE.out _ HB9.out).2.1
        cases ok
        · clear HRc
          refine wp_region_bx (by kernel_rfl) (by kernel_rfl) ?_
          repeat (first | go_big_quiet_step (fail) | quiet_step (fail))
          refine wpQuiet_nil ?_
          intro _ hw'
          obtain ⟨g9, hw''⟩ := hw'
          subst hw''
          have hb9 := g9.h
          generalize g9.w = w10 at hb9 ⊢
          clear g9
          have HB10 := Lib.hid (bstep HB9.out hb9 HB9.out.size)
          clear hb9 x0 x1 x2 x3 y0 y1 y2 y3 y4 z0 z1 z2 z3 z4 q1
          go_wp2
          go_returns
          exact ⟨by first | rfl | simp, HB10.out⟩
        · have K3 : Hid (∀ p : Bx W, Calls Try.prog 13 #[.slice (some ⟨bt, 0, none⟩) n3 n3, .int .i64 (nn : Int), .agg #[.int .i64 t.d, .int .i64 t.c0, .int .i64 t.c1, .int .i64 t.c2, .int .i64 t.c3], .int .i64 (dd : Int), .agg #[.int .i64 y.d, .int .i64 y.c0, .int .i64 y.c1, .int .i64 y.c2, .int .i64 y.c3]] p.w (Ret (.bool true) p.w)) := fun p => HRc.out p.w bt tl (HS9.out.below p.h) rfl
          clear HRc
          refine wp_region_bx (by kernel_rfl) (by kernel_rfl) ?_
          repeat (first | go_big_quiet_step (first | (with_reducible exact Calls.bx (K3.out _))) | quiet_step (first | (with_reducible exact Calls.bx (K3.out _))))
          refine wpQuiet_nil ?_
          intro _ hw'
          obtain ⟨g9, hw''⟩ := hw'
          subst hw''
          have hb9 := g9.h
          generalize g9.w = w10 at hb9 ⊢
          clear g9
          have HB10 := Lib.hid (bstep HB9.out hb9 HB9.out.size)
          clear hb9 x0 x1 x2 x3 y0 y1 y2 y3 y4 z0 z1 z2 z3 z4 q1 K3
          go_wp2
          go_returns
          exact ⟨by first | rfl | simp, HB10.out⟩
    · have smb : (src != (mm : Int)) = true := by simpa using hsm
      clear HEk hsm
      go_wp2
      go_returns
      exact ⟨by first | rfl | simp, HB8.out⟩
end Go.Proofs.Ytacmdkbmakfdkaa
