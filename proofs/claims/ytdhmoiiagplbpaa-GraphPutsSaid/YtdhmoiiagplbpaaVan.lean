/- the law GraphPuts -/
import Derived.Test.YtdhmoiiagplbpaaVaq
import Derived.Test.YtdhmoiiagplbpaaVw
namespace Go.Proofs.Ytdhmoiiagplbpaa
open Go.RowKit
set_option linter.unusedVariables false
set_option linter.unusedSimpArgs false

set_option maxRecDepth 100000 in
set_option maxHeartbeats 8000000 in
theorem graphPuts_walk (g h : GV) (va vb : Value) (w : World) (ha : IsG w va g) (hb : IsG w vb h) (ca : roomG va) (cb : roomG vb) (oa : okG g) (ob : okG h) :
    Calls Try.prog 3 #[va, vb] w (Ret (.bool true) w) := by
  have HAW := Lib.hid (fun W => awake_any W)
  have HS1 := Lib.hid (fun W (hW : Below w.heap.size w W) => rshort_any g va W (ha.below hW))
  have HS2 := Lib.hid (fun W (hW : Below w.heap.size w W) => rshort_any h vb W (hb.below hW))
  have HP := Lib.hid (fun W (hW : Below w.heap.size w W) => pput_any g va W (ha.below hW) ca oa)
  have HR := Lib.hid (fun W (hW : Below w.heap.size w W) => rput_any g va W (ha.below hW) oa)
  have hsh := short_lens g
  have HQ := Lib.hid (fun (hs : shortG g = true) W (hW : Below w.heap.size w W) => psame_any g h va vb W (ha.below hW) (hb.below hW) (hsh hs).1 (hsh hs).2.1 (hsh hs).2.2.1 (hsh hs).2.2.2.1 (hsh hs).2.2.2.2)
  have HT := Lib.hid (fun (hs : shortG g = true) W (hW : Below w.heap.size w W) => rsame_any g h va vb W (ha.below hW) (hb.below hW) (hsh hs).1 (hsh hs).2.1 (hsh hs).2.2.1 (hsh hs).2.2.2.1 (hsh hs).2.2.2.2)
  have hpl := putA_len g oa
  have HPL := Lib.hid hpl
  obtain ⟨a1, a2, a3, a4, a5, a6, a7, a8, a9, a10, a11, a12, rfl, rfl, rfl⟩ := ha.four
  obtain ⟨b1, b2, b3, b4, b5, b6, b7, b8, b9, b10, b11, b12, rfl, rfl, rfl⟩ := hb.four
  clear hsh ha hb ca cb oa ob hpl
  generalize putA g = r at *
  obtain ⟨L, k⟩ := r
  generalize decide (g = h) = eq at *
  generalize shortG g = sg at *
  generalize shortG h = sh at *
  have z1 : ((k : Int) == (k : Int)) = true := by simp
  have z2 : (eq == eq) = true := by simp
  have HB0 := Lib.hid (balloc9 (o := (.cells #[.slice b1 h.parent.length b3, .slice b4 b5 b6, .slice b7 h.nodes.length b9, .slice b10 b11 b12] 26)) (balloc9 (o := (.cells #[.slice a1 g.parent.length a3, .slice a4 a5 a6, .slice a7 g.nodes.length a9, .slice a10 a11 a12] 26)) (Below.refl w.heap.size w)))
  have HX : Hid (rowOf ((w.alloc (.cells #[.slice a1 g.parent.length a3, .slice a4 a5 a6, .slice a7 g.nodes.length a9, .slice a10 a11 a12] 26)).alloc (.cells #[.slice b1 h.parent.length b3, .slice b4 b5 b6, .slice b7 h.nodes.length b9, .slice b10 b11 b12] 26)) w.heap.size = some #[.slice a1 g.parent.length a3, .slice a4 a5 a6, .slice a7 g.nodes.length a9, .slice a10 a11 a12] ∧ rowOf ((w.alloc (.cells #[.slice a1 g.parent.length a3, .slice a4 a5 a6, .slice a7 g.nodes.length a9, .slice a10 a11 a12] 26)).alloc (.cells #[.slice b1 h.parent.length b3, .slice b4 b5 b6, .slice b7 h.nodes.length b9, .slice b10 b11 b12] 26)) (w.heap.size + 1) = some #[.slice b1 h.parent.length b3, .slice b4 b5 b6, .slice b7 h.nodes.length b9, .slice b10 b11 b12]) := by
    refine ⟨rowOf_below (row_new rfl) ((Below.refl _ _).alloc (Nat.le_refl _) _) (by simp), ?_⟩
    exact row_new (by simp)
  have x0 : ((w.alloc (.cells #[.slice a1 g.parent.length a3, .slice a4 a5 a6, .slice a7 g.nodes.length a9, .slice a10 a11 a12] 26)).alloc (.cells #[.slice b1 h.parent.length b3, .slice b4 b5 b6, .slice b7 h.nodes.length b9, .slice b10 b11 b12] 26)).cell? ⟨w.heap.size, 0, none⟩ = some (.slice a1 g.parent.length a3) := rowOf_cell HX.out.1 0
  have x1 : ((w.alloc (.cells #[.slice a1 g.parent.length a3, .slice a4 a5 a6, .slice a7 g.nodes.length a9, .slice a10 a11 a12] 26)).alloc (.cells #[.slice b1 h.parent.length b3, .slice b4 b5 b6, .slice b7 h.nodes.length b9, .slice b10 b11 b12] 26)).cell? ⟨w.heap.size, 1, none⟩ = some (.slice a4 a5 a6) := rowOf_cell HX.out.1 1
  have x2 : ((w.alloc (.cells #[.slice a1 g.parent.length a3, .slice a4 a5 a6, .slice a7 g.nodes.length a9, .slice a10 a11 a12] 26)).alloc (.cells #[.slice b1 h.parent.length b3, .slice b4 b5 b6, .slice b7 h.nodes.length b9, .slice b10 b11 b12] 26)).cell? ⟨w.heap.size, 2, none⟩ = some (.slice a7 g.nodes.length a9) := rowOf_cell HX.out.1 2
  have x3 : ((w.alloc (.cells #[.slice a1 g.parent.length a3, .slice a4 a5 a6, .slice a7 g.nodes.length a9, .slice a10 a11 a12] 26)).alloc (.cells #[.slice b1 h.parent.length b3, .slice b4 b5 b6, .slice b7 h.nodes.length b9, .slice b10 b11 b12] 26)).cell? ⟨w.heap.size, 3, none⟩ = some (.slice a10 a11 a12) := rowOf_cell HX.out.1 3
  have y0 : ((w.alloc (.cells #[.slice a1 g.parent.length a3, .slice a4 a5 a6, .slice a7 g.nodes.length a9, .slice a10 a11 a12] 26)).alloc (.cells #[.slice b1 h.parent.length b3, .slice b4 b5 b6, .slice b7 h.nodes.length b9, .slice b10 b11 b12] 26)).cell? ⟨w.heap.size + 1, 0, none⟩ = some (.slice b1 h.parent.length b3) := rowOf_cell HX.out.2 0
  have y1 : ((w.alloc (.cells #[.slice a1 g.parent.length a3, .slice a4 a5 a6, .slice a7 g.nodes.length a9, .slice a10 a11 a12] 26)).alloc (.cells #[.slice b1 h.parent.length b3, .slice b4 b5 b6, .slice b7 h.nodes.length b9, .slice b10 b11 b12] 26)).cell? ⟨w.heap.size + 1, 1, none⟩ = some (.slice b4 b5 b6) := rowOf_cell HX.out.2 1
  have y2 : ((w.alloc (.cells #[.slice a1 g.parent.length a3, .slice a4 a5 a6, .slice a7 g.nodes.length a9, .slice a10 a11 a12] 26)).alloc (.cells #[.slice b1 h.parent.length b3, .slice b4 b5 b6, .slice b7 h.nodes.length b9, .slice b10 b11 b12] 26)).cell? ⟨w.heap.size + 1, 2, none⟩ = some (.slice b7 h.nodes.length b9) := rowOf_cell HX.out.2 2
  have y3 : ((w.alloc (.cells #[.slice a1 g.parent.length a3, .slice a4 a5 a6, .slice a7 g.nodes.length a9, .slice a10 a11 a12] 26)).alloc (.cells #[.slice b1 h.parent.length b3, .slice b4 b5 b6, .slice b7 h.nodes.length b9, .slice b10 b11 b12] 26)).cell? ⟨w.heap.size + 1, 3, none⟩ = some (.slice b10 b11 b12) := rowOf_cell HX.out.2 3
  go_enter Try.func3, Try.ntmps3
  go_wp2_with fail
  refine (HAW.out _).mono ?_
  rintro ee w1 ⟨rfl, hb1⟩
  have HB1 := Lib.hid (HB0.out.trans (hb1.mono HB0.out.size))
  have HX9 := HX.out
  clear HX x0 x1 x2 x3 y0 y1 y2 y3
  have HX := Lib.hid (And.intro (rowOf_below HX9.1 hb1 (rowOf_lt HX9.1)) (rowOf_below HX9.2 hb1 (rowOf_lt HX9.2)))
  clear hb1 HX9
  have x0 : w1.cell? ⟨w.heap.size, 0, none⟩ = some (.slice a1 g.parent.length a3) := rowOf_cell HX.out.1 0
  have x1 : w1.cell? ⟨w.heap.size, 1, none⟩ = some (.slice a4 a5 a6) := rowOf_cell HX.out.1 1
  have x2 : w1.cell? ⟨w.heap.size, 2, none⟩ = some (.slice a7 g.nodes.length a9) := rowOf_cell HX.out.1 2
  have x3 : w1.cell? ⟨w.heap.size, 3, none⟩ = some (.slice a10 a11 a12) := rowOf_cell HX.out.1 3
  have y0 : w1.cell? ⟨w.heap.size + 1, 0, none⟩ = some (.slice b1 h.parent.length b3) := rowOf_cell HX.out.2 0
  have y1 : w1.cell? ⟨w.heap.size + 1, 1, none⟩ = some (.slice b4 b5 b6) := rowOf_cell HX.out.2 1
  have y2 : w1.cell? ⟨w.heap.size + 1, 2, none⟩ = some (.slice b7 h.nodes.length b9) := rowOf_cell HX.out.2 2
  have y3 : w1.cell? ⟨w.heap.size + 1, 3, none⟩ = some (.slice b10 b11 b12) := rowOf_cell HX.out.2 3
  go_wp2_with fail
  refine (HS1.out _ HB1.out).mono ?_
  rintro ee w2 ⟨rfl, hb1⟩
  have HB2 := Lib.hid (HB1.out.trans (hb1.mono HB1.out.size))
  have HX9 := HX.out
  clear HX x0 x1 x2 x3 y0 y1 y2 y3
  have HX := Lib.hid (And.intro (rowOf_below HX9.1 hb1 (rowOf_lt HX9.1)) (rowOf_below HX9.2 hb1 (rowOf_lt HX9.2)))
  clear hb1 HX9
  clear HB0
  have x0 : w2.cell? ⟨w.heap.size, 0, none⟩ = some (.slice a1 g.parent.length a3) := rowOf_cell HX.out.1 0
  have x1 : w2.cell? ⟨w.heap.size, 1, none⟩ = some (.slice a4 a5 a6) := rowOf_cell HX.out.1 1
  have x2 : w2.cell? ⟨w.heap.size, 2, none⟩ = some (.slice a7 g.nodes.length a9) := rowOf_cell HX.out.1 2
  have x3 : w2.cell? ⟨w.heap.size, 3, none⟩ = some (.slice a10 a11 a12) := rowOf_cell HX.out.1 3
  have y0 : w2.cell? ⟨w.heap.size + 1, 0, none⟩ = some (.slice b1 h.parent.length b3) := rowOf_cell HX.out.2 0
  have y1 : w2.cell? ⟨w.heap.size + 1, 1, none⟩ = some (.slice b4 b5 b6) := rowOf_cell HX.out.2 1
  have y2 : w2.cell? ⟨w.heap.size + 1, 2, none⟩ = some (.slice b7 h.nodes.length b9) := rowOf_cell HX.out.2 2
  have y3 : w2.cell? ⟨w.heap.size + 1, 3, none⟩ = some (.slice b10 b11 b12) := rowOf_cell HX.out.2 3
  cases sg
  · clear HX HB1
    go_wp2
    go_returns
    exact ⟨rfl, HB2.out⟩
  go_wp2_with fail
  refine (HS2.out _ HB2.out).mono ?_
  rintro ee w3 ⟨rfl, hb1⟩
  have HB3 := Lib.hid (HB2.out.trans (hb1.mono HB2.out.size))
  have HX9 := HX.out
  clear HX x0 x1 x2 x3 y0 y1 y2 y3
  have HX := Lib.hid (And.intro (rowOf_below HX9.1 hb1 (rowOf_lt HX9.1)) (rowOf_below HX9.2 hb1 (rowOf_lt HX9.2)))
  clear hb1 HX9
  clear HB1
  have x0 : w3.cell? ⟨w.heap.size, 0, none⟩ = some (.slice a1 g.parent.length a3) := rowOf_cell HX.out.1 0
  have x1 : w3.cell? ⟨w.heap.size, 1, none⟩ = some (.slice a4 a5 a6) := rowOf_cell HX.out.1 1
  have x2 : w3.cell? ⟨w.heap.size, 2, none⟩ = some (.slice a7 g.nodes.length a9) := rowOf_cell HX.out.1 2
  have x3 : w3.cell? ⟨w.heap.size, 3, none⟩ = some (.slice a10 a11 a12) := rowOf_cell HX.out.1 3
  have y0 : w3.cell? ⟨w.heap.size + 1, 0, none⟩ = some (.slice b1 h.parent.length b3) := rowOf_cell HX.out.2 0
  have y1 : w3.cell? ⟨w.heap.size + 1, 1, none⟩ = some (.slice b4 b5 b6) := rowOf_cell HX.out.2 1
  have y2 : w3.cell? ⟨w.heap.size + 1, 2, none⟩ = some (.slice b7 h.nodes.length b9) := rowOf_cell HX.out.2 2
  have y3 : w3.cell? ⟨w.heap.size + 1, 3, none⟩ = some (.slice b10 b11 b12) := rowOf_cell HX.out.2 3
  cases sh
  · clear HX HB2
    go_wp2
    go_returns
    exact ⟨rfl, HB3.out⟩
  go_wp2_with fail
  refine (HP.out _ HB3.out).mono ?_
  rintro ee w4 ⟨u, rfl, hu, _, hb1⟩
  have HB4 := Lib.hid (HB3.out.trans (hb1.mono HB3.out.size))
  have HX9 := HX.out
  clear HX x0 x1 x2 x3 y0 y1 y2 y3
  have HX := Lib.hid (And.intro (rowOf_below HX9.1 hb1 (rowOf_lt HX9.1)) (rowOf_below HX9.2 hb1 (rowOf_lt HX9.2)))
  have HU := Lib.hid hu
  clear hu
  clear hb1 HX9
  clear HB2
  have x0 : w4.cell? ⟨w.heap.size, 0, none⟩ = some (.slice a1 g.parent.length a3) := rowOf_cell HX.out.1 0
  have x1 : w4.cell? ⟨w.heap.size, 1, none⟩ = some (.slice a4 a5 a6) := rowOf_cell HX.out.1 1
  have x2 : w4.cell? ⟨w.heap.size, 2, none⟩ = some (.slice a7 g.nodes.length a9) := rowOf_cell HX.out.1 2
  have x3 : w4.cell? ⟨w.heap.size, 3, none⟩ = some (.slice a10 a11 a12) := rowOf_cell HX.out.1 3
  have y0 : w4.cell? ⟨w.heap.size + 1, 0, none⟩ = some (.slice b1 h.parent.length b3) := rowOf_cell HX.out.2 0
  have y1 : w4.cell? ⟨w.heap.size + 1, 1, none⟩ = some (.slice b4 b5 b6) := rowOf_cell HX.out.2 1
  have y2 : w4.cell? ⟨w.heap.size + 1, 2, none⟩ = some (.slice b7 h.nodes.length b9) := rowOf_cell HX.out.2 2
  have y3 : w4.cell? ⟨w.heap.size + 1, 3, none⟩ = some (.slice b10 b11 b12) := rowOf_cell HX.out.2 3
  go_wp2_with fail
  refine (HR.out _ HB4.out).mono ?_
  rintro ee w5 ⟨v, rfl, hv, hb1⟩
  have HB5 := Lib.hid (HB4.out.trans (hb1.mono HB4.out.size))
  have HX9 := HX.out
  clear HX x0 x1 x2 x3 y0 y1 y2 y3
  have HX := Lib.hid (And.intro (rowOf_below HX9.1 hb1 (rowOf_lt HX9.1)) (rowOf_below HX9.2 hb1 (rowOf_lt HX9.2)))
  have HU2 := Lib.hid (HU.out.below hb1)
  have HV2 := Lib.hid hv
  clear hv HU
  clear hb1 HX9
  clear HB3
  have x0 : w5.cell? ⟨w.heap.size, 0, none⟩ = some (.slice a1 g.parent.length a3) := rowOf_cell HX.out.1 0
  have x1 : w5.cell? ⟨w.heap.size, 1, none⟩ = some (.slice a4 a5 a6) := rowOf_cell HX.out.1 1
  have x2 : w5.cell? ⟨w.heap.size, 2, none⟩ = some (.slice a7 g.nodes.length a9) := rowOf_cell HX.out.1 2
  have x3 : w5.cell? ⟨w.heap.size, 3, none⟩ = some (.slice a10 a11 a12) := rowOf_cell HX.out.1 3
  have y0 : w5.cell? ⟨w.heap.size + 1, 0, none⟩ = some (.slice b1 h.parent.length b3) := rowOf_cell HX.out.2 0
  have y1 : w5.cell? ⟨w.heap.size + 1, 1, none⟩ = some (.slice b4 b5 b6) := rowOf_cell HX.out.2 1
  have y2 : w5.cell? ⟨w.heap.size + 1, 2, none⟩ = some (.slice b7 h.nodes.length b9) := rowOf_cell HX.out.2 2
  have y3 : w5.cell? ⟨w.heap.size + 1, 3, none⟩ = some (.slice b10 b11 b12) := rowOf_cell HX.out.2 3
  have HA5 : Hid (∀ q : Beh w5, Calls Try.prog 11 #[u, v] q.w (Ret (.bool true) q.w)) := fun q => by
    have := sameB_any L L u v q.w HPL.out (HU2.out.below q.h) (HV2.out.below q.h)
    rw [decide_eq_true rfl] at this
    exact this
  have HQ5 : Hid (∀ q : Beh w5, Calls Try.prog 12 #[.agg #[.slice a1 g.parent.length a3, .slice a4 a5 a6, .slice a7 g.nodes.length a9, .slice a10 a11 a12], .agg #[.slice b1 h.parent.length b3, .slice b4 b5 b6, .slice b7 h.nodes.length b9, .slice b10 b11 b12]] q.w (Ret (.bool eq) q.w)) := fun q => HQ.out trivial _ (HB5.out.trans (q.h.mono HB5.out.size))
  have HT5 : Hid (∀ q : Beh w5, Calls Try.prog 13 #[.agg #[.slice a1 g.parent.length a3, .slice a4 a5 a6, .slice a7 g.nodes.length a9, .slice a10 a11 a12], .agg #[.slice b1 h.parent.length b3, .slice b4 b5 b6, .slice b7 h.nodes.length b9, .slice b10 b11 b12]] q.w (Ret (.bool eq) q.w)) := fun q => HT.out trivial _ (HB5.out.trans (q.h.mono HB5.out.size))
  replace x0 : ∀ q : Beh w5, q.w.cell? ⟨w.heap.size, 0, none⟩ = some (.slice a1 g.parent.length a3) := fun q => beh_cell x0 q
  replace x1 : ∀ q : Beh w5, q.w.cell? ⟨w.heap.size, 1, none⟩ = some (.slice a4 a5 a6) := fun q => beh_cell x1 q
  replace x2 : ∀ q : Beh w5, q.w.cell? ⟨w.heap.size, 2, none⟩ = some (.slice a7 g.nodes.length a9) := fun q => beh_cell x2 q
  replace x3 : ∀ q : Beh w5, q.w.cell? ⟨w.heap.size, 3, none⟩ = some (.slice a10 a11 a12) := fun q => beh_cell x3 q
  replace y0 : ∀ q : Beh w5, q.w.cell? ⟨w.heap.size + 1, 0, none⟩ = some (.slice b1 h.parent.length b3) := fun q => beh_cell y0 q
  replace y1 : ∀ q : Beh w5, q.w.cell? ⟨w.heap.size + 1, 1, none⟩ = some (.slice b4 b5 b6) := fun q => beh_cell y1 q
  replace y2 : ∀ q : Beh w5, q.w.cell? ⟨w.heap.size + 1, 2, none⟩ = some (.slice b7 h.nodes.length b9) := fun q => beh_cell y2 q
  replace y3 : ∀ q : Beh w5, q.w.cell? ⟨w.heap.size + 1, 3, none⟩ = some (.slice b10 b11 b12) := fun q => beh_cell y3 q
  clear HX HU2 HV2 HQ HT HR HB4 HPL
  go_wp2_with fail
  refine wp_region_beh (by kernel_rfl) (by kernel_rfl) ?_
  repeat (first | go_big_quiet_step (first | (with_reducible exact Calls.beh (HA5.out _)) | (with_reducible exact Calls.beh (HQ5.out _)) | (with_reducible exact Calls.beh (HT5.out _))) | quiet_step (first | (with_reducible exact Calls.beh (HA5.out _)) | (with_reducible exact Calls.beh (HQ5.out _)) | (with_reducible exact Calls.beh (HT5.out _))))
  refine wpQuiet_nil ?_
  intro _ hw'
  obtain ⟨q, hw''⟩ := hw'
  subst hw''
  have HZ := Lib.hid (HB5.out.trans (q.h.mono HB5.out.size))
  clear x0 x1 x2 x3 y0 y1 y2 y3
  go_wp2
  go_returns
  exact ⟨ret_bool (by first | rfl | exact z2), HZ.out⟩
end Go.Proofs.Ytdhmoiiagplbpaa
