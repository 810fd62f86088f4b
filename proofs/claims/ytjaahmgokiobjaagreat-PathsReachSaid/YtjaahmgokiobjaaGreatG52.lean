/- the program's Check, and all that it calls, of the graph that awake asks of: an input and a sink behind it -/
import Derived.Test.YtjaahmgokiobjaaGreatG33
import Derived.Deep.RegionHeldLaw
namespace Go.Proofs.YtjaahmgokiobjaaGreat
open Go.RowKit
set_option linter.unusedVariables false
set_option linter.unusedSimpArgs false

/-- the graph lies in these four blocks -/
structure G0 (w : World) (b1 b2 b3 b4 : Nat) : Prop where
  l1 : b1 < w.heap.size
  l2 : b2 < w.heap.size
  l3 : b3 < w.heap.size
  l4 : b4 < w.heap.size
  p0 : w.cell? ⟨b1, 0, none⟩ = some (.int .i64 (-1))
  q0 : w.cell? ⟨b2, 0, none⟩ = some (.int .i64 0)
  n0 : w.cell? ⟨b3, 0, none⟩ = some (.int .i64 1)
  n1 : w.cell? ⟨b3, 1, none⟩ = some (.int .i64 0)
  n2 : w.cell? ⟨b3, 2, none⟩ = some (.int .i64 0)
  n3 : w.cell? ⟨b3, 3, none⟩ = some (.slice none 0 0)
  n4 : w.cell? ⟨b3, 4, none⟩ = some (.int .i64 15)
  n5 : w.cell? ⟨b3, 5, none⟩ = some (.int .i64 0)
  n6 : w.cell? ⟨b3, 6, none⟩ = some (.int .i64 0)
  n7 : w.cell? ⟨b3, 7, none⟩ = some (.slice none 0 0)
  e0 : w.cell? ⟨b4, 0, none⟩ = some (.int .i64 0)
  e1 : w.cell? ⟨b4, 1, none⟩ = some (.int .i64 1)
  e2 : w.cell? ⟨b4, 2, none⟩ = some (.int .i64 0)
  e3 : w.cell? ⟨b4, 3, none⟩ = some (.bool false)
theorem G0.below {w W : World} {b1 b2 b3 b4 : Nat} (h : G0 w b1 b2 b3 b4) (hb : Below w.heap.size w W) : G0 W b1 b2 b3 b4 := by
  obtain ⟨l1, l2, l3, l4, p0, q0, n0, n1, n2, n3, n4, n5, n6, n7, e0, e1, e2, e3⟩ := h
  exact ⟨Nat.lt_of_lt_of_le l1 hb.size, Nat.lt_of_lt_of_le l2 hb.size, Nat.lt_of_lt_of_le l3 hb.size, Nat.lt_of_lt_of_le l4 hb.size, (hb.cell (p := ⟨b1, 0, none⟩) l1).trans p0, (hb.cell (p := ⟨b2, 0, none⟩) l2).trans q0,
    (hb.cell (p := ⟨b3, 0, none⟩) l3).trans n0, (hb.cell (p := ⟨b3, 1, none⟩) l3).trans n1, (hb.cell (p := ⟨b3, 2, none⟩) l3).trans n2, (hb.cell (p := ⟨b3, 3, none⟩) l3).trans n3, (hb.cell (p := ⟨b3, 4, none⟩) l3).trans n4, (hb.cell (p := ⟨b3, 5, none⟩) l3).trans n5, (hb.cell (p := ⟨b3, 6, none⟩) l3).trans n6, (hb.cell (p := ⟨b3, 7, none⟩) l3).trans n7,
    (hb.cell (p := ⟨b4, 0, none⟩) l4).trans e0, (hb.cell (p := ⟨b4, 1, none⟩) l4).trans e1, (hb.cell (p := ⟨b4, 2, none⟩) l4).trans e2, (hb.cell (p := ⟨b4, 3, none⟩) l4).trans e3⟩

set_option maxRecDepth 100000 in
set_option maxHeartbeats 8000000 in
theorem sb0 {w : World} {b1 b2 b3 b4 : Nat} (h : G0 w b1 b2 b3 b4) : Calls Tryz.prog 86 #[.agg #[.slice (some ⟨b1, 0, none⟩) 1 1, .slice (some ⟨b2, 0, none⟩) 1 1, .slice (some ⟨b3, 0, none⟩) 2 2, .slice (some ⟨b4, 0, none⟩) 1 1], .int .i64 0, .int .i64 10] w (Ret (.int .i64 0) w) := by
  have HG := Lib.hid h
  obtain ⟨l1, l2, l3, l4, p0, q0, n0, n1, n2, n3, n4, n5, n6, n7, e0, e1, e2, e3⟩ := h
  have D1 := Nat.ne_of_lt l1
  have D2 := Nat.ne_of_lt l2
  have D3 := Nat.ne_of_lt l3
  have D4 := Nat.ne_of_lt l4
  go_enter Tryz.func86, Tryz.ntmps86
  go_wp2
  go_returns
  exact ⟨rfl, by go_grown⟩

set_option maxRecDepth 100000 in
set_option maxHeartbeats 8000000 in
theorem sb1 {w : World} {b1 b2 b3 b4 : Nat} (h : G0 w b1 b2 b3 b4) : Calls Tryz.prog 86 #[.agg #[.slice (some ⟨b1, 0, none⟩) 1 1, .slice (some ⟨b2, 0, none⟩) 1 1, .slice (some ⟨b3, 0, none⟩) 2 2, .slice (some ⟨b4, 0, none⟩) 1 1], .int .i64 1, .int .i64 10] w (Ret (.int .i64 0) w) := by
  have HG := Lib.hid h
  obtain ⟨l1, l2, l3, l4, p0, q0, n0, n1, n2, n3, n4, n5, n6, n7, e0, e1, e2, e3⟩ := h
  have D1 := Nat.ne_of_lt l1
  have D2 := Nat.ne_of_lt l2
  have D3 := Nat.ne_of_lt l3
  have D4 := Nat.ne_of_lt l4
  go_enter Tryz.func86, Tryz.ntmps86
  go_wp2
  go_returns
  exact ⟨rfl, by go_grown⟩

set_option maxRecDepth 100000 in
set_option maxHeartbeats 8000000 in
theorem sg0 {w : World} {b1 b2 b3 b4 : Nat} (h : G0 w b1 b2 b3 b4) : Calls Tryz.prog 86 #[.agg #[.slice (some ⟨b1, 0, none⟩) 1 1, .slice (some ⟨b2, 0, none⟩) 1 1, .slice (some ⟨b3, 0, none⟩) 2 2, .slice (some ⟨b4, 0, none⟩) 1 1], .int .i64 0, .int .i64 11] w (Ret (.int .i64 0) w) := by
  have HG := Lib.hid h
  obtain ⟨l1, l2, l3, l4, p0, q0, n0, n1, n2, n3, n4, n5, n6, n7, e0, e1, e2, e3⟩ := h
  have D1 := Nat.ne_of_lt l1
  have D2 := Nat.ne_of_lt l2
  have D3 := Nat.ne_of_lt l3
  have D4 := Nat.ne_of_lt l4
  go_enter Tryz.func86, Tryz.ntmps86
  go_wp2
  go_returns
  exact ⟨rfl, by go_grown⟩

set_option maxRecDepth 100000 in
set_option maxHeartbeats 8000000 in
theorem ti0 {w : World} {b1 b2 b3 b4 : Nat} (h : G0 w b1 b2 b3 b4) : Calls Tryz.prog 61 #[.agg #[.slice (some ⟨b1, 0, none⟩) 1 1, .slice (some ⟨b2, 0, none⟩) 1 1, .slice (some ⟨b3, 0, none⟩) 2 2, .slice (some ⟨b4, 0, none⟩) 1 1], .int .i64 0] w (Ret (.int .i64 0) w) := by
  have H1 : Hid (∀ W, Below w.heap.size w W → Calls Tryz.prog 86 #[.agg #[.slice (some ⟨b1, 0, none⟩) 1 1, .slice (some ⟨b2, 0, none⟩) 1 1, .slice (some ⟨b3, 0, none⟩) 2 2, .slice (some ⟨b4, 0, none⟩) 1 1], .int .i64 0, .int .i64 10] W (Ret (.int .i64 0) W)) := fun W hW => sb0 (h.below hW)
  have HG := Lib.hid h
  obtain ⟨l1, l2, l3, l4, p0, q0, n0, n1, n2, n3, n4, n5, n6, n7, e0, e1, e2, e3⟩ := h
  have D1 := Nat.ne_of_lt l1
  have D2 := Nat.ne_of_lt l2
  have D3 := Nat.ne_of_lt l3
  have D4 := Nat.ne_of_lt l4
  go_enter Tryz.func61, Tryz.ntmps61
  go_wp2_with fail
  refine (H1.out _ (by go_grown)).mono ?_
  rintro e w1 ⟨rfl, hb1⟩
  have HB1 := Lib.hid (bcall (B := w.heap.size) (a := w) (by go_grown) hb1 (by go_size))
  clear hb1
  go_wp2
  go_returns
  exact ⟨rfl, HB1.out⟩

set_option maxRecDepth 100000 in
set_option maxHeartbeats 8000000 in
theorem ti1 {w : World} {b1 b2 b3 b4 : Nat} (h : G0 w b1 b2 b3 b4) : Calls Tryz.prog 61 #[.agg #[.slice (some ⟨b1, 0, none⟩) 1 1, .slice (some ⟨b2, 0, none⟩) 1 1, .slice (some ⟨b3, 0, none⟩) 2 2, .slice (some ⟨b4, 0, none⟩) 1 1], .int .i64 1] w (Ret (.int .i64 0) w) := by
  have H1 : Hid (∀ W, Below w.heap.size w W → Calls Tryz.prog 86 #[.agg #[.slice (some ⟨b1, 0, none⟩) 1 1, .slice (some ⟨b2, 0, none⟩) 1 1, .slice (some ⟨b3, 0, none⟩) 2 2, .slice (some ⟨b4, 0, none⟩) 1 1], .int .i64 1, .int .i64 10] W (Ret (.int .i64 0) W)) := fun W hW => sb1 (h.below hW)
  have HG := Lib.hid h
  obtain ⟨l1, l2, l3, l4, p0, q0, n0, n1, n2, n3, n4, n5, n6, n7, e0, e1, e2, e3⟩ := h
  have D1 := Nat.ne_of_lt l1
  have D2 := Nat.ne_of_lt l2
  have D3 := Nat.ne_of_lt l3
  have D4 := Nat.ne_of_lt l4
  go_enter Tryz.func61, Tryz.ntmps61
  go_wp2_with fail
  refine (H1.out _ (by go_grown)).mono ?_
  rintro e w1 ⟨rfl, hb1⟩
  have HB1 := Lib.hid (bcall (B := w.heap.size) (a := w) (by go_grown) hb1 (by go_size))
  clear hb1
  go_wp2
  go_returns
  exact ⟨rfl, HB1.out⟩

set_option maxRecDepth 100000 in
set_option maxHeartbeats 8000000 in
theorem gi0 {w : World} {b1 b2 b3 b4 : Nat} (h : G0 w b1 b2 b3 b4) : Calls Tryz.prog 84 #[.agg #[.slice (some ⟨b1, 0, none⟩) 1 1, .slice (some ⟨b2, 0, none⟩) 1 1, .slice (some ⟨b3, 0, none⟩) 2 2, .slice (some ⟨b4, 0, none⟩) 1 1], .int .i64 0] w (Ret (.int .i64 0) w) := by
  have H1 : Hid (∀ W, Below w.heap.size w W → Calls Tryz.prog 86 #[.agg #[.slice (some ⟨b1, 0, none⟩) 1 1, .slice (some ⟨b2, 0, none⟩) 1 1, .slice (some ⟨b3, 0, none⟩) 2 2, .slice (some ⟨b4, 0, none⟩) 1 1], .int .i64 0, .int .i64 11] W (Ret (.int .i64 0) W)) := fun W hW => sg0 (h.below hW)
  have HG := Lib.hid h
  obtain ⟨l1, l2, l3, l4, p0, q0, n0, n1, n2, n3, n4, n5, n6, n7, e0, e1, e2, e3⟩ := h
  have D1 := Nat.ne_of_lt l1
  have D2 := Nat.ne_of_lt l2
  have D3 := Nat.ne_of_lt l3
  have D4 := Nat.ne_of_lt l4
  go_enter Tryz.func84, Tryz.ntmps84
  go_wp2_with fail
  refine (H1.out _ (by go_grown)).mono ?_
  rintro e w1 ⟨rfl, hb1⟩
  have HB1 := Lib.hid (bcall (B := w.heap.size) (a := w) (by go_grown) hb1 (by go_size))
  clear hb1
  go_wp2
  go_returns
  exact ⟨rfl, HB1.out⟩

set_option maxRecDepth 100000 in
set_option maxHeartbeats 8000000 in
theorem de0 {w : World} {b1 b2 b3 b4 : Nat} (h : G0 w b1 b2 b3 b4) : Calls Tryz.prog 60 #[.agg #[.slice (some ⟨b1, 0, none⟩) 1 1, .slice (some ⟨b2, 0, none⟩) 1 1, .slice (some ⟨b3, 0, none⟩) 2 2, .slice (some ⟨b4, 0, none⟩) 1 1], .int .i64 0] w (Ret (.int .i64 1) w) := by
  have HG := Lib.hid h
  obtain ⟨l1, l2, l3, l4, p0, q0, n0, n1, n2, n3, n4, n5, n6, n7, e0, e1, e2, e3⟩ := h
  have D1 := Nat.ne_of_lt l1
  have D2 := Nat.ne_of_lt l2
  have D3 := Nat.ne_of_lt l3
  have D4 := Nat.ne_of_lt l4
  go_enter Tryz.func60, Tryz.ntmps60
  go_wp2
  refine wp_loop_rounds 1 ?_
  rw [rounds_succ]
  go_wp2
  go_returns
  exact ⟨rfl, by go_grown⟩

set_option maxRecDepth 100000 in
set_option maxHeartbeats 8000000 in
theorem tk0 {w : World} {b1 b2 b3 b4 : Nat} (h : G0 w b1 b2 b3 b4) : Calls Tryz.prog 34 #[.agg #[.slice (some ⟨b1, 0, none⟩) 1 1, .slice (some ⟨b2, 0, none⟩) 1 1, .slice (some ⟨b3, 0, none⟩) 2 2, .slice (some ⟨b4, 0, none⟩) 1 1], .int .i64 0] w (Ret (.int .i64 1) w) := by
  have H1 : Hid (∀ W, Below w.heap.size w W → Calls Tryz.prog 61 #[.agg #[.slice (some ⟨b1, 0, none⟩) 1 1, .slice (some ⟨b2, 0, none⟩) 1 1, .slice (some ⟨b3, 0, none⟩) 2 2, .slice (some ⟨b4, 0, none⟩) 1 1], .int .i64 0] W (Ret (.int .i64 0) W)) := fun W hW => ti0 (h.below hW)
  have H2 : Hid (∀ W, Below w.heap.size w W → Calls Tryz.prog 60 #[.agg #[.slice (some ⟨b1, 0, none⟩) 1 1, .slice (some ⟨b2, 0, none⟩) 1 1, .slice (some ⟨b3, 0, none⟩) 2 2, .slice (some ⟨b4, 0, none⟩) 1 1], .int .i64 0] W (Ret (.int .i64 1) W)) := fun W hW => de0 (h.below hW)
  have HG := Lib.hid h
  obtain ⟨l1, l2, l3, l4, p0, q0, n0, n1, n2, n3, n4, n5, n6, n7, e0, e1, e2, e3⟩ := h
  have D1 := Nat.ne_of_lt l1
  have D2 := Nat.ne_of_lt l2
  have D3 := Nat.ne_of_lt l3
  have D4 := Nat.ne_of_lt l4
  go_enter Tryz.func34, Tryz.ntmps34
  go_wp2_with fail
  refine gen_world (fun W2 => Below w.heap.size w W2 ∧ W2.cell? ⟨w.heap.size, 0, none⟩ = some (.slice (some ⟨b1, 0, none⟩) 1 1) ∧ W2.cell? ⟨w.heap.size, 1, none⟩ = some (.slice (some ⟨b2, 0, none⟩) 1 1) ∧ W2.cell? ⟨w.heap.size, 2, none⟩ = some (.slice (some ⟨b3, 0, none⟩) 2 2) ∧ W2.cell? ⟨w.heap.size, 3, none⟩ = some (.slice (some ⟨b4, 0, none⟩) 1 1)) ⟨by go_grown, by go_cell, by go_cell, by go_cell, by go_cell⟩ ?_
  rintro w1 ⟨hB, c0, c1, c2, c3⟩
  have HB1 := Lib.hid hB
  clear hB
  clear l1 l2 l3 l4 p0 q0 n0 n1 n2 n3 n4 n5 n6 n7 e0 e1 e2 e3 D1 D2 D3 D4
  obtain ⟨l1, l2, l3, l4, p0, q0, n0, n1, n2, n3, n4, n5, n6, n7, e0, e1, e2, e3⟩ := HG.out.below HB1.out
  have D1 := Nat.ne_of_lt l1
  have D2 := Nat.ne_of_lt l2
  have D3 := Nat.ne_of_lt l3
  have D4 := Nat.ne_of_lt l4
  have x0 := fun p : Bx w1 => bx_cell c0 p
  have x1 := fun p : Bx w1 => bx_cell c1 p
  have x2 := fun p : Bx w1 => bx_cell c2 p
  have x3 := fun p : Bx w1 => bx_cell c3 p
  have yp0 := fun p : Bx w1 => bx_cell p0 p
  have yq0 := fun p : Bx w1 => bx_cell q0 p
  have yn0 := fun p : Bx w1 => bx_cell n0 p
  have yn1 := fun p : Bx w1 => bx_cell n1 p
  have yn2 := fun p : Bx w1 => bx_cell n2 p
  have yn3 := fun p : Bx w1 => bx_cell n3 p
  have yn4 := fun p : Bx w1 => bx_cell n4 p
  have yn5 := fun p : Bx w1 => bx_cell n5 p
  have yn6 := fun p : Bx w1 => bx_cell n6 p
  have yn7 := fun p : Bx w1 => bx_cell n7 p
  have ye0 := fun p : Bx w1 => bx_cell e0 p
  have ye1 := fun p : Bx w1 => bx_cell e1 p
  have ye2 := fun p : Bx w1 => bx_cell e2 p
  have ye3 := fun p : Bx w1 => bx_cell e3 p
  have KH1 : Hid (∀ p : Bx w1, Calls Tryz.prog 61 #[.agg #[.slice (some ⟨b1, 0, none⟩) 1 1, .slice (some ⟨b2, 0, none⟩) 1 1, .slice (some ⟨b3, 0, none⟩) 2 2, .slice (some ⟨b4, 0, none⟩) 1 1], .int .i64 0] p.w (Ret (.int .i64 0) p.w)) := fun p => H1.out p.w (bstep HB1.out p.h HB1.out.size)
  have KH2 : Hid (∀ p : Bx w1, Calls Tryz.prog 60 #[.agg #[.slice (some ⟨b1, 0, none⟩) 1 1, .slice (some ⟨b2, 0, none⟩) 1 1, .slice (some ⟨b3, 0, none⟩) 2 2, .slice (some ⟨b4, 0, none⟩) 1 1], .int .i64 0] p.w (Ret (.int .i64 1) p.w)) := fun p => H2.out p.w (bstep HB1.out p.h HB1.out.size)
  refine wp_region_bx (by kernel_rfl) (by kernel_rfl) ?_
  repeat (first | go_big_quiet_step (first | (with_reducible exact Calls.bx (KH1.out _)) | (with_reducible exact Calls.bx (KH2.out _)) | fail) | quiet_step (first | (with_reducible exact Calls.bx (KH1.out _)) | (with_reducible exact Calls.bx (KH2.out _)) | fail))
  refine wpQuiet_nil ?_
  intro _ hw'
  obtain ⟨g9, hw''⟩ := hw'
  subst hw''
  have hb := g9.h
  generalize g9.w = w2 at hb ⊢
  clear g9
  have HB2 := Lib.hid (bstep HB1.out hb HB1.out.size)
  replace c0 := (hb.cell (World.block_lt_of_cell? _ _ c0)).trans c0
  replace c1 := (hb.cell (World.block_lt_of_cell? _ _ c1)).trans c1
  replace c2 := (hb.cell (World.block_lt_of_cell? _ _ c2)).trans c2
  replace c3 := (hb.cell (World.block_lt_of_cell? _ _ c3)).trans c3
  clear hb x0 x1 x2 x3 yp0 yq0 yn0 yn1 yn2 yn3 yn4 yn5 yn6 yn7 ye0 ye1 ye2 ye3 KH1 KH2
  clear l1 l2 l3 l4 p0 q0 n0 n1 n2 n3 n4 n5 n6 n7 e0 e1 e2 e3 D1 D2 D3 D4
  obtain ⟨l1, l2, l3, l4, p0, q0, n0, n1, n2, n3, n4, n5, n6, n7, e0, e1, e2, e3⟩ := HG.out.below HB2.out
  have D1 := Nat.ne_of_lt l1
  have D2 := Nat.ne_of_lt l2
  have D3 := Nat.ne_of_lt l3
  have D4 := Nat.ne_of_lt l4
  go_wp2
  go_returns
  exact ⟨rfl, HB2.out⟩

set_option maxRecDepth 100000 in
set_option maxHeartbeats 8000000 in
theorem tk1 {w : World} {b1 b2 b3 b4 : Nat} (h : G0 w b1 b2 b3 b4) : Calls Tryz.prog 34 #[.agg #[.slice (some ⟨b1, 0, none⟩) 1 1, .slice (some ⟨b2, 0, none⟩) 1 1, .slice (some ⟨b3, 0, none⟩) 2 2, .slice (some ⟨b4, 0, none⟩) 1 1], .int .i64 1] w (Ret (.int .i64 1) w) := by
  have H1 : Hid (∀ W, Below w.heap.size w W → Calls Tryz.prog 61 #[.agg #[.slice (some ⟨b1, 0, none⟩) 1 1, .slice (some ⟨b2, 0, none⟩) 1 1, .slice (some ⟨b3, 0, none⟩) 2 2, .slice (some ⟨b4, 0, none⟩) 1 1], .int .i64 1] W (Ret (.int .i64 0) W)) := fun W hW => ti1 (h.below hW)
  have H2 : Hid (∀ W, Below w.heap.size w W → Calls Tryz.prog 60 #[.agg #[.slice (some ⟨b1, 0, none⟩) 1 1, .slice (some ⟨b2, 0, none⟩) 1 1, .slice (some ⟨b3, 0, none⟩) 2 2, .slice (some ⟨b4, 0, none⟩) 1 1], .int .i64 0] W (Ret (.int .i64 1) W)) := fun W hW => de0 (h.below hW)
  have HG := Lib.hid h
  obtain ⟨l1, l2, l3, l4, p0, q0, n0, n1, n2, n3, n4, n5, n6, n7, e0, e1, e2, e3⟩ := h
  have D1 := Nat.ne_of_lt l1
  have D2 := Nat.ne_of_lt l2
  have D3 := Nat.ne_of_lt l3
  have D4 := Nat.ne_of_lt l4
  go_enter Tryz.func34, Tryz.ntmps34
  go_wp2_with fail
  refine gen_world (fun W2 => Below w.heap.size w W2 ∧ W2.cell? ⟨w.heap.size, 0, none⟩ = some (.slice (some ⟨b1, 0, none⟩) 1 1) ∧ W2.cell? ⟨w.heap.size, 1, none⟩ = some (.slice (some ⟨b2, 0, none⟩) 1 1) ∧ W2.cell? ⟨w.heap.size, 2, none⟩ = some (.slice (some ⟨b3, 0, none⟩) 2 2) ∧ W2.cell? ⟨w.heap.size, 3, none⟩ = some (.slice (some ⟨b4, 0, none⟩) 1 1)) ⟨by go_grown, by go_cell, by go_cell, by go_cell, by go_cell⟩ ?_
  rintro w1 ⟨hB, c0, c1, c2, c3⟩
  have HB1 := Lib.hid hB
  clear hB
  clear l1 l2 l3 l4 p0 q0 n0 n1 n2 n3 n4 n5 n6 n7 e0 e1 e2 e3 D1 D2 D3 D4
  obtain ⟨l1, l2, l3, l4, p0, q0, n0, n1, n2, n3, n4, n5, n6, n7, e0, e1, e2, e3⟩ := HG.out.below HB1.out
  have D1 := Nat.ne_of_lt l1
  have D2 := Nat.ne_of_lt l2
  have D3 := Nat.ne_of_lt l3
  have D4 := Nat.ne_of_lt l4
  have x0 := fun p : Bx w1 => bx_cell c0 p
  have x1 := fun p : Bx w1 => bx_cell c1 p
  have x2 := fun p : Bx w1 => bx_cell c2 p
  have x3 := fun p : Bx w1 => bx_cell c3 p
  have yp0 := fun p : Bx w1 => bx_cell p0 p
  have yq0 := fun p : Bx w1 => bx_cell q0 p
  have yn0 := fun p : Bx w1 => bx_cell n0 p
  have yn1 := fun p : Bx w1 => bx_cell n1 p
  have yn2 := fun p : Bx w1 => bx_cell n2 p
  have yn3 := fun p : Bx w1 => bx_cell n3 p
  have yn4 := fun p : Bx w1 => bx_cell n4 p
  have yn5 := fun p : Bx w1 => bx_cell n5 p
  have yn6 := fun p : Bx w1 => bx_cell n6 p
  have yn7 := fun p : Bx w1 => bx_cell n7 p
  have ye0 := fun p : Bx w1 => bx_cell e0 p
  have ye1 := fun p : Bx w1 => bx_cell e1 p
  have ye2 := fun p : Bx w1 => bx_cell e2 p
  have ye3 := fun p : Bx w1 => bx_cell e3 p
  have KH1 : Hid (∀ p : Bx w1, Calls Tryz.prog 61 #[.agg #[.slice (some ⟨b1, 0, none⟩) 1 1, .slice (some ⟨b2, 0, none⟩) 1 1, .slice (some ⟨b3, 0, none⟩) 2 2, .slice (some ⟨b4, 0, none⟩) 1 1], .int .i64 1] p.w (Ret (.int .i64 0) p.w)) := fun p => H1.out p.w (bstep HB1.out p.h HB1.out.size)
  have KH2 : Hid (∀ p : Bx w1, Calls Tryz.prog 60 #[.agg #[.slice (some ⟨b1, 0, none⟩) 1 1, .slice (some ⟨b2, 0, none⟩) 1 1, .slice (some ⟨b3, 0, none⟩) 2 2, .slice (some ⟨b4, 0, none⟩) 1 1], .int .i64 0] p.w (Ret (.int .i64 1) p.w)) := fun p => H2.out p.w (bstep HB1.out p.h HB1.out.size)
  refine wp_region_bx (by kernel_rfl) (by kernel_rfl) ?_
  repeat (first | go_big_quiet_step (first | (with_reducible exact Calls.bx (KH1.out _)) | (with_reducible exact Calls.bx (KH2.out _)) | fail) | quiet_step (first | (with_reducible exact Calls.bx (KH1.out _)) | (with_reducible exact Calls.bx (KH2.out _)) | fail))
  refine wpQuiet_nil ?_
  intro _ hw'
  obtain ⟨g9, hw''⟩ := hw'
  subst hw''
  have hb := g9.h
  generalize g9.w = w2 at hb ⊢
  clear g9
  have HB2 := Lib.hid (bstep HB1.out hb HB1.out.size)
  replace c0 := (hb.cell (World.block_lt_of_cell? _ _ c0)).trans c0
  replace c1 := (hb.cell (World.block_lt_of_cell? _ _ c1)).trans c1
  replace c2 := (hb.cell (World.block_lt_of_cell? _ _ c2)).trans c2
  replace c3 := (hb.cell (World.block_lt_of_cell? _ _ c3)).trans c3
  clear hb x0 x1 x2 x3 yp0 yq0 yn0 yn1 yn2 yn3 yn4 yn5 yn6 yn7 ye0 ye1 ye2 ye3 KH1 KH2
  clear l1 l2 l3 l4 p0 q0 n0 n1 n2 n3 n4 n5 n6 n7 e0 e1 e2 e3 D1 D2 D3 D4
  obtain ⟨l1, l2, l3, l4, p0, q0, n0, n1, n2, n3, n4, n5, n6, n7, e0, e1, e2, e3⟩ := HG.out.below HB2.out
  have D1 := Nat.ne_of_lt l1
  have D2 := Nat.ne_of_lt l2
  have D3 := Nat.ne_of_lt l3
  have D4 := Nat.ne_of_lt l4
  go_wp2
  go_returns
  exact ⟨rfl, HB2.out⟩

set_option maxRecDepth 100000 in
set_option maxHeartbeats 8000000 in
theorem sm0 {w : World} {b1 b2 b3 b4 : Nat} (h : G0 w b1 b2 b3 b4) : Calls Tryz.prog 54 #[.agg #[.slice (some ⟨b1, 0, none⟩) 1 1, .slice (some ⟨b2, 0, none⟩) 1 1, .slice (some ⟨b3, 0, none⟩) 2 2, .slice (some ⟨b4, 0, none⟩) 1 1], .int .i64 0] w (Ret (.bool true) w) := by
  have HG := Lib.hid h
  obtain ⟨l1, l2, l3, l4, p0, q0, n0, n1, n2, n3, n4, n5, n6, n7, e0, e1, e2, e3⟩ := h
  have D1 := Nat.ne_of_lt l1
  have D2 := Nat.ne_of_lt l2
  have D3 := Nat.ne_of_lt l3
  have D4 := Nat.ne_of_lt l4
  go_enter Tryz.func54, Tryz.ntmps54
  go_wp2_with fail
  refine gen_world (fun W2 => Below w.heap.size w W2 ∧ W2.cell? ⟨w.heap.size, 0, none⟩ = some (.slice (some ⟨b1, 0, none⟩) 1 1) ∧ W2.cell? ⟨w.heap.size, 1, none⟩ = some (.slice (some ⟨b2, 0, none⟩) 1 1) ∧ W2.cell? ⟨w.heap.size, 2, none⟩ = some (.slice (some ⟨b3, 0, none⟩) 2 2) ∧ W2.cell? ⟨w.heap.size, 3, none⟩ = some (.slice (some ⟨b4, 0, none⟩) 1 1)) ⟨by go_grown, by go_cell, by go_cell, by go_cell, by go_cell⟩ ?_
  rintro w1 ⟨hB, c0, c1, c2, c3⟩
  have HB1 := Lib.hid hB
  clear hB
  clear l1 l2 l3 l4 p0 q0 n0 n1 n2 n3 n4 n5 n6 n7 e0 e1 e2 e3 D1 D2 D3 D4
  obtain ⟨l1, l2, l3, l4, p0, q0, n0, n1, n2, n3, n4, n5, n6, n7, e0, e1, e2, e3⟩ := HG.out.below HB1.out
  have D1 := Nat.ne_of_lt l1
  have D2 := Nat.ne_of_lt l2
  have D3 := Nat.ne_of_lt l3
  have D4 := Nat.ne_of_lt l4
  have x0 := fun p : Bx w1 => bx_cell c0 p
  have x1 := fun p : Bx w1 => bx_cell c1 p
  have x2 := fun p : Bx w1 => bx_cell c2 p
  have x3 := fun p : Bx w1 => bx_cell c3 p
  have yp0 := fun p : Bx w1 => bx_cell p0 p
  have yq0 := fun p : Bx w1 => bx_cell q0 p
  have yn0 := fun p : Bx w1 => bx_cell n0 p
  have yn1 := fun p : Bx w1 => bx_cell n1 p
  have yn2 := fun p : Bx w1 => bx_cell n2 p
  have yn3 := fun p : Bx w1 => bx_cell n3 p
  have yn4 := fun p : Bx w1 => bx_cell n4 p
  have yn5 := fun p : Bx w1 => bx_cell n5 p
  have yn6 := fun p : Bx w1 => bx_cell n6 p
  have yn7 := fun p : Bx w1 => bx_cell n7 p
  have ye0 := fun p : Bx w1 => bx_cell e0 p
  have ye1 := fun p : Bx w1 => bx_cell e1 p
  have ye2 := fun p : Bx w1 => bx_cell e2 p
  have ye3 := fun p : Bx w1 => bx_cell e3 p
  refine wp_region_bx (by kernel_rfl) (by kernel_rfl) ?_
  repeat (first | go_big_quiet_step (first | fail) | quiet_step (first | fail))
  refine wpQuiet_nil ?_
  intro _ hw'
  obtain ⟨g9, hw''⟩ := hw'
  subst hw''
  have hb := g9.h
  generalize g9.w = w2 at hb ⊢
  clear g9
  have HB2 := Lib.hid (bstep HB1.out hb HB1.out.size)
  replace c0 := (hb.cell (World.block_lt_of_cell? _ _ c0)).trans c0
  replace c1 := (hb.cell (World.block_lt_of_cell? _ _ c1)).trans c1
  replace c2 := (hb.cell (World.block_lt_of_cell? _ _ c2)).trans c2
  replace c3 := (hb.cell (World.block_lt_of_cell? _ _ c3)).trans c3
  clear hb x0 x1 x2 x3 yp0 yq0 yn0 yn1 yn2 yn3 yn4 yn5 yn6 yn7 ye0 ye1 ye2 ye3 
  clear l1 l2 l3 l4 p0 q0 n0 n1 n2 n3 n4 n5 n6 n7 e0 e1 e2 e3 D1 D2 D3 D4
  obtain ⟨l1, l2, l3, l4, p0, q0, n0, n1, n2, n3, n4, n5, n6, n7, e0, e1, e2, e3⟩ := HG.out.below HB2.out
  have D1 := Nat.ne_of_lt l1
  have D2 := Nat.ne_of_lt l2
  have D3 := Nat.ne_of_lt l3
  have D4 := Nat.ne_of_lt l4
  go_wp2
  go_returns
  exact ⟨rfl, HB2.out⟩

set_option maxRecDepth 100000 in
set_option maxHeartbeats 8000000 in
theorem cs0 {w : World} {b1 b2 b3 b4 : Nat} (h : G0 w b1 b2 b3 b4) : Calls Tryz.prog 29 #[.agg #[.slice (some ⟨b1, 0, none⟩) 1 1, .slice (some ⟨b2, 0, none⟩) 1 1, .slice (some ⟨b3, 0, none⟩) 2 2, .slice (some ⟨b4, 0, none⟩) 1 1]] w (Ret (.tuple #[.int .i64 0, .int .i64 0]) w) := by
  have H1 : Hid (∀ W, Below w.heap.size w W → Calls Tryz.prog 54 #[.agg #[.slice (some ⟨b1, 0, none⟩) 1 1, .slice (some ⟨b2, 0, none⟩) 1 1, .slice (some ⟨b3, 0, none⟩) 2 2, .slice (some ⟨b4, 0, none⟩) 1 1], .int .i64 0] W (Ret (.bool true) W)) := fun W hW => sm0 (h.below hW)
  have HG := Lib.hid h
  obtain ⟨l1, l2, l3, l4, p0, q0, n0, n1, n2, n3, n4, n5, n6, n7, e0, e1, e2, e3⟩ := h
  have D1 := Nat.ne_of_lt l1
  have D2 := Nat.ne_of_lt l2
  have D3 := Nat.ne_of_lt l3
  have D4 := Nat.ne_of_lt l4
  go_enter Tryz.func29, Tryz.ntmps29
  go_wp2
  refine wp_loop_rounds 2 ?_
  rw [rounds_succ]
  go_wp2_with fail
  refine gen_c (fun W2 => Below w.heap.size w W2 ∧ W2.cell? ⟨w.heap.size, 0, none⟩ = some (.slice (some ⟨b1, 0, none⟩) 1 1) ∧ W2.cell? ⟨w.heap.size, 1, none⟩ = some (.slice (some ⟨b2, 0, none⟩) 1 1) ∧ W2.cell? ⟨w.heap.size, 2, none⟩ = some (.slice (some ⟨b3, 0, none⟩) 2 2) ∧ W2.cell? ⟨w.heap.size, 3, none⟩ = some (.slice (some ⟨b4, 0, none⟩) 1 1)) ⟨by go_grown, by go_cell, by go_cell, by go_cell, by go_cell⟩ ?_
  rintro w1 ⟨hB, c0, c1, c2, c3⟩
  have HB1 := Lib.hid hB
  clear hB
  clear l1 l2 l3 l4 p0 q0 n0 n1 n2 n3 n4 n5 n6 n7 e0 e1 e2 e3 D1 D2 D3 D4
  obtain ⟨l1, l2, l3, l4, p0, q0, n0, n1, n2, n3, n4, n5, n6, n7, e0, e1, e2, e3⟩ := HG.out.below HB1.out
  have D1 := Nat.ne_of_lt l1
  have D2 := Nat.ne_of_lt l2
  have D3 := Nat.ne_of_lt l3
  have D4 := Nat.ne_of_lt l4
  refine (H1.out _ HB1.out).mono ?_
  rintro e w2 ⟨rfl, hb⟩
  have HB2 := Lib.hid (bstep HB1.out hb HB1.out.size)
  replace c0 := (hb.cell (World.block_lt_of_cell? _ _ c0)).trans c0
  replace c1 := (hb.cell (World.block_lt_of_cell? _ _ c1)).trans c1
  replace c2 := (hb.cell (World.block_lt_of_cell? _ _ c2)).trans c2
  replace c3 := (hb.cell (World.block_lt_of_cell? _ _ c3)).trans c3
  clear hb
  clear l1 l2 l3 l4 p0 q0 n0 n1 n2 n3 n4 n5 n6 n7 e0 e1 e2 e3 D1 D2 D3 D4
  obtain ⟨l1, l2, l3, l4, p0, q0, n0, n1, n2, n3, n4, n5, n6, n7, e0, e1, e2, e3⟩ := HG.out.below HB2.out
  have D1 := Nat.ne_of_lt l1
  have D2 := Nat.ne_of_lt l2
  have D3 := Nat.ne_of_lt l3
  have D4 := Nat.ne_of_lt l4
  go_wp2
  rw [rounds_succ]
  go_wp2
  go_returns
  exact ⟨rfl, HB2.out⟩

set_option maxRecDepth 100000 in
set_option maxHeartbeats 8000000 in
theorem ss0 {w : World} : Calls Tryz.prog 79 #[.agg #[.int .i64 1, .int .i64 0, .int .i64 0, .slice none 0 0]] w (Ret (.bool true) w) := by
  go_enter Tryz.func79, Tryz.ntmps79
  go_wp2
  go_returns
  exact ⟨rfl, by go_grown⟩

set_option maxRecDepth 100000 in
set_option maxHeartbeats 8000000 in
theorem am0 {w : World} : Calls Tryz.prog 81 #[.agg #[.int .i64 1, .int .i64 0, .int .i64 0, .slice none 0 0]] w (Ret (.bool true) w) := by
  go_enter Tryz.func81, Tryz.ntmps81
  go_wp2
  go_returns
  exact ⟨rfl, by go_grown⟩

set_option maxRecDepth 100000 in
set_option maxHeartbeats 8000000 in
theorem pm0 {w : World} : Calls Tryz.prog 82 #[.agg #[.int .i64 1, .int .i64 0, .int .i64 0, .slice none 0 0]] w (Ret (.bool true) w) := by
  go_enter Tryz.func82, Tryz.ntmps82
  go_wp2
  go_returns
  exact ⟨rfl, by go_grown⟩

set_option maxRecDepth 100000 in
set_option maxHeartbeats 8000000 in
theorem sf0 {w : World} {b1 b2 b3 b4 : Nat} (h : G0 w b1 b2 b3 b4) : Calls Tryz.prog 80 #[.agg #[.slice (some ⟨b1, 0, none⟩) 1 1, .slice (some ⟨b2, 0, none⟩) 1 1, .slice (some ⟨b3, 0, none⟩) 2 2, .slice (some ⟨b4, 0, none⟩) 1 1], .int .i64 0] w (Ret (.bool true) w) := by
  have HG := Lib.hid h
  obtain ⟨l1, l2, l3, l4, p0, q0, n0, n1, n2, n3, n4, n5, n6, n7, e0, e1, e2, e3⟩ := h
  have D1 := Nat.ne_of_lt l1
  have D2 := Nat.ne_of_lt l2
  have D3 := Nat.ne_of_lt l3
  have D4 := Nat.ne_of_lt l4
  go_enter Tryz.func80, Tryz.ntmps80
  go_wp2
  go_returns
  exact ⟨rfl, by go_grown⟩

set_option maxRecDepth 100000 in
set_option maxHeartbeats 8000000 in
theorem ss1 {w : World} : Calls Tryz.prog 79 #[.agg #[.int .i64 15, .int .i64 0, .int .i64 0, .slice none 0 0]] w (Ret (.bool true) w) := by
  go_enter Tryz.func79, Tryz.ntmps79
  go_wp2
  go_returns
  exact ⟨rfl, by go_grown⟩

set_option maxRecDepth 100000 in
set_option maxHeartbeats 8000000 in
theorem am1 {w : World} : Calls Tryz.prog 81 #[.agg #[.int .i64 15, .int .i64 0, .int .i64 0, .slice none 0 0]] w (Ret (.bool true) w) := by
  go_enter Tryz.func81, Tryz.ntmps81
  go_wp2
  go_returns
  exact ⟨rfl, by go_grown⟩

set_option maxRecDepth 100000 in
set_option maxHeartbeats 8000000 in
theorem pm1 {w : World} : Calls Tryz.prog 82 #[.agg #[.int .i64 15, .int .i64 0, .int .i64 0, .slice none 0 0]] w (Ret (.bool true) w) := by
  go_enter Tryz.func82, Tryz.ntmps82
  go_wp2
  go_returns
  exact ⟨rfl, by go_grown⟩

set_option maxRecDepth 100000 in
set_option maxHeartbeats 8000000 in
theorem sf1 {w : World} {b1 b2 b3 b4 : Nat} (h : G0 w b1 b2 b3 b4) : Calls Tryz.prog 80 #[.agg #[.slice (some ⟨b1, 0, none⟩) 1 1, .slice (some ⟨b2, 0, none⟩) 1 1, .slice (some ⟨b3, 0, none⟩) 2 2, .slice (some ⟨b4, 0, none⟩) 1 1], .int .i64 1] w (Ret (.bool true) w) := by
  have HG := Lib.hid h
  obtain ⟨l1, l2, l3, l4, p0, q0, n0, n1, n2, n3, n4, n5, n6, n7, e0, e1, e2, e3⟩ := h
  have D1 := Nat.ne_of_lt l1
  have D2 := Nat.ne_of_lt l2
  have D3 := Nat.ne_of_lt l3
  have D4 := Nat.ne_of_lt l4
  go_enter Tryz.func80, Tryz.ntmps80
  go_wp2
  go_returns
  exact ⟨rfl, by go_grown⟩

set_option maxRecDepth 100000 in
set_option maxHeartbeats 8000000 in
theorem cn0 {w : World} {b1 b2 b3 b4 : Nat} (h : G0 w b1 b2 b3 b4) : Calls Tryz.prog 55 #[.agg #[.slice (some ⟨b1, 0, none⟩) 1 1, .slice (some ⟨b2, 0, none⟩) 1 1, .slice (some ⟨b3, 0, none⟩) 2 2, .slice (some ⟨b4, 0, none⟩) 1 1], .int .i64 0] w (Ret (.int .i64 0) w) := by
  have H1 : Hid (∀ W, Below w.heap.size w W → Calls Tryz.prog 79 #[.agg #[.int .i64 1, .int .i64 0, .int .i64 0, .slice none 0 0]] W (Ret (.bool true) W)) := fun W hW => ss0
  have H2 : Hid (∀ W, Below w.heap.size w W → Calls Tryz.prog 80 #[.agg #[.slice (some ⟨b1, 0, none⟩) 1 1, .slice (some ⟨b2, 0, none⟩) 1 1, .slice (some ⟨b3, 0, none⟩) 2 2, .slice (some ⟨b4, 0, none⟩) 1 1], .int .i64 0] W (Ret (.bool true) W)) := fun W hW => sf0 (h.below hW)
  have H3 : Hid (∀ W, Below w.heap.size w W → Calls Tryz.prog 81 #[.agg #[.int .i64 1, .int .i64 0, .int .i64 0, .slice none 0 0]] W (Ret (.bool true) W)) := fun W hW => am0
  have H4 : Hid (∀ W, Below w.heap.size w W → Calls Tryz.prog 82 #[.agg #[.int .i64 1, .int .i64 0, .int .i64 0, .slice none 0 0]] W (Ret (.bool true) W)) := fun W hW => pm0
  have HG := Lib.hid h
  obtain ⟨l1, l2, l3, l4, p0, q0, n0, n1, n2, n3, n4, n5, n6, n7, e0, e1, e2, e3⟩ := h
  have D1 := Nat.ne_of_lt l1
  have D2 := Nat.ne_of_lt l2
  have D3 := Nat.ne_of_lt l3
  have D4 := Nat.ne_of_lt l4
  go_enter Tryz.func55, Tryz.ntmps55
  go_wp2_with fail
  refine gen_c (fun W2 => Below w.heap.size w W2 ∧ W2.cell? ⟨w.heap.size, 0, none⟩ = some (.slice (some ⟨b1, 0, none⟩) 1 1) ∧ W2.cell? ⟨w.heap.size, 1, none⟩ = some (.slice (some ⟨b2, 0, none⟩) 1 1) ∧ W2.cell? ⟨w.heap.size, 2, none⟩ = some (.slice (some ⟨b3, 0, none⟩) 2 2) ∧ W2.cell? ⟨w.heap.size, 3, none⟩ = some (.slice (some ⟨b4, 0, none⟩) 1 1) ∧ W2.cell? ⟨w.heap.size + 1, 0, none⟩ = some (.int .i64 1) ∧ W2.cell? ⟨w.heap.size + 1, 1, none⟩ = some (.int .i64 0) ∧ W2.cell? ⟨w.heap.size + 1, 2, none⟩ = some (.int .i64 0) ∧ W2.cell? ⟨w.heap.size + 1, 3, none⟩ = some (.slice none 0 0)) ⟨by go_grown, by go_cell, by go_cell, by go_cell, by go_cell, by go_cell, by go_cell, by go_cell, by go_cell⟩ ?_
  rintro w1 ⟨hB, c0, c1, c2, c3, c4, c5, c6, c7⟩
  have HB1 := Lib.hid hB
  clear hB
  clear l1 l2 l3 l4 p0 q0 n0 n1 n2 n3 n4 n5 n6 n7 e0 e1 e2 e3 D1 D2 D3 D4
  obtain ⟨l1, l2, l3, l4, p0, q0, n0, n1, n2, n3, n4, n5, n6, n7, e0, e1, e2, e3⟩ := HG.out.below HB1.out
  have D1 := Nat.ne_of_lt l1
  have D2 := Nat.ne_of_lt l2
  have D3 := Nat.ne_of_lt l3
  have D4 := Nat.ne_of_lt l4
  refine (H1.out _ HB1.out).mono ?_
  rintro e w2 ⟨rfl, hb⟩
  have HB2 := Lib.hid (bstep HB1.out hb HB1.out.size)
  replace c0 := (hb.cell (World.block_lt_of_cell? _ _ c0)).trans c0
  replace c1 := (hb.cell (World.block_lt_of_cell? _ _ c1)).trans c1
  replace c2 := (hb.cell (World.block_lt_of_cell? _ _ c2)).trans c2
  replace c3 := (hb.cell (World.block_lt_of_cell? _ _ c3)).trans c3
  replace c4 := (hb.cell (World.block_lt_of_cell? _ _ c4)).trans c4
  replace c5 := (hb.cell (World.block_lt_of_cell? _ _ c5)).trans c5
  replace c6 := (hb.cell (World.block_lt_of_cell? _ _ c6)).trans c6
  replace c7 := (hb.cell (World.block_lt_of_cell? _ _ c7)).trans c7
  clear hb
  clear l1 l2 l3 l4 p0 q0 n0 n1 n2 n3 n4 n5 n6 n7 e0 e1 e2 e3 D1 D2 D3 D4
  obtain ⟨l1, l2, l3, l4, p0, q0, n0, n1, n2, n3, n4, n5, n6, n7, e0, e1, e2, e3⟩ := HG.out.below HB2.out
  have D1 := Nat.ne_of_lt l1
  have D2 := Nat.ne_of_lt l2
  have D3 := Nat.ne_of_lt l3
  have D4 := Nat.ne_of_lt l4
  go_wp2_with fail
  refine (H2.out _ HB2.out).mono ?_
  rintro e w3 ⟨rfl, hb⟩
  have HB3 := Lib.hid (bstep HB2.out hb HB2.out.size)
  replace c0 := (hb.cell (World.block_lt_of_cell? _ _ c0)).trans c0
  replace c1 := (hb.cell (World.block_lt_of_cell? _ _ c1)).trans c1
  replace c2 := (hb.cell (World.block_lt_of_cell? _ _ c2)).trans c2
  replace c3 := (hb.cell (World.block_lt_of_cell? _ _ c3)).trans c3
  replace c4 := (hb.cell (World.block_lt_of_cell? _ _ c4)).trans c4
  replace c5 := (hb.cell (World.block_lt_of_cell? _ _ c5)).trans c5
  replace c6 := (hb.cell (World.block_lt_of_cell? _ _ c6)).trans c6
  replace c7 := (hb.cell (World.block_lt_of_cell? _ _ c7)).trans c7
  clear hb
  clear l1 l2 l3 l4 p0 q0 n0 n1 n2 n3 n4 n5 n6 n7 e0 e1 e2 e3 D1 D2 D3 D4
  obtain ⟨l1, l2, l3, l4, p0, q0, n0, n1, n2, n3, n4, n5, n6, n7, e0, e1, e2, e3⟩ := HG.out.below HB3.out
  have D1 := Nat.ne_of_lt l1
  have D2 := Nat.ne_of_lt l2
  have D3 := Nat.ne_of_lt l3
  have D4 := Nat.ne_of_lt l4
  go_wp2_with fail
  refine (H3.out _ HB3.out).mono ?_
  rintro e w4 ⟨rfl, hb⟩
  have HB4 := Lib.hid (bstep HB3.out hb HB3.out.size)
  replace c0 := (hb.cell (World.block_lt_of_cell? _ _ c0)).trans c0
  replace c1 := (hb.cell (World.block_lt_of_cell? _ _ c1)).trans c1
  replace c2 := (hb.cell (World.block_lt_of_cell? _ _ c2)).trans c2
  replace c3 := (hb.cell (World.block_lt_of_cell? _ _ c3)).trans c3
  replace c4 := (hb.cell (World.block_lt_of_cell? _ _ c4)).trans c4
  replace c5 := (hb.cell (World.block_lt_of_cell? _ _ c5)).trans c5
  replace c6 := (hb.cell (World.block_lt_of_cell? _ _ c6)).trans c6
  replace c7 := (hb.cell (World.block_lt_of_cell? _ _ c7)).trans c7
  clear hb
  clear l1 l2 l3 l4 p0 q0 n0 n1 n2 n3 n4 n5 n6 n7 e0 e1 e2 e3 D1 D2 D3 D4
  obtain ⟨l1, l2, l3, l4, p0, q0, n0, n1, n2, n3, n4, n5, n6, n7, e0, e1, e2, e3⟩ := HG.out.below HB4.out
  have D1 := Nat.ne_of_lt l1
  have D2 := Nat.ne_of_lt l2
  have D3 := Nat.ne_of_lt l3
  have D4 := Nat.ne_of_lt l4
  go_wp2_with fail
  refine (H4.out _ HB4.out).mono ?_
  rintro e w5 ⟨rfl, hb⟩
  have HB5 := Lib.hid (bstep HB4.out hb HB4.out.size)
  replace c0 := (hb.cell (World.block_lt_of_cell? _ _ c0)).trans c0
  replace c1 := (hb.cell (World.block_lt_of_cell? _ _ c1)).trans c1
  replace c2 := (hb.cell (World.block_lt_of_cell? _ _ c2)).trans c2
  replace c3 := (hb.cell (World.block_lt_of_cell? _ _ c3)).trans c3
  replace c4 := (hb.cell (World.block_lt_of_cell? _ _ c4)).trans c4
  replace c5 := (hb.cell (World.block_lt_of_cell? _ _ c5)).trans c5
  replace c6 := (hb.cell (World.block_lt_of_cell? _ _ c6)).trans c6
  replace c7 := (hb.cell (World.block_lt_of_cell? _ _ c7)).trans c7
  clear hb
  clear l1 l2 l3 l4 p0 q0 n0 n1 n2 n3 n4 n5 n6 n7 e0 e1 e2 e3 D1 D2 D3 D4
  obtain ⟨l1, l2, l3, l4, p0, q0, n0, n1, n2, n3, n4, n5, n6, n7, e0, e1, e2, e3⟩ := HG.out.below HB5.out
  have D1 := Nat.ne_of_lt l1
  have D2 := Nat.ne_of_lt l2
  have D3 := Nat.ne_of_lt l3
  have D4 := Nat.ne_of_lt l4
  go_wp2
  go_returns
  exact ⟨rfl, HB5.out⟩

set_option maxRecDepth 100000 in
set_option maxHeartbeats 8000000 in
theorem cn1 {w : World} {b1 b2 b3 b4 : Nat} (h : G0 w b1 b2 b3 b4) : Calls Tryz.prog 55 #[.agg #[.slice (some ⟨b1, 0, none⟩) 1 1, .slice (some ⟨b2, 0, none⟩) 1 1, .slice (some ⟨b3, 0, none⟩) 2 2, .slice (some ⟨b4, 0, none⟩) 1 1], .int .i64 1] w (Ret (.int .i64 0) w) := by
  have H1 : Hid (∀ W, Below w.heap.size w W → Calls Tryz.prog 79 #[.agg #[.int .i64 15, .int .i64 0, .int .i64 0, .slice none 0 0]] W (Ret (.bool true) W)) := fun W hW => ss1
  have H2 : Hid (∀ W, Below w.heap.size w W → Calls Tryz.prog 80 #[.agg #[.slice (some ⟨b1, 0, none⟩) 1 1, .slice (some ⟨b2, 0, none⟩) 1 1, .slice (some ⟨b3, 0, none⟩) 2 2, .slice (some ⟨b4, 0, none⟩) 1 1], .int .i64 1] W (Ret (.bool true) W)) := fun W hW => sf1 (h.below hW)
  have H3 : Hid (∀ W, Below w.heap.size w W → Calls Tryz.prog 81 #[.agg #[.int .i64 15, .int .i64 0, .int .i64 0, .slice none 0 0]] W (Ret (.bool true) W)) := fun W hW => am1
  have H4 : Hid (∀ W, Below w.heap.size w W → Calls Tryz.prog 82 #[.agg #[.int .i64 15, .int .i64 0, .int .i64 0, .slice none 0 0]] W (Ret (.bool true) W)) := fun W hW => pm1
  have HG := Lib.hid h
  obtain ⟨l1, l2, l3, l4, p0, q0, n0, n1, n2, n3, n4, n5, n6, n7, e0, e1, e2, e3⟩ := h
  have D1 := Nat.ne_of_lt l1
  have D2 := Nat.ne_of_lt l2
  have D3 := Nat.ne_of_lt l3
  have D4 := Nat.ne_of_lt l4
  go_enter Tryz.func55, Tryz.ntmps55
  go_wp2_with fail
  refine gen_c (fun W2 => Below w.heap.size w W2 ∧ W2.cell? ⟨w.heap.size, 0, none⟩ = some (.slice (some ⟨b1, 0, none⟩) 1 1) ∧ W2.cell? ⟨w.heap.size, 1, none⟩ = some (.slice (some ⟨b2, 0, none⟩) 1 1) ∧ W2.cell? ⟨w.heap.size, 2, none⟩ = some (.slice (some ⟨b3, 0, none⟩) 2 2) ∧ W2.cell? ⟨w.heap.size, 3, none⟩ = some (.slice (some ⟨b4, 0, none⟩) 1 1) ∧ W2.cell? ⟨w.heap.size + 1, 0, none⟩ = some (.int .i64 15) ∧ W2.cell? ⟨w.heap.size + 1, 1, none⟩ = some (.int .i64 0) ∧ W2.cell? ⟨w.heap.size + 1, 2, none⟩ = some (.int .i64 0) ∧ W2.cell? ⟨w.heap.size + 1, 3, none⟩ = some (.slice none 0 0)) ⟨by go_grown, by go_cell, by go_cell, by go_cell, by go_cell, by go_cell, by go_cell, by go_cell, by go_cell⟩ ?_
  rintro w1 ⟨hB, c0, c1, c2, c3, c4, c5, c6, c7⟩
  have HB1 := Lib.hid hB
  clear hB
  clear l1 l2 l3 l4 p0 q0 n0 n1 n2 n3 n4 n5 n6 n7 e0 e1 e2 e3 D1 D2 D3 D4
  obtain ⟨l1, l2, l3, l4, p0, q0, n0, n1, n2, n3, n4, n5, n6, n7, e0, e1, e2, e3⟩ := HG.out.below HB1.out
  have D1 := Nat.ne_of_lt l1
  have D2 := Nat.ne_of_lt l2
  have D3 := Nat.ne_of_lt l3
  have D4 := Nat.ne_of_lt l4
  refine (H1.out _ HB1.out).mono ?_
  rintro e w2 ⟨rfl, hb⟩
  have HB2 := Lib.hid (bstep HB1.out hb HB1.out.size)
  replace c0 := (hb.cell (World.block_lt_of_cell? _ _ c0)).trans c0
  replace c1 := (hb.cell (World.block_lt_of_cell? _ _ c1)).trans c1
  replace c2 := (hb.cell (World.block_lt_of_cell? _ _ c2)).trans c2
  replace c3 := (hb.cell (World.block_lt_of_cell? _ _ c3)).trans c3
  replace c4 := (hb.cell (World.block_lt_of_cell? _ _ c4)).trans c4
  replace c5 := (hb.cell (World.block_lt_of_cell? _ _ c5)).trans c5
  replace c6 := (hb.cell (World.block_lt_of_cell? _ _ c6)).trans c6
  replace c7 := (hb.cell (World.block_lt_of_cell? _ _ c7)).trans c7
  clear hb
  clear l1 l2 l3 l4 p0 q0 n0 n1 n2 n3 n4 n5 n6 n7 e0 e1 e2 e3 D1 D2 D3 D4
  obtain ⟨l1, l2, l3, l4, p0, q0, n0, n1, n2, n3, n4, n5, n6, n7, e0, e1, e2, e3⟩ := HG.out.below HB2.out
  have D1 := Nat.ne_of_lt l1
  have D2 := Nat.ne_of_lt l2
  have D3 := Nat.ne_of_lt l3
  have D4 := Nat.ne_of_lt l4
  go_wp2_with fail
  refine (H2.out _ HB2.out).mono ?_
  rintro e w3 ⟨rfl, hb⟩
  have HB3 := Lib.hid (bstep HB2.out hb HB2.out.size)
  replace c0 := (hb.cell (World.block_lt_of_cell? _ _ c0)).trans c0
  replace c1 := (hb.cell (World.block_lt_of_cell? _ _ c1)).trans c1
  replace c2 := (hb.cell (World.block_lt_of_cell? _ _ c2)).trans c2
  replace c3 := (hb.cell (World.block_lt_of_cell? _ _ c3)).trans c3
  replace c4 := (hb.cell (World.block_lt_of_cell? _ _ c4)).trans c4
  replace c5 := (hb.cell (World.block_lt_of_cell? _ _ c5)).trans c5
  replace c6 := (hb.cell (World.block_lt_of_cell? _ _ c6)).trans c6
  replace c7 := (hb.cell (World.block_lt_of_cell? _ _ c7)).trans c7
  clear hb
  clear l1 l2 l3 l4 p0 q0 n0 n1 n2 n3 n4 n5 n6 n7 e0 e1 e2 e3 D1 D2 D3 D4
  obtain ⟨l1, l2, l3, l4, p0, q0, n0, n1, n2, n3, n4, n5, n6, n7, e0, e1, e2, e3⟩ := HG.out.below HB3.out
  have D1 := Nat.ne_of_lt l1
  have D2 := Nat.ne_of_lt l2
  have D3 := Nat.ne_of_lt l3
  have D4 := Nat.ne_of_lt l4
  go_wp2_with fail
  refine (H3.out _ HB3.out).mono ?_
  rintro e w4 ⟨rfl, hb⟩
  have HB4 := Lib.hid (bstep HB3.out hb HB3.out.size)
  replace c0 := (hb.cell (World.block_lt_of_cell? _ _ c0)).trans c0
  replace c1 := (hb.cell (World.block_lt_of_cell? _ _ c1)).trans c1
  replace c2 := (hb.cell (World.block_lt_of_cell? _ _ c2)).trans c2
  replace c3 := (hb.cell (World.block_lt_of_cell? _ _ c3)).trans c3
  replace c4 := (hb.cell (World.block_lt_of_cell? _ _ c4)).trans c4
  replace c5 := (hb.cell (World.block_lt_of_cell? _ _ c5)).trans c5
  replace c6 := (hb.cell (World.block_lt_of_cell? _ _ c6)).trans c6
  replace c7 := (hb.cell (World.block_lt_of_cell? _ _ c7)).trans c7
  clear hb
  clear l1 l2 l3 l4 p0 q0 n0 n1 n2 n3 n4 n5 n6 n7 e0 e1 e2 e3 D1 D2 D3 D4
  obtain ⟨l1, l2, l3, l4, p0, q0, n0, n1, n2, n3, n4, n5, n6, n7, e0, e1, e2, e3⟩ := HG.out.below HB4.out
  have D1 := Nat.ne_of_lt l1
  have D2 := Nat.ne_of_lt l2
  have D3 := Nat.ne_of_lt l3
  have D4 := Nat.ne_of_lt l4
  go_wp2_with fail
  refine (H4.out _ HB4.out).mono ?_
  rintro e w5 ⟨rfl, hb⟩
  have HB5 := Lib.hid (bstep HB4.out hb HB4.out.size)
  replace c0 := (hb.cell (World.block_lt_of_cell? _ _ c0)).trans c0
  replace c1 := (hb.cell (World.block_lt_of_cell? _ _ c1)).trans c1
  replace c2 := (hb.cell (World.block_lt_of_cell? _ _ c2)).trans c2
  replace c3 := (hb.cell (World.block_lt_of_cell? _ _ c3)).trans c3
  replace c4 := (hb.cell (World.block_lt_of_cell? _ _ c4)).trans c4
  replace c5 := (hb.cell (World.block_lt_of_cell? _ _ c5)).trans c5
  replace c6 := (hb.cell (World.block_lt_of_cell? _ _ c6)).trans c6
  replace c7 := (hb.cell (World.block_lt_of_cell? _ _ c7)).trans c7
  clear hb
  clear l1 l2 l3 l4 p0 q0 n0 n1 n2 n3 n4 n5 n6 n7 e0 e1 e2 e3 D1 D2 D3 D4
  obtain ⟨l1, l2, l3, l4, p0, q0, n0, n1, n2, n3, n4, n5, n6, n7, e0, e1, e2, e3⟩ := HG.out.below HB5.out
  have D1 := Nat.ne_of_lt l1
  have D2 := Nat.ne_of_lt l2
  have D3 := Nat.ne_of_lt l3
  have D4 := Nat.ne_of_lt l4
  go_wp2
  go_returns
  exact ⟨rfl, HB5.out⟩

set_option maxRecDepth 100000 in
set_option maxHeartbeats 8000000 in
theorem cns {w : World} {b1 b2 b3 b4 : Nat} (h : G0 w b1 b2 b3 b4) : Calls Tryz.prog 30 #[.agg #[.slice (some ⟨b1, 0, none⟩) 1 1, .slice (some ⟨b2, 0, none⟩) 1 1, .slice (some ⟨b3, 0, none⟩) 2 2, .slice (some ⟨b4, 0, none⟩) 1 1]] w (Ret (.tuple #[.int .i64 0, .int .i64 0]) w) := by
  have H1 : Hid (∀ W, Below w.heap.size w W → Calls Tryz.prog 55 #[.agg #[.slice (some ⟨b1, 0, none⟩) 1 1, .slice (some ⟨b2, 0, none⟩) 1 1, .slice (some ⟨b3, 0, none⟩) 2 2, .slice (some ⟨b4, 0, none⟩) 1 1], .int .i64 0] W (Ret (.int .i64 0) W)) := fun W hW => cn0 (h.below hW)
  have H2 : Hid (∀ W, Below w.heap.size w W → Calls Tryz.prog 55 #[.agg #[.slice (some ⟨b1, 0, none⟩) 1 1, .slice (some ⟨b2, 0, none⟩) 1 1, .slice (some ⟨b3, 0, none⟩) 2 2, .slice (some ⟨b4, 0, none⟩) 1 1], .int .i64 1] W (Ret (.int .i64 0) W)) := fun W hW => cn1 (h.below hW)
  have HG := Lib.hid h
  obtain ⟨l1, l2, l3, l4, p0, q0, n0, n1, n2, n3, n4, n5, n6, n7, e0, e1, e2, e3⟩ := h
  have D1 := Nat.ne_of_lt l1
  have D2 := Nat.ne_of_lt l2
  have D3 := Nat.ne_of_lt l3
  have D4 := Nat.ne_of_lt l4
  go_enter Tryz.func30, Tryz.ntmps30
  go_wp2
  refine wp_loop_rounds 3 ?_
  rw [rounds_succ]
  go_wp2_with fail
  refine gen_c (fun W2 => Below w.heap.size w W2 ∧ W2.cell? ⟨w.heap.size, 0, none⟩ = some (.slice (some ⟨b1, 0, none⟩) 1 1) ∧ W2.cell? ⟨w.heap.size, 1, none⟩ = some (.slice (some ⟨b2, 0, none⟩) 1 1) ∧ W2.cell? ⟨w.heap.size, 2, none⟩ = some (.slice (some ⟨b3, 0, none⟩) 2 2) ∧ W2.cell? ⟨w.heap.size, 3, none⟩ = some (.slice (some ⟨b4, 0, none⟩) 1 1)) ⟨by go_grown, by go_cell, by go_cell, by go_cell, by go_cell⟩ ?_
  rintro w1 ⟨hB, c0, c1, c2, c3⟩
  have HB1 := Lib.hid hB
  clear hB
  clear l1 l2 l3 l4 p0 q0 n0 n1 n2 n3 n4 n5 n6 n7 e0 e1 e2 e3 D1 D2 D3 D4
  obtain ⟨l1, l2, l3, l4, p0, q0, n0, n1, n2, n3, n4, n5, n6, n7, e0, e1, e2, e3⟩ := HG.out.below HB1.out
  have D1 := Nat.ne_of_lt l1
  have D2 := Nat.ne_of_lt l2
  have D3 := Nat.ne_of_lt l3
  have D4 := Nat.ne_of_lt l4
  refine (H1.out _ HB1.out).mono ?_
  rintro e w2 ⟨rfl, hb⟩
  have HB2 := Lib.hid (bstep HB1.out hb HB1.out.size)
  replace c0 := (hb.cell (World.block_lt_of_cell? _ _ c0)).trans c0
  replace c1 := (hb.cell (World.block_lt_of_cell? _ _ c1)).trans c1
  replace c2 := (hb.cell (World.block_lt_of_cell? _ _ c2)).trans c2
  replace c3 := (hb.cell (World.block_lt_of_cell? _ _ c3)).trans c3
  clear hb
  clear l1 l2 l3 l4 p0 q0 n0 n1 n2 n3 n4 n5 n6 n7 e0 e1 e2 e3 D1 D2 D3 D4
  obtain ⟨l1, l2, l3, l4, p0, q0, n0, n1, n2, n3, n4, n5, n6, n7, e0, e1, e2, e3⟩ := HG.out.below HB2.out
  have D1 := Nat.ne_of_lt l1
  have D2 := Nat.ne_of_lt l2
  have D3 := Nat.ne_of_lt l3
  have D4 := Nat.ne_of_lt l4
  go_wp2
  rw [rounds_succ]
  go_wp2_with fail
  refine (H2.out _ HB2.out).mono ?_
  rintro e w3 ⟨rfl, hb⟩
  have HB3 := Lib.hid (bstep HB2.out hb HB2.out.size)
  replace c0 := (hb.cell (World.block_lt_of_cell? _ _ c0)).trans c0
  replace c1 := (hb.cell (World.block_lt_of_cell? _ _ c1)).trans c1
  replace c2 := (hb.cell (World.block_lt_of_cell? _ _ c2)).trans c2
  replace c3 := (hb.cell (World.block_lt_of_cell? _ _ c3)).trans c3
  clear hb
  clear l1 l2 l3 l4 p0 q0 n0 n1 n2 n3 n4 n5 n6 n7 e0 e1 e2 e3 D1 D2 D3 D4
  obtain ⟨l1, l2, l3, l4, p0, q0, n0, n1, n2, n3, n4, n5, n6, n7, e0, e1, e2, e3⟩ := HG.out.below HB3.out
  have D1 := Nat.ne_of_lt l1
  have D2 := Nat.ne_of_lt l2
  have D3 := Nat.ne_of_lt l3
  have D4 := Nat.ne_of_lt l4
  go_wp2
  rw [rounds_succ]
  go_wp2
  go_returns
  exact ⟨rfl, HB3.out⟩

set_option maxRecDepth 100000 in
set_option maxHeartbeats 8000000 in
theorem po1 {w : World} : Calls Tryz.prog 57 #[.int .i64 1] w (Ret (.int .i64 0) w) := by
  go_enter Tryz.func57, Tryz.ntmps57
  go_wp2
  go_returns
  exact ⟨rfl, by go_grown⟩

set_option maxRecDepth 100000 in
set_option maxHeartbeats 8000000 in
theorem po15 {w : World} : Calls Tryz.prog 57 #[.int .i64 15] w (Ret (.int .i64 1) w) := by
  go_enter Tryz.func57, Tryz.ntmps57
  go_wp2
  go_returns
  exact ⟨rfl, by go_grown⟩

set_option maxRecDepth 100000 in
set_option maxHeartbeats 8000000 in
theorem ga15 {w : World} : Calls Tryz.prog 85 #[.int .i64 15] w (Ret (.bool false) w) := by
  go_enter Tryz.func85, Tryz.ntmps85
  go_wp2
  go_returns
  exact ⟨rfl, by go_grown⟩

set_option maxRecDepth 100000 in
set_option maxHeartbeats 8000000 in
theorem he0 {w : World} {b1 b2 b3 b4 : Nat} (h : G0 w b1 b2 b3 b4) : Calls Tryz.prog 58 #[.slice (some ⟨b4, 0, none⟩) 0 1, .int .i64 1, .int .i64 0] w (Ret (.bool false) w) := by
  have HG := Lib.hid h
  obtain ⟨l1, l2, l3, l4, p0, q0, n0, n1, n2, n3, n4, n5, n6, n7, e0, e1, e2, e3⟩ := h
  have D1 := Nat.ne_of_lt l1
  have D2 := Nat.ne_of_lt l2
  have D3 := Nat.ne_of_lt l3
  have D4 := Nat.ne_of_lt l4
  go_enter Tryz.func58, Tryz.ntmps58
  go_wp2
  refine wp_loop_rounds 1 ?_
  rw [rounds_succ]
  go_wp2
  go_returns
  exact ⟨rfl, by go_grown⟩

set_option maxRecDepth 100000 in
set_option maxHeartbeats 8000000 in
theorem he1 {w : World} {b1 b2 b3 b4 : Nat} (h : G0 w b1 b2 b3 b4) : Calls Tryz.prog 58 #[.slice (some ⟨b4, 0, none⟩) 1 1, .int .i64 1, .int .i64 0] w (Ret (.bool true) w) := by
  have HG := Lib.hid h
  obtain ⟨l1, l2, l3, l4, p0, q0, n0, n1, n2, n3, n4, n5, n6, n7, e0, e1, e2, e3⟩ := h
  have D1 := Nat.ne_of_lt l1
  have D2 := Nat.ne_of_lt l2
  have D3 := Nat.ne_of_lt l3
  have D4 := Nat.ne_of_lt l4
  go_enter Tryz.func58, Tryz.ntmps58
  go_wp2
  refine wp_loop_rounds 2 ?_
  rw [rounds_succ]
  go_wp2
  go_returns
  exact ⟨rfl, by go_grown⟩

set_option maxRecDepth 100000 in
set_option maxHeartbeats 8000000 in
theorem ea0 {w : World} {b1 b2 b3 b4 : Nat} (h : G0 w b1 b2 b3 b4) : Calls Tryz.prog 83 #[.agg #[.slice (some ⟨b1, 0, none⟩) 1 1, .slice (some ⟨b2, 0, none⟩) 1 1, .slice (some ⟨b3, 0, none⟩) 2 2, .slice (some ⟨b4, 0, none⟩) 1 1], .agg #[.int .i64 0, .int .i64 1, .int .i64 0, .bool false]] w (Ret (.bool true) w) := by
  have H1 : Hid (∀ W, Below w.heap.size w W → Calls Tryz.prog 57 #[.int .i64 15] W (Ret (.int .i64 1) W)) := fun W hW => po15
  have HG := Lib.hid h
  obtain ⟨l1, l2, l3, l4, p0, q0, n0, n1, n2, n3, n4, n5, n6, n7, e0, e1, e2, e3⟩ := h
  have D1 := Nat.ne_of_lt l1
  have D2 := Nat.ne_of_lt l2
  have D3 := Nat.ne_of_lt l3
  have D4 := Nat.ne_of_lt l4
  go_enter Tryz.func83, Tryz.ntmps83
  go_wp2_with fail
  refine gen_world (fun W2 => Below w.heap.size w W2 ∧ W2.cell? ⟨w.heap.size, 0, none⟩ = some (.slice (some ⟨b1, 0, none⟩) 1 1) ∧ W2.cell? ⟨w.heap.size, 1, none⟩ = some (.slice (some ⟨b2, 0, none⟩) 1 1) ∧ W2.cell? ⟨w.heap.size, 2, none⟩ = some (.slice (some ⟨b3, 0, none⟩) 2 2) ∧ W2.cell? ⟨w.heap.size, 3, none⟩ = some (.slice (some ⟨b4, 0, none⟩) 1 1) ∧ W2.cell? ⟨w.heap.size + 1, 0, none⟩ = some (.int .i64 0) ∧ W2.cell? ⟨w.heap.size + 1, 1, none⟩ = some (.int .i64 1) ∧ W2.cell? ⟨w.heap.size + 1, 2, none⟩ = some (.int .i64 0) ∧ W2.cell? ⟨w.heap.size + 1, 3, none⟩ = some (.bool false)) ⟨by go_grown, by go_cell, by go_cell, by go_cell, by go_cell, by go_cell, by go_cell, by go_cell, by go_cell⟩ ?_
  rintro w1 ⟨hB, c0, c1, c2, c3, c4, c5, c6, c7⟩
  have HB1 := Lib.hid hB
  clear hB
  clear l1 l2 l3 l4 p0 q0 n0 n1 n2 n3 n4 n5 n6 n7 e0 e1 e2 e3 D1 D2 D3 D4
  obtain ⟨l1, l2, l3, l4, p0, q0, n0, n1, n2, n3, n4, n5, n6, n7, e0, e1, e2, e3⟩ := HG.out.below HB1.out
  have D1 := Nat.ne_of_lt l1
  have D2 := Nat.ne_of_lt l2
  have D3 := Nat.ne_of_lt l3
  have D4 := Nat.ne_of_lt l4
  have x0 := fun p : Bx w1 => bx_cell c0 p
  have x1 := fun p : Bx w1 => bx_cell c1 p
  have x2 := fun p : Bx w1 => bx_cell c2 p
  have x3 := fun p : Bx w1 => bx_cell c3 p
  have x4 := fun p : Bx w1 => bx_cell c4 p
  have x5 := fun p : Bx w1 => bx_cell c5 p
  have x6 := fun p : Bx w1 => bx_cell c6 p
  have x7 := fun p : Bx w1 => bx_cell c7 p
  have yp0 := fun p : Bx w1 => bx_cell p0 p
  have yq0 := fun p : Bx w1 => bx_cell q0 p
  have yn0 := fun p : Bx w1 => bx_cell n0 p
  have yn1 := fun p : Bx w1 => bx_cell n1 p
  have yn2 := fun p : Bx w1 => bx_cell n2 p
  have yn3 := fun p : Bx w1 => bx_cell n3 p
  have yn4 := fun p : Bx w1 => bx_cell n4 p
  have yn5 := fun p : Bx w1 => bx_cell n5 p
  have yn6 := fun p : Bx w1 => bx_cell n6 p
  have yn7 := fun p : Bx w1 => bx_cell n7 p
  have ye0 := fun p : Bx w1 => bx_cell e0 p
  have ye1 := fun p : Bx w1 => bx_cell e1 p
  have ye2 := fun p : Bx w1 => bx_cell e2 p
  have ye3 := fun p : Bx w1 => bx_cell e3 p
  have KH1 : Hid (∀ p : Bx w1, Calls Tryz.prog 57 #[.int .i64 15] p.w (Ret (.int .i64 1) p.w)) := fun p => H1.out p.w (bstep HB1.out p.h HB1.out.size)
  refine wp_region_bx (by kernel_rfl) (by kernel_rfl) ?_
  repeat (first | go_big_quiet_step (first | (with_reducible exact Calls.bx (KH1.out _)) | fail) | quiet_step (first | (with_reducible exact Calls.bx (KH1.out _)) | fail))
  refine wpQuiet_nil ?_
  intro _ hw'
  obtain ⟨g9, hw''⟩ := hw'
  subst hw''
  have hb := g9.h
  generalize g9.w = w2 at hb ⊢
  clear g9
  have HB2 := Lib.hid (bstep HB1.out hb HB1.out.size)
  replace c0 := (hb.cell (World.block_lt_of_cell? _ _ c0)).trans c0
  replace c1 := (hb.cell (World.block_lt_of_cell? _ _ c1)).trans c1
  replace c2 := (hb.cell (World.block_lt_of_cell? _ _ c2)).trans c2
  replace c3 := (hb.cell (World.block_lt_of_cell? _ _ c3)).trans c3
  replace c4 := (hb.cell (World.block_lt_of_cell? _ _ c4)).trans c4
  replace c5 := (hb.cell (World.block_lt_of_cell? _ _ c5)).trans c5
  replace c6 := (hb.cell (World.block_lt_of_cell? _ _ c6)).trans c6
  replace c7 := (hb.cell (World.block_lt_of_cell? _ _ c7)).trans c7
  clear hb x0 x1 x2 x3 x4 x5 x6 x7 yp0 yq0 yn0 yn1 yn2 yn3 yn4 yn5 yn6 yn7 ye0 ye1 ye2 ye3 KH1
  clear l1 l2 l3 l4 p0 q0 n0 n1 n2 n3 n4 n5 n6 n7 e0 e1 e2 e3 D1 D2 D3 D4
  obtain ⟨l1, l2, l3, l4, p0, q0, n0, n1, n2, n3, n4, n5, n6, n7, e0, e1, e2, e3⟩ := HG.out.below HB2.out
  have D1 := Nat.ne_of_lt l1
  have D2 := Nat.ne_of_lt l2
  have D3 := Nat.ne_of_lt l3
  have D4 := Nat.ne_of_lt l4
  go_wp2
  go_returns
  exact ⟨rfl, HB2.out⟩

set_option maxRecDepth 100000 in
set_option maxHeartbeats 8000000 in
theorem ce0 {w : World} {b1 b2 b3 b4 : Nat} (h : G0 w b1 b2 b3 b4) : Calls Tryz.prog 56 #[.agg #[.slice (some ⟨b1, 0, none⟩) 1 1, .slice (some ⟨b2, 0, none⟩) 1 1, .slice (some ⟨b3, 0, none⟩) 2 2, .slice (some ⟨b4, 0, none⟩) 1 1], .int .i64 0] w (Ret (.int .i64 0) w) := by
  have H1 : Hid (∀ W, Below w.heap.size w W → Calls Tryz.prog 83 #[.agg #[.slice (some ⟨b1, 0, none⟩) 1 1, .slice (some ⟨b2, 0, none⟩) 1 1, .slice (some ⟨b3, 0, none⟩) 2 2, .slice (some ⟨b4, 0, none⟩) 1 1], .agg #[.int .i64 0, .int .i64 1, .int .i64 0, .bool false]] W (Ret (.bool true) W)) := fun W hW => ea0 (h.below hW)
  have H2 : Hid (∀ W, Below w.heap.size w W → Calls Tryz.prog 84 #[.agg #[.slice (some ⟨b1, 0, none⟩) 1 1, .slice (some ⟨b2, 0, none⟩) 1 1, .slice (some ⟨b3, 0, none⟩) 2 2, .slice (some ⟨b4, 0, none⟩) 1 1], .int .i64 0] W (Ret (.int .i64 0) W)) := fun W hW => gi0 (h.below hW)
  have H3 : Hid (∀ W, Below w.heap.size w W → Calls Tryz.prog 61 #[.agg #[.slice (some ⟨b1, 0, none⟩) 1 1, .slice (some ⟨b2, 0, none⟩) 1 1, .slice (some ⟨b3, 0, none⟩) 2 2, .slice (some ⟨b4, 0, none⟩) 1 1], .int .i64 1] W (Ret (.int .i64 0) W)) := fun W hW => ti1 (h.below hW)
  have H4 : Hid (∀ W, Below w.heap.size w W → Calls Tryz.prog 85 #[.int .i64 15] W (Ret (.bool false) W)) := fun W hW => ga15
  have H5 : Hid (∀ W, Below w.heap.size w W → Calls Tryz.prog 58 #[.slice (some ⟨b4, 0, none⟩) 0 1, .int .i64 1, .int .i64 0] W (Ret (.bool false) W)) := fun W hW => he0 (h.below hW)
  have HG := Lib.hid h
  obtain ⟨l1, l2, l3, l4, p0, q0, n0, n1, n2, n3, n4, n5, n6, n7, e0, e1, e2, e3⟩ := h
  have D1 := Nat.ne_of_lt l1
  have D2 := Nat.ne_of_lt l2
  have D3 := Nat.ne_of_lt l3
  have D4 := Nat.ne_of_lt l4
  go_enter Tryz.func56, Tryz.ntmps56
  go_wp2_with fail
  refine gen_c (fun W2 => Below w.heap.size w W2 ∧ W2.cell? ⟨w.heap.size, 0, none⟩ = some (.slice (some ⟨b1, 0, none⟩) 1 1) ∧ W2.cell? ⟨w.heap.size, 1, none⟩ = some (.slice (some ⟨b2, 0, none⟩) 1 1) ∧ W2.cell? ⟨w.heap.size, 2, none⟩ = some (.slice (some ⟨b3, 0, none⟩) 2 2) ∧ W2.cell? ⟨w.heap.size, 3, none⟩ = some (.slice (some ⟨b4, 0, none⟩) 1 1) ∧ W2.cell? ⟨w.heap.size + 1, 0, none⟩ = some (.int .i64 0) ∧ W2.cell? ⟨w.heap.size + 1, 1, none⟩ = some (.int .i64 1) ∧ W2.cell? ⟨w.heap.size + 1, 2, none⟩ = some (.int .i64 0) ∧ W2.cell? ⟨w.heap.size + 1, 3, none⟩ = some (.bool false)) ⟨by go_grown, by go_cell, by go_cell, by go_cell, by go_cell, by go_cell, by go_cell, by go_cell, by go_cell⟩ ?_
  rintro w1 ⟨hB, c0, c1, c2, c3, c4, c5, c6, c7⟩
  have HB1 := Lib.hid hB
  clear hB
  clear l1 l2 l3 l4 p0 q0 n0 n1 n2 n3 n4 n5 n6 n7 e0 e1 e2 e3 D1 D2 D3 D4
  obtain ⟨l1, l2, l3, l4, p0, q0, n0, n1, n2, n3, n4, n5, n6, n7, e0, e1, e2, e3⟩ := HG.out.below HB1.out
  have D1 := Nat.ne_of_lt l1
  have D2 := Nat.ne_of_lt l2
  have D3 := Nat.ne_of_lt l3
  have D4 := Nat.ne_of_lt l4
  refine (H1.out _ HB1.out).mono ?_
  rintro e w2 ⟨rfl, hb⟩
  have HB2 := Lib.hid (bstep HB1.out hb HB1.out.size)
  replace c0 := (hb.cell (World.block_lt_of_cell? _ _ c0)).trans c0
  replace c1 := (hb.cell (World.block_lt_of_cell? _ _ c1)).trans c1
  replace c2 := (hb.cell (World.block_lt_of_cell? _ _ c2)).trans c2
  replace c3 := (hb.cell (World.block_lt_of_cell? _ _ c3)).trans c3
  replace c4 := (hb.cell (World.block_lt_of_cell? _ _ c4)).trans c4
  replace c5 := (hb.cell (World.block_lt_of_cell? _ _ c5)).trans c5
  replace c6 := (hb.cell (World.block_lt_of_cell? _ _ c6)).trans c6
  replace c7 := (hb.cell (World.block_lt_of_cell? _ _ c7)).trans c7
  clear hb
  clear l1 l2 l3 l4 p0 q0 n0 n1 n2 n3 n4 n5 n6 n7 e0 e1 e2 e3 D1 D2 D3 D4
  obtain ⟨l1, l2, l3, l4, p0, q0, n0, n1, n2, n3, n4, n5, n6, n7, e0, e1, e2, e3⟩ := HG.out.below HB2.out
  have D1 := Nat.ne_of_lt l1
  have D2 := Nat.ne_of_lt l2
  have D3 := Nat.ne_of_lt l3
  have D4 := Nat.ne_of_lt l4
  go_wp2_with fail
  have x0 := fun p : Bx w2 => bx_cell c0 p
  have x1 := fun p : Bx w2 => bx_cell c1 p
  have x2 := fun p : Bx w2 => bx_cell c2 p
  have x3 := fun p : Bx w2 => bx_cell c3 p
  have x4 := fun p : Bx w2 => bx_cell c4 p
  have x5 := fun p : Bx w2 => bx_cell c5 p
  have x6 := fun p : Bx w2 => bx_cell c6 p
  have x7 := fun p : Bx w2 => bx_cell c7 p
  have yp0 := fun p : Bx w2 => bx_cell p0 p
  have yq0 := fun p : Bx w2 => bx_cell q0 p
  have yn0 := fun p : Bx w2 => bx_cell n0 p
  have yn1 := fun p : Bx w2 => bx_cell n1 p
  have yn2 := fun p : Bx w2 => bx_cell n2 p
  have yn3 := fun p : Bx w2 => bx_cell n3 p
  have yn4 := fun p : Bx w2 => bx_cell n4 p
  have yn5 := fun p : Bx w2 => bx_cell n5 p
  have yn6 := fun p : Bx w2 => bx_cell n6 p
  have yn7 := fun p : Bx w2 => bx_cell n7 p
  have ye0 := fun p : Bx w2 => bx_cell e0 p
  have ye1 := fun p : Bx w2 => bx_cell e1 p
  have ye2 := fun p : Bx w2 => bx_cell e2 p
  have ye3 := fun p : Bx w2 => bx_cell e3 p
  have KH2 : Hid (∀ p : Bx w2, Calls Tryz.prog 84 #[.agg #[.slice (some ⟨b1, 0, none⟩) 1 1, .slice (some ⟨b2, 0, none⟩) 1 1, .slice (some ⟨b3, 0, none⟩) 2 2, .slice (some ⟨b4, 0, none⟩) 1 1], .int .i64 0] p.w (Ret (.int .i64 0) p.w)) := fun p => H2.out p.w (bstep HB2.out p.h HB2.out.size)
  have KH3 : Hid (∀ p : Bx w2, Calls Tryz.prog 61 #[.agg #[.slice (some ⟨b1, 0, none⟩) 1 1, .slice (some ⟨b2, 0, none⟩) 1 1, .slice (some ⟨b3, 0, none⟩) 2 2, .slice (some ⟨b4, 0, none⟩) 1 1], .int .i64 1] p.w (Ret (.int .i64 0) p.w)) := fun p => H3.out p.w (bstep HB2.out p.h HB2.out.size)
  refine wp_region_bx (by kernel_rfl) (by kernel_rfl) ?_
  repeat (first | go_big_quiet_step (first | (with_reducible exact Calls.bx (KH2.out _)) | (with_reducible exact Calls.bx (KH3.out _)) | fail) | quiet_step (first | (with_reducible exact Calls.bx (KH2.out _)) | (with_reducible exact Calls.bx (KH3.out _)) | fail))
  refine wpQuiet_nil ?_
  intro _ hw'
  obtain ⟨g9, hw''⟩ := hw'
  subst hw''
  have hb := g9.h
  generalize g9.w = w3 at hb ⊢
  clear g9
  have HB3 := Lib.hid (bstep HB2.out hb HB2.out.size)
  replace c0 := (hb.cell (World.block_lt_of_cell? _ _ c0)).trans c0
  replace c1 := (hb.cell (World.block_lt_of_cell? _ _ c1)).trans c1
  replace c2 := (hb.cell (World.block_lt_of_cell? _ _ c2)).trans c2
  replace c3 := (hb.cell (World.block_lt_of_cell? _ _ c3)).trans c3
  replace c4 := (hb.cell (World.block_lt_of_cell? _ _ c4)).trans c4
  replace c5 := (hb.cell (World.block_lt_of_cell? _ _ c5)).trans c5
  replace c6 := (hb.cell (World.block_lt_of_cell? _ _ c6)).trans c6
  replace c7 := (hb.cell (World.block_lt_of_cell? _ _ c7)).trans c7
  clear hb x0 x1 x2 x3 x4 x5 x6 x7 yp0 yq0 yn0 yn1 yn2 yn3 yn4 yn5 yn6 yn7 ye0 ye1 ye2 ye3 KH2 KH3
  clear l1 l2 l3 l4 p0 q0 n0 n1 n2 n3 n4 n5 n6 n7 e0 e1 e2 e3 D1 D2 D3 D4
  obtain ⟨l1, l2, l3, l4, p0, q0, n0, n1, n2, n3, n4, n5, n6, n7, e0, e1, e2, e3⟩ := HG.out.below HB3.out
  have D1 := Nat.ne_of_lt l1
  have D2 := Nat.ne_of_lt l2
  have D3 := Nat.ne_of_lt l3
  have D4 := Nat.ne_of_lt l4
  go_wp2_with fail
  refine (H4.out _ HB3.out).mono ?_
  rintro e w4 ⟨rfl, hb⟩
  have HB4 := Lib.hid (bstep HB3.out hb HB3.out.size)
  replace c0 := (hb.cell (World.block_lt_of_cell? _ _ c0)).trans c0
  replace c1 := (hb.cell (World.block_lt_of_cell? _ _ c1)).trans c1
  replace c2 := (hb.cell (World.block_lt_of_cell? _ _ c2)).trans c2
  replace c3 := (hb.cell (World.block_lt_of_cell? _ _ c3)).trans c3
  replace c4 := (hb.cell (World.block_lt_of_cell? _ _ c4)).trans c4
  replace c5 := (hb.cell (World.block_lt_of_cell? _ _ c5)).trans c5
  replace c6 := (hb.cell (World.block_lt_of_cell? _ _ c6)).trans c6
  replace c7 := (hb.cell (World.block_lt_of_cell? _ _ c7)).trans c7
  clear hb
  clear l1 l2 l3 l4 p0 q0 n0 n1 n2 n3 n4 n5 n6 n7 e0 e1 e2 e3 D1 D2 D3 D4
  obtain ⟨l1, l2, l3, l4, p0, q0, n0, n1, n2, n3, n4, n5, n6, n7, e0, e1, e2, e3⟩ := HG.out.below HB4.out
  have D1 := Nat.ne_of_lt l1
  have D2 := Nat.ne_of_lt l2
  have D3 := Nat.ne_of_lt l3
  have D4 := Nat.ne_of_lt l4
  go_wp2_with fail
  have x0 := fun p : Bx w4 => bx_cell c0 p
  have x1 := fun p : Bx w4 => bx_cell c1 p
  have x2 := fun p : Bx w4 => bx_cell c2 p
  have x3 := fun p : Bx w4 => bx_cell c3 p
  have x4 := fun p : Bx w4 => bx_cell c4 p
  have x5 := fun p : Bx w4 => bx_cell c5 p
  have x6 := fun p : Bx w4 => bx_cell c6 p
  have x7 := fun p : Bx w4 => bx_cell c7 p
  have yp0 := fun p : Bx w4 => bx_cell p0 p
  have yq0 := fun p : Bx w4 => bx_cell q0 p
  have yn0 := fun p : Bx w4 => bx_cell n0 p
  have yn1 := fun p : Bx w4 => bx_cell n1 p
  have yn2 := fun p : Bx w4 => bx_cell n2 p
  have yn3 := fun p : Bx w4 => bx_cell n3 p
  have yn4 := fun p : Bx w4 => bx_cell n4 p
  have yn5 := fun p : Bx w4 => bx_cell n5 p
  have yn6 := fun p : Bx w4 => bx_cell n6 p
  have yn7 := fun p : Bx w4 => bx_cell n7 p
  have ye0 := fun p : Bx w4 => bx_cell e0 p
  have ye1 := fun p : Bx w4 => bx_cell e1 p
  have ye2 := fun p : Bx w4 => bx_cell e2 p
  have ye3 := fun p : Bx w4 => bx_cell e3 p
  have KH5 : Hid (∀ p : Bx w4, Calls Tryz.prog 58 #[.slice (some ⟨b4, 0, none⟩) 0 1, .int .i64 1, .int .i64 0] p.w (Ret (.bool false) p.w)) := fun p => H5.out p.w (bstep HB4.out p.h HB4.out.size)
  refine wp_region_bx (by kernel_rfl) (by kernel_rfl) ?_
  repeat (first | go_big_quiet_step (first | (with_reducible exact Calls.bx (KH5.out _)) | fail) | quiet_step (first | (with_reducible exact Calls.bx (KH5.out _)) | fail))
  refine wpQuiet_nil ?_
  intro _ hw'
  obtain ⟨g9, hw''⟩ := hw'
  subst hw''
  have hb := g9.h
  generalize g9.w = w5 at hb ⊢
  clear g9
  have HB5 := Lib.hid (bstep HB4.out hb HB4.out.size)
  replace c0 := (hb.cell (World.block_lt_of_cell? _ _ c0)).trans c0
  replace c1 := (hb.cell (World.block_lt_of_cell? _ _ c1)).trans c1
  replace c2 := (hb.cell (World.block_lt_of_cell? _ _ c2)).trans c2
  replace c3 := (hb.cell (World.block_lt_of_cell? _ _ c3)).trans c3
  replace c4 := (hb.cell (World.block_lt_of_cell? _ _ c4)).trans c4
  replace c5 := (hb.cell (World.block_lt_of_cell? _ _ c5)).trans c5
  replace c6 := (hb.cell (World.block_lt_of_cell? _ _ c6)).trans c6
  replace c7 := (hb.cell (World.block_lt_of_cell? _ _ c7)).trans c7
  clear hb x0 x1 x2 x3 x4 x5 x6 x7 yp0 yq0 yn0 yn1 yn2 yn3 yn4 yn5 yn6 yn7 ye0 ye1 ye2 ye3 KH5
  clear l1 l2 l3 l4 p0 q0 n0 n1 n2 n3 n4 n5 n6 n7 e0 e1 e2 e3 D1 D2 D3 D4
  obtain ⟨l1, l2, l3, l4, p0, q0, n0, n1, n2, n3, n4, n5, n6, n7, e0, e1, e2, e3⟩ := HG.out.below HB5.out
  have D1 := Nat.ne_of_lt l1
  have D2 := Nat.ne_of_lt l2
  have D3 := Nat.ne_of_lt l3
  have D4 := Nat.ne_of_lt l4
  go_wp2
  go_returns
  exact ⟨rfl, HB5.out⟩

set_option maxRecDepth 100000 in
set_option maxHeartbeats 8000000 in
theorem ces {w : World} {b1 b2 b3 b4 : Nat} (h : G0 w b1 b2 b3 b4) : Calls Tryz.prog 31 #[.agg #[.slice (some ⟨b1, 0, none⟩) 1 1, .slice (some ⟨b2, 0, none⟩) 1 1, .slice (some ⟨b3, 0, none⟩) 2 2, .slice (some ⟨b4, 0, none⟩) 1 1]] w (Ret (.tuple #[.int .i64 0, .int .i64 0]) w) := by
  have H1 : Hid (∀ W, Below w.heap.size w W → Calls Tryz.prog 56 #[.agg #[.slice (some ⟨b1, 0, none⟩) 1 1, .slice (some ⟨b2, 0, none⟩) 1 1, .slice (some ⟨b3, 0, none⟩) 2 2, .slice (some ⟨b4, 0, none⟩) 1 1], .int .i64 0] W (Ret (.int .i64 0) W)) := fun W hW => ce0 (h.below hW)
  have HG := Lib.hid h
  obtain ⟨l1, l2, l3, l4, p0, q0, n0, n1, n2, n3, n4, n5, n6, n7, e0, e1, e2, e3⟩ := h
  have D1 := Nat.ne_of_lt l1
  have D2 := Nat.ne_of_lt l2
  have D3 := Nat.ne_of_lt l3
  have D4 := Nat.ne_of_lt l4
  go_enter Tryz.func31, Tryz.ntmps31
  go_wp2
  refine wp_loop_rounds 2 ?_
  rw [rounds_succ]
  go_wp2_with fail
  refine gen_c (fun W2 => Below w.heap.size w W2 ∧ W2.cell? ⟨w.heap.size, 0, none⟩ = some (.slice (some ⟨b1, 0, none⟩) 1 1) ∧ W2.cell? ⟨w.heap.size, 1, none⟩ = some (.slice (some ⟨b2, 0, none⟩) 1 1) ∧ W2.cell? ⟨w.heap.size, 2, none⟩ = some (.slice (some ⟨b3, 0, none⟩) 2 2) ∧ W2.cell? ⟨w.heap.size, 3, none⟩ = some (.slice (some ⟨b4, 0, none⟩) 1 1)) ⟨by go_grown, by go_cell, by go_cell, by go_cell, by go_cell⟩ ?_
  rintro w1 ⟨hB, c0, c1, c2, c3⟩
  have HB1 := Lib.hid hB
  clear hB
  clear l1 l2 l3 l4 p0 q0 n0 n1 n2 n3 n4 n5 n6 n7 e0 e1 e2 e3 D1 D2 D3 D4
  obtain ⟨l1, l2, l3, l4, p0, q0, n0, n1, n2, n3, n4, n5, n6, n7, e0, e1, e2, e3⟩ := HG.out.below HB1.out
  have D1 := Nat.ne_of_lt l1
  have D2 := Nat.ne_of_lt l2
  have D3 := Nat.ne_of_lt l3
  have D4 := Nat.ne_of_lt l4
  refine (H1.out _ HB1.out).mono ?_
  rintro e w2 ⟨rfl, hb⟩
  have HB2 := Lib.hid (bstep HB1.out hb HB1.out.size)
  replace c0 := (hb.cell (World.block_lt_of_cell? _ _ c0)).trans c0
  replace c1 := (hb.cell (World.block_lt_of_cell? _ _ c1)).trans c1
  replace c2 := (hb.cell (World.block_lt_of_cell? _ _ c2)).trans c2
  replace c3 := (hb.cell (World.block_lt_of_cell? _ _ c3)).trans c3
  clear hb
  clear l1 l2 l3 l4 p0 q0 n0 n1 n2 n3 n4 n5 n6 n7 e0 e1 e2 e3 D1 D2 D3 D4
  obtain ⟨l1, l2, l3, l4, p0, q0, n0, n1, n2, n3, n4, n5, n6, n7, e0, e1, e2, e3⟩ := HG.out.below HB2.out
  have D1 := Nat.ne_of_lt l1
  have D2 := Nat.ne_of_lt l2
  have D3 := Nat.ne_of_lt l3
  have D4 := Nat.ne_of_lt l4
  go_wp2
  rw [rounds_succ]
  go_wp2
  go_returns
  exact ⟨rfl, HB2.out⟩

set_option maxRecDepth 100000 in
set_option maxHeartbeats 8000000 in
theorem cps {w : World} {b1 b2 b3 b4 : Nat} (h : G0 w b1 b2 b3 b4) : Calls Tryz.prog 32 #[.agg #[.slice (some ⟨b1, 0, none⟩) 1 1, .slice (some ⟨b2, 0, none⟩) 1 1, .slice (some ⟨b3, 0, none⟩) 2 2, .slice (some ⟨b4, 0, none⟩) 1 1]] w (Ret (.tuple #[.int .i64 0, .int .i64 0]) w) := by
  have H1 : Hid (∀ W, Below w.heap.size w W → Calls Tryz.prog 57 #[.int .i64 1] W (Ret (.int .i64 0) W)) := fun W hW => po1
  have H2 : Hid (∀ W, Below w.heap.size w W → Calls Tryz.prog 57 #[.int .i64 15] W (Ret (.int .i64 1) W)) := fun W hW => po15
  have H3 : Hid (∀ W, Below w.heap.size w W → Calls Tryz.prog 58 #[.slice (some ⟨b4, 0, none⟩) 1 1, .int .i64 1, .int .i64 0] W (Ret (.bool true) W)) := fun W hW => he1 (h.below hW)
  have HG := Lib.hid h
  obtain ⟨l1, l2, l3, l4, p0, q0, n0, n1, n2, n3, n4, n5, n6, n7, e0, e1, e2, e3⟩ := h
  have D1 := Nat.ne_of_lt l1
  have D2 := Nat.ne_of_lt l2
  have D3 := Nat.ne_of_lt l3
  have D4 := Nat.ne_of_lt l4
  go_enter Tryz.func32, Tryz.ntmps32
  go_wp2
  refine wp_loop_rounds 3 ?_
  rw [rounds_succ]
  go_wp2_with fail
  refine gen_c (fun W2 => Below w.heap.size w W2 ∧ W2.cell? ⟨w.heap.size, 0, none⟩ = some (.slice (some ⟨b1, 0, none⟩) 1 1) ∧ W2.cell? ⟨w.heap.size, 1, none⟩ = some (.slice (some ⟨b2, 0, none⟩) 1 1) ∧ W2.cell? ⟨w.heap.size, 2, none⟩ = some (.slice (some ⟨b3, 0, none⟩) 2 2) ∧ W2.cell? ⟨w.heap.size, 3, none⟩ = some (.slice (some ⟨b4, 0, none⟩) 1 1) ∧ W2.cell? ⟨w.heap.size + 1, 0, none⟩ = some (.int .i64 1) ∧ W2.cell? ⟨w.heap.size + 1, 1, none⟩ = some (.int .i64 0) ∧ W2.cell? ⟨w.heap.size + 1, 2, none⟩ = some (.int .i64 0) ∧ W2.cell? ⟨w.heap.size + 1, 3, none⟩ = some (.slice none 0 0)) ⟨by go_grown, by go_cell, by go_cell, by go_cell, by go_cell, by go_cell, by go_cell, by go_cell, by go_cell⟩ ?_
  rintro w1 ⟨hB, c0, c1, c2, c3, c4, c5, c6, c7⟩
  have HB1 := Lib.hid hB
  clear hB
  clear l1 l2 l3 l4 p0 q0 n0 n1 n2 n3 n4 n5 n6 n7 e0 e1 e2 e3 D1 D2 D3 D4
  obtain ⟨l1, l2, l3, l4, p0, q0, n0, n1, n2, n3, n4, n5, n6, n7, e0, e1, e2, e3⟩ := HG.out.below HB1.out
  have D1 := Nat.ne_of_lt l1
  have D2 := Nat.ne_of_lt l2
  have D3 := Nat.ne_of_lt l3
  have D4 := Nat.ne_of_lt l4
  refine (H1.out _ HB1.out).mono ?_
  rintro e w2 ⟨rfl, hb⟩
  have HB2 := Lib.hid (bstep HB1.out hb HB1.out.size)
  replace c0 := (hb.cell (World.block_lt_of_cell? _ _ c0)).trans c0
  replace c1 := (hb.cell (World.block_lt_of_cell? _ _ c1)).trans c1
  replace c2 := (hb.cell (World.block_lt_of_cell? _ _ c2)).trans c2
  replace c3 := (hb.cell (World.block_lt_of_cell? _ _ c3)).trans c3
  replace c4 := (hb.cell (World.block_lt_of_cell? _ _ c4)).trans c4
  replace c5 := (hb.cell (World.block_lt_of_cell? _ _ c5)).trans c5
  replace c6 := (hb.cell (World.block_lt_of_cell? _ _ c6)).trans c6
  replace c7 := (hb.cell (World.block_lt_of_cell? _ _ c7)).trans c7
  clear hb
  clear l1 l2 l3 l4 p0 q0 n0 n1 n2 n3 n4 n5 n6 n7 e0 e1 e2 e3 D1 D2 D3 D4
  obtain ⟨l1, l2, l3, l4, p0, q0, n0, n1, n2, n3, n4, n5, n6, n7, e0, e1, e2, e3⟩ := HG.out.below HB2.out
  have D1 := Nat.ne_of_lt l1
  have D2 := Nat.ne_of_lt l2
  have D3 := Nat.ne_of_lt l3
  have D4 := Nat.ne_of_lt l4
  go_wp2
  refine wp_loop_rounds 1 ?_
  rw [rounds_succ]
  go_wp2
  rw [rounds_succ]
  go_wp2_with fail
  have Lc := World.block_lt_of_cell? _ _ c0
  have Dc := Nat.ne_of_lt Lc
  refine gen_c (fun W2 => Below w.heap.size w W2 ∧ W2.cell? ⟨w.heap.size, 0, none⟩ = some (.slice (some ⟨b1, 0, none⟩) 1 1) ∧ W2.cell? ⟨w.heap.size, 1, none⟩ = some (.slice (some ⟨b2, 0, none⟩) 1 1) ∧ W2.cell? ⟨w.heap.size, 2, none⟩ = some (.slice (some ⟨b3, 0, none⟩) 2 2) ∧ W2.cell? ⟨w.heap.size, 3, none⟩ = some (.slice (some ⟨b4, 0, none⟩) 1 1)) ⟨by first | (go_grown; done) | exact HB2.out.alloc HB2.out.size _, by go_cell, by go_cell, by go_cell, by go_cell⟩ ?_
  clear c0 c1 c2 c3 c4 c5 c6 c7
  rintro w3 ⟨hB, c0, c1, c2, c3⟩
  have HB3 := Lib.hid hB
  clear hB
  clear l1 l2 l3 l4 p0 q0 n0 n1 n2 n3 n4 n5 n6 n7 e0 e1 e2 e3 D1 D2 D3 D4
  obtain ⟨l1, l2, l3, l4, p0, q0, n0, n1, n2, n3, n4, n5, n6, n7, e0, e1, e2, e3⟩ := HG.out.below HB3.out
  have D1 := Nat.ne_of_lt l1
  have D2 := Nat.ne_of_lt l2
  have D3 := Nat.ne_of_lt l3
  have D4 := Nat.ne_of_lt l4
  refine (H2.out _ HB3.out).mono ?_
  rintro e w4 ⟨rfl, hb⟩
  have HB4 := Lib.hid (bstep HB3.out hb HB3.out.size)
  replace c0 := (hb.cell (World.block_lt_of_cell? _ _ c0)).trans c0
  replace c1 := (hb.cell (World.block_lt_of_cell? _ _ c1)).trans c1
  replace c2 := (hb.cell (World.block_lt_of_cell? _ _ c2)).trans c2
  replace c3 := (hb.cell (World.block_lt_of_cell? _ _ c3)).trans c3
  clear hb
  clear l1 l2 l3 l4 p0 q0 n0 n1 n2 n3 n4 n5 n6 n7 e0 e1 e2 e3 D1 D2 D3 D4
  obtain ⟨l1, l2, l3, l4, p0, q0, n0, n1, n2, n3, n4, n5, n6, n7, e0, e1, e2, e3⟩ := HG.out.below HB4.out
  have D1 := Nat.ne_of_lt l1
  have D2 := Nat.ne_of_lt l2
  have D3 := Nat.ne_of_lt l3
  have D4 := Nat.ne_of_lt l4
  go_wp2
  refine wp_loop_rounds 2 ?_
  rw [rounds_succ]
  go_wp2_with fail
  refine (H3.out _ HB4.out).mono ?_
  rintro e w5 ⟨rfl, hb⟩
  have HB5 := Lib.hid (bstep HB4.out hb HB4.out.size)
  replace c0 := (hb.cell (World.block_lt_of_cell? _ _ c0)).trans c0
  replace c1 := (hb.cell (World.block_lt_of_cell? _ _ c1)).trans c1
  replace c2 := (hb.cell (World.block_lt_of_cell? _ _ c2)).trans c2
  replace c3 := (hb.cell (World.block_lt_of_cell? _ _ c3)).trans c3
  clear hb
  clear l1 l2 l3 l4 p0 q0 n0 n1 n2 n3 n4 n5 n6 n7 e0 e1 e2 e3 D1 D2 D3 D4
  obtain ⟨l1, l2, l3, l4, p0, q0, n0, n1, n2, n3, n4, n5, n6, n7, e0, e1, e2, e3⟩ := HG.out.below HB5.out
  have D1 := Nat.ne_of_lt l1
  have D2 := Nat.ne_of_lt l2
  have D3 := Nat.ne_of_lt l3
  have D4 := Nat.ne_of_lt l4
  go_wp2
  rw [rounds_succ]
  go_wp2
  rw [rounds_succ]
  go_wp2
  go_returns
  exact ⟨rfl, HB5.out⟩

set_option maxRecDepth 100000 in
set_option maxHeartbeats 8000000 in
theorem chk {w : World} {b1 b2 b3 b4 : Nat} (h : G0 w b1 b2 b3 b4) : Calls Tryz.prog 14 #[.agg #[.slice (some ⟨b1, 0, none⟩) 1 1, .slice (some ⟨b2, 0, none⟩) 1 1, .slice (some ⟨b3, 0, none⟩) 2 2, .slice (some ⟨b4, 0, none⟩) 1 1]] w (Ret (.tuple #[.int .i64 0, .int .i64 0]) w) := by
  have H1 : Hid (∀ W, Below w.heap.size w W → Calls Tryz.prog 29 #[.agg #[.slice (some ⟨b1, 0, none⟩) 1 1, .slice (some ⟨b2, 0, none⟩) 1 1, .slice (some ⟨b3, 0, none⟩) 2 2, .slice (some ⟨b4, 0, none⟩) 1 1]] W (Ret (.tuple #[.int .i64 0, .int .i64 0]) W)) := fun W hW => cs0 (h.below hW)
  have H2 : Hid (∀ W, Below w.heap.size w W → Calls Tryz.prog 30 #[.agg #[.slice (some ⟨b1, 0, none⟩) 1 1, .slice (some ⟨b2, 0, none⟩) 1 1, .slice (some ⟨b3, 0, none⟩) 2 2, .slice (some ⟨b4, 0, none⟩) 1 1]] W (Ret (.tuple #[.int .i64 0, .int .i64 0]) W)) := fun W hW => cns (h.below hW)
  have H3 : Hid (∀ W, Below w.heap.size w W → Calls Tryz.prog 31 #[.agg #[.slice (some ⟨b1, 0, none⟩) 1 1, .slice (some ⟨b2, 0, none⟩) 1 1, .slice (some ⟨b3, 0, none⟩) 2 2, .slice (some ⟨b4, 0, none⟩) 1 1]] W (Ret (.tuple #[.int .i64 0, .int .i64 0]) W)) := fun W hW => ces (h.below hW)
  have H4 : Hid (∀ W, Below w.heap.size w W → Calls Tryz.prog 32 #[.agg #[.slice (some ⟨b1, 0, none⟩) 1 1, .slice (some ⟨b2, 0, none⟩) 1 1, .slice (some ⟨b3, 0, none⟩) 2 2, .slice (some ⟨b4, 0, none⟩) 1 1]] W (Ret (.tuple #[.int .i64 0, .int .i64 0]) W)) := fun W hW => cps (h.below hW)
  have HG := Lib.hid h
  obtain ⟨l1, l2, l3, l4, p0, q0, n0, n1, n2, n3, n4, n5, n6, n7, e0, e1, e2, e3⟩ := h
  have D1 := Nat.ne_of_lt l1
  have D2 := Nat.ne_of_lt l2
  have D3 := Nat.ne_of_lt l3
  have D4 := Nat.ne_of_lt l4
  go_enter Tryz.func14, Tryz.ntmps14
  go_wp2
  refine wp_loop_rounds 5 ?_
  rw [rounds_succ]
  go_wp2_with fail
  refine gen_c (fun W2 => Below w.heap.size w W2 ∧ W2.cell? ⟨w.heap.size, 0, none⟩ = some (.slice (some ⟨b1, 0, none⟩) 1 1) ∧ W2.cell? ⟨w.heap.size, 1, none⟩ = some (.slice (some ⟨b2, 0, none⟩) 1 1) ∧ W2.cell? ⟨w.heap.size, 2, none⟩ = some (.slice (some ⟨b3, 0, none⟩) 2 2) ∧ W2.cell? ⟨w.heap.size, 3, none⟩ = some (.slice (some ⟨b4, 0, none⟩) 1 1) ∧ W2.cell? ⟨w.heap.size + 1, 0, none⟩ = some (.func (.func 29) #[] #[]) ∧ W2.cell? ⟨w.heap.size + 1, 1, none⟩ = some (.func (.func 30) #[] #[]) ∧ W2.cell? ⟨w.heap.size + 1, 2, none⟩ = some (.func (.func 31) #[] #[]) ∧ W2.cell? ⟨w.heap.size + 1, 3, none⟩ = some (.func (.func 32) #[] #[])) ⟨by go_grown, by go_cell, by go_cell, by go_cell, by go_cell, by go_cell, by go_cell, by go_cell, by go_cell⟩ ?_
  rintro w1 ⟨hB, c0, c1, c2, c3, c4, c5, c6, c7⟩
  have HB1 := Lib.hid hB
  clear hB
  clear l1 l2 l3 l4 p0 q0 n0 n1 n2 n3 n4 n5 n6 n7 e0 e1 e2 e3 D1 D2 D3 D4
  obtain ⟨l1, l2, l3, l4, p0, q0, n0, n1, n2, n3, n4, n5, n6, n7, e0, e1, e2, e3⟩ := HG.out.below HB1.out
  have D1 := Nat.ne_of_lt l1
  have D2 := Nat.ne_of_lt l2
  have D3 := Nat.ne_of_lt l3
  have D4 := Nat.ne_of_lt l4
  refine (H1.out _ HB1.out).mono ?_
  rintro e w2 ⟨rfl, hb⟩
  have HB2 := Lib.hid (bstep HB1.out hb HB1.out.size)
  replace c0 := (hb.cell (World.block_lt_of_cell? _ _ c0)).trans c0
  replace c1 := (hb.cell (World.block_lt_of_cell? _ _ c1)).trans c1
  replace c2 := (hb.cell (World.block_lt_of_cell? _ _ c2)).trans c2
  replace c3 := (hb.cell (World.block_lt_of_cell? _ _ c3)).trans c3
  replace c4 := (hb.cell (World.block_lt_of_cell? _ _ c4)).trans c4
  replace c5 := (hb.cell (World.block_lt_of_cell? _ _ c5)).trans c5
  replace c6 := (hb.cell (World.block_lt_of_cell? _ _ c6)).trans c6
  replace c7 := (hb.cell (World.block_lt_of_cell? _ _ c7)).trans c7
  clear hb
  clear l1 l2 l3 l4 p0 q0 n0 n1 n2 n3 n4 n5 n6 n7 e0 e1 e2 e3 D1 D2 D3 D4
  obtain ⟨l1, l2, l3, l4, p0, q0, n0, n1, n2, n3, n4, n5, n6, n7, e0, e1, e2, e3⟩ := HG.out.below HB2.out
  have D1 := Nat.ne_of_lt l1
  have D2 := Nat.ne_of_lt l2
  have D3 := Nat.ne_of_lt l3
  have D4 := Nat.ne_of_lt l4
  go_wp2
  rw [rounds_succ]
  go_wp2_with fail
  refine (H2.out _ HB2.out).mono ?_
  rintro e w3 ⟨rfl, hb⟩
  have HB3 := Lib.hid (bstep HB2.out hb HB2.out.size)
  replace c0 := (hb.cell (World.block_lt_of_cell? _ _ c0)).trans c0
  replace c1 := (hb.cell (World.block_lt_of_cell? _ _ c1)).trans c1
  replace c2 := (hb.cell (World.block_lt_of_cell? _ _ c2)).trans c2
  replace c3 := (hb.cell (World.block_lt_of_cell? _ _ c3)).trans c3
  replace c4 := (hb.cell (World.block_lt_of_cell? _ _ c4)).trans c4
  replace c5 := (hb.cell (World.block_lt_of_cell? _ _ c5)).trans c5
  replace c6 := (hb.cell (World.block_lt_of_cell? _ _ c6)).trans c6
  replace c7 := (hb.cell (World.block_lt_of_cell? _ _ c7)).trans c7
  clear hb
  clear l1 l2 l3 l4 p0 q0 n0 n1 n2 n3 n4 n5 n6 n7 e0 e1 e2 e3 D1 D2 D3 D4
  obtain ⟨l1, l2, l3, l4, p0, q0, n0, n1, n2, n3, n4, n5, n6, n7, e0, e1, e2, e3⟩ := HG.out.below HB3.out
  have D1 := Nat.ne_of_lt l1
  have D2 := Nat.ne_of_lt l2
  have D3 := Nat.ne_of_lt l3
  have D4 := Nat.ne_of_lt l4
  go_wp2
  rw [rounds_succ]
  go_wp2_with fail
  refine (H3.out _ HB3.out).mono ?_
  rintro e w4 ⟨rfl, hb⟩
  have HB4 := Lib.hid (bstep HB3.out hb HB3.out.size)
  replace c0 := (hb.cell (World.block_lt_of_cell? _ _ c0)).trans c0
  replace c1 := (hb.cell (World.block_lt_of_cell? _ _ c1)).trans c1
  replace c2 := (hb.cell (World.block_lt_of_cell? _ _ c2)).trans c2
  replace c3 := (hb.cell (World.block_lt_of_cell? _ _ c3)).trans c3
  replace c4 := (hb.cell (World.block_lt_of_cell? _ _ c4)).trans c4
  replace c5 := (hb.cell (World.block_lt_of_cell? _ _ c5)).trans c5
  replace c6 := (hb.cell (World.block_lt_of_cell? _ _ c6)).trans c6
  replace c7 := (hb.cell (World.block_lt_of_cell? _ _ c7)).trans c7
  clear hb
  clear l1 l2 l3 l4 p0 q0 n0 n1 n2 n3 n4 n5 n6 n7 e0 e1 e2 e3 D1 D2 D3 D4
  obtain ⟨l1, l2, l3, l4, p0, q0, n0, n1, n2, n3, n4, n5, n6, n7, e0, e1, e2, e3⟩ := HG.out.below HB4.out
  have D1 := Nat.ne_of_lt l1
  have D2 := Nat.ne_of_lt l2
  have D3 := Nat.ne_of_lt l3
  have D4 := Nat.ne_of_lt l4
  go_wp2
  rw [rounds_succ]
  go_wp2_with fail
  refine (H4.out _ HB4.out).mono ?_
  rintro e w5 ⟨rfl, hb⟩
  have HB5 := Lib.hid (bstep HB4.out hb HB4.out.size)
  replace c0 := (hb.cell (World.block_lt_of_cell? _ _ c0)).trans c0
  replace c1 := (hb.cell (World.block_lt_of_cell? _ _ c1)).trans c1
  replace c2 := (hb.cell (World.block_lt_of_cell? _ _ c2)).trans c2
  replace c3 := (hb.cell (World.block_lt_of_cell? _ _ c3)).trans c3
  replace c4 := (hb.cell (World.block_lt_of_cell? _ _ c4)).trans c4
  replace c5 := (hb.cell (World.block_lt_of_cell? _ _ c5)).trans c5
  replace c6 := (hb.cell (World.block_lt_of_cell? _ _ c6)).trans c6
  replace c7 := (hb.cell (World.block_lt_of_cell? _ _ c7)).trans c7
  clear hb
  clear l1 l2 l3 l4 p0 q0 n0 n1 n2 n3 n4 n5 n6 n7 e0 e1 e2 e3 D1 D2 D3 D4
  obtain ⟨l1, l2, l3, l4, p0, q0, n0, n1, n2, n3, n4, n5, n6, n7, e0, e1, e2, e3⟩ := HG.out.below HB5.out
  have D1 := Nat.ne_of_lt l1
  have D2 := Nat.ne_of_lt l2
  have D3 := Nat.ne_of_lt l3
  have D4 := Nat.ne_of_lt l4
  go_wp2
  rw [rounds_succ]
  go_wp2
  go_returns
  exact ⟨rfl, HB5.out⟩
end Go.Proofs.YtjaahmgokiobjaaGreat
