/- graph.Put -/
import Derived.Test.YtdhmoiiagplbpaaVzb
import Derived.Test.YtdhmoiiagplbpaaVzc
import Derived.Test.YtdhmoiiagplbpaaVo
namespace Go.Proofs.Ytdhmoiiagplbpaa
open Go.RowKit
set_option linter.unusedVariables false
set_option linter.unusedSimpArgs false

theorem fitsG_parts (g : GV) : fitsG g ↔ fitsS g.parent g.bound ∧ (g.nodes.length ≤ 32 ∧ ∀ x ∈ g.nodes, fitsN x) ∧ (g.edges.length ≤ 64 ∧ ∀ e ∈ g.edges, fitsE e) := by
  unfold fitsG fitsS
  constructor
  · rintro ⟨h1, h2, h3, h4, h5, h6, h7, h8, h9, h10, h11⟩
    exact ⟨⟨h1, h2, h3, h6, h7, h8, h9⟩, ⟨h4, h10⟩, ⟨h5, h11⟩⟩
  · rintro ⟨⟨h1, h2, h3, h6, h7, h8, h9⟩, ⟨h4, h10⟩, ⟨h5, h11⟩⟩
    exact ⟨h1, h2, h3, h4, h5, h6, h7, h8, h9, h10, h11⟩
theorem litB (W : World) : RB.Row (W.alloc (.cells #[.int .u8 66, .int .u8 87, .int .u8 49] 5 (3, 4))) W.heap.size 0 [66, 87, 49] := by
  intro j hj i u hu
  have hi : i = 0 := by
    have := (List.getElem?_eq_some_iff.1 hu).1
    have h1 : (RB.enc ([66, 87, 49] : List Int)[j]!).length = 1 := rfl
    omega
  subst hi
  have hu : some (Value.int .u8 ([66, 87, 49] : List Int)[j]!) = some u := hu
  rw [← hu]
  have hj : j < 3 := hj
  have e : RB.k = 1 := rfl
  unfold World.cell?
  rw [heap_alloc_new]
  rcases (by omega : j = 0 ∨ j = 1 ∨ j = 2) with rfl | rfl | rfl <;> rfl
theorem OwnF.cap {B : Nat} {w : World} {v : Value} {bs : List Int} (h : OwnF B w v bs) : capOk v := by
  rcases h with ⟨_, ⟨rfl, _⟩ | ⟨g, cap, cur, rfl, _, _, hle, _⟩⟩ | ⟨_, b, off, rfl, _⟩
  · intro p n c e; cases e; exact Nat.le_refl _
  · intro p n c e; cases e; exact hle
  · intro p n c e; cases e; exact Nat.le_refl _
def PutY (g : GV) (w : World) (e : Ending) (w' : World) : Prop := ∃ u, e = .returned (.tuple #[u, .int .i64 0]) ∧ RB.Is w' u (putG g) ∧ capOk u ∧ Below w.heap.size w w'
set_option maxRecDepth 100000 in
set_option maxHeartbeats 8000000 in
theorem pput_no (g : GV) (v : Value) (w : World) (h : IsG w v g) (hr : roomG v) (hf : ¬ fitsG g) : Calls Try.prog 9 #[v] w (Ret (.tuple #[.slice none 0 0, .int .i64 1]) w) := by
  have H1 := Lib.hid (fun W (hW : Below w.heap.size w W) => sfits_any g v W (h.below hW) hr)
  rw [fitsG_parts] at hf
  obtain ⟨pv, bv, nv, ev, rfl, h1, h2, h3, h4⟩ := h
  have H2 := Lib.hid (fun W (hW : Below w.heap.size w W) => nfits_any g.nodes nv W (h3.below hW))
  have H3 := Lib.hid (fun W (hW : Below w.heap.size w W) => efits_any g.edges ev W (h4.below hW))
  have hno : decide (fitsS g.parent g.bound) = false ∨ decide (g.nodes.length ≤ 32 ∧ ∀ x ∈ g.nodes, fitsN x) = false ∨ decide (g.edges.length ≤ 64 ∧ ∀ e ∈ g.edges, fitsE e) = false := by
    by_cases e1 : fitsS g.parent g.bound
    · by_cases e2 : g.nodes.length ≤ 32 ∧ ∀ x ∈ g.nodes, fitsN x
      · exact .inr (.inr (decide_eq_false (fun e3 => hf ⟨e1, e2, e3⟩)))
      · exact .inr (.inl (decide_eq_false e2))
    · exact .inl (decide_eq_false e1)
  clear hf hr
  generalize decide (fitsS g.parent g.bound) = f1 at *
  generalize decide (g.nodes.length ≤ 32 ∧ ∀ x ∈ g.nodes, fitsN x) = f2 at *
  generalize decide (g.edges.length ≤ 64 ∧ ∀ e ∈ g.edges, fitsE e) = f3 at *
  obtain ⟨p1, c1, rfl⟩ := h1.slice
  obtain ⟨p2, c2, rfl⟩ := h2.slice
  obtain ⟨x3, h3, _⟩ := h3
  obtain ⟨p3, c3, rfl⟩ := h3.slice
  obtain ⟨p4, c4, rfl⟩ := h4.slice
  clear h1 h2 h3 h4
  generalize g.parent.length = n1 at *
  generalize g.bound.length = n2 at *
  generalize x3.length = n3 at *
  generalize g.edges.length = n4 at *
  have HX : Hid (rowOf (w.alloc (.cells #[.slice p1 n1 c1, .slice p2 n2 c2, .slice p3 n3 c3, .slice p4 n4 c4] 26)) w.heap.size = some #[.slice p1 n1 c1, .slice p2 n2 c2, .slice p3 n3 c3, .slice p4 n4 c4]) := row_new rfl
  have HB0 := Lib.hid ((Below.refl w.heap.size w).alloc (Nat.le_refl _) (.cells #[.slice p1 n1 c1, .slice p2 n2 c2, .slice p3 n3 c3, .slice p4 n4 c4] 26))
  go_enter Try.func9, Try.ntmps9
  go_wp2_with fail
  refine (H1.out _ HB0.out).mono ?_
  rintro e w1 ⟨rfl, hb⟩
  have HB1 := Lib.hid (HB0.out.trans (hb.mono HB0.out.size))
  have hx := rowOf_below HX.out hb (rowOf_lt HX.out)
  have z2 : w1.cell? ⟨w.heap.size, 2, none⟩ = some (.slice p3 n3 c3) := rowOf_cell hx 2
  have HX1 := Lib.hid hx
  clear hb hx HX HB0 H1
  cases f1
  · clear hno
    go_wp2
    go_returns
    exact ⟨rfl, HB1.out⟩
  go_wp2_with fail
  refine (H2.out _ HB1.out).mono ?_
  rintro e w2 ⟨rfl, hb⟩
  have HB2 := Lib.hid (HB1.out.trans (hb.mono HB1.out.size))
  have hx := rowOf_below HX1.out hb (rowOf_lt HX1.out)
  have z3 : w2.cell? ⟨w.heap.size, 3, none⟩ = some (.slice p4 n4 c4) := rowOf_cell hx 3
  clear hb hx HX1 HB1 H2 z2
  cases f2
  · clear hno
    go_wp2
    go_returns
    exact ⟨rfl, HB2.out⟩
  go_wp2_with fail
  refine (H3.out _ HB2.out).mono ?_
  rintro e w3 ⟨rfl, hb⟩
  have HB3 := Lib.hid (HB2.out.trans (hb.mono HB2.out.size))
  clear hb HB2 H3 z3
  obtain rfl : f3 = false := by
    rcases hno with h | h | h
    · cases h
    · cases h
    · exact h
  go_wp2
  go_returns
  exact ⟨rfl, HB3.out⟩
set_option maxRecDepth 100000 in
set_option maxHeartbeats 8000000 in
theorem pput_yes (g : GV) (v : Value) (w : World) (h : IsG w v g) (hr : roomG v) (hf : fitsG g) (hok : okG g) : Calls Try.prog 9 #[v] w (PutY g w) := by
  have H1 := Lib.hid (fun W (hW : Below w.heap.size w W) => sfits_any g v W (h.below hW) hr)
  have hstart := putG_start hf
  have hlen := putG_len hf hok
  have hf2 := (fitsG_parts g).1 hf
  obtain ⟨f1, f2, f3⟩ := hf2
  rw [decide_eq_true f1] at H1
  obtain ⟨pv, bv, nv, ev, rfl, h1, h2, h3, h4⟩ := h
  have H2 := Lib.hid (fun W (hW : Below w.heap.size w W) => nfits_any g.nodes nv W (h3.below hW))
  have H3 := Lib.hid (fun W (hW : Below w.heap.size w W) => efits_any g.edges ev W (h4.below hW))
  rw [decide_eq_true f2] at H2
  rw [decide_eq_true f3] at H3
  have K2 := Lib.hid (fun (bs : List Int) (u : Value) (W : World) (hW : Below w.heap.size w W) (ho : OwnF w.heap.size W u bs) (ht : bs ++ (bytesOf g.nodes.length ++ tailN g 0) = putG g) => pnodes_any g u bs (putG g) nv w W f2 hok hW h3 ho ht (Nat.le_trans hlen (by decide)))
  have K3 := Lib.hid (fun (bs : List Int) (u : Value) (W : World) (hW : Below w.heap.size w W) (ho : OwnF w.heap.size W u bs) (ht : bs ++ (bytesOf g.edges.length ++ tailE g 0) = putG g) => pedges_any g u bs (putG g) ev w W f3 hW h4 ho ht (Nat.le_trans hlen (by decide)))
  obtain ⟨x3, h3, _⟩ := h3
  obtain ⟨p3, c3, rfl⟩ := h3.slice
  obtain ⟨p4, c4, rfl⟩ := h4.slice
  obtain ⟨p1, c1, rfl⟩ := h1.slice
  obtain ⟨p2, c2, rfl⟩ := h2.slice
  generalize x3.length = n3 at *
  have K1 := Lib.hid (fun (bs : List Int) (u : Value) (W : World) (hW : Below w.heap.size w W) (ho : OwnF w.heap.size W u bs) (ht : bs ++ (bytesOf g.parent.length ++ tailS g 0) = putG g) => show Calls Try.prog 19 #[u, .agg #[.slice p1 g.parent.length c1, .slice p2 g.bound.length c2, .slice p3 n3 c3, .slice p4 g.edges.length c4]] W (PutT w.heap.size W u (bytesOf g.nodes.length ++ tailN g 0) (putG g)) from by
    rcases h1 with ⟨e, _⟩ | ⟨_, b, off, c, e, hb, hrow⟩
    · have := f1.1; rw [e] at this; simp at this
    rcases h2 with ⟨e2, _⟩ | ⟨_, b2, off2, c', e2, hb2, hrow2⟩
    · have h0 := f1.1; have := f1.2.2.1; rw [e2] at this; rw [this] at h0; simp at h0
    simp only [Value.slice.injEq] at e e2
    obtain ⟨rfl, _, rfl⟩ := e
    obtain ⟨rfl, _, rfl⟩ := e2
    exact pscopes_any g u bs (putG g) b off c1 b2 off2 c2 p3 p4 n3 c3 g.edges.length c4 w W f1 hW hb hrow hb2 hrow2 ho ht (Nat.le_trans hlen (by decide)))
  generalize g.edges.length = n4 at *
  have HSt := Lib.hid hstart
  clear h1 h2 h3 h4 hr hf hok hstart hlen f1 f2 f3
  unfold PutY
  generalize g.parent.length = n1 at *
  generalize g.bound.length = n2 at *
  generalize putG g = tot at *
  have HX : Hid ((w.alloc (.cells #[.slice p1 n1 c1, .slice p2 n2 c2, .slice p3 n3 c3, .slice p4 n4 c4] 26)).heap[w.heap.size]? = some (.cells #[.slice p1 n1 c1, .slice p2 n2 c2, .slice p3 n3 c3, .slice p4 n4 c4] 26 (0, 0))) := heap_alloc_new w _
  have HB0 := Lib.hid ((Below.refl w.heap.size w).alloc (Nat.le_refl _) (.cells #[.slice p1 n1 c1, .slice p2 n2 c2, .slice p3 n3 c3, .slice p4 n4 c4] 26))
  have hXl : w.heap.size < (w.alloc (.cells #[.slice p1 n1 c1, .slice p2 n2 c2, .slice p3 n3 c3, .slice p4 n4 c4] 26)).heap.size := by simp
  have HXl := Lib.hid hXl
  clear hXl
  have ROW : ∀ W : World, W.heap[w.heap.size]? = some (.cells #[.slice p1 n1 c1, .slice p2 n2 c2, .slice p3 n3 c3, .slice p4 n4 c4] 26 (0, 0)) → rowOf W w.heap.size = some #[.slice p1 n1 c1, .slice p2 n2 c2, .slice p3 n3 c3, .slice p4 n4 c4] := fun W hW => by unfold rowOf; rw [hW]; rfl
  have HROW := Lib.hid ROW
  clear ROW
  go_enter Try.func9, Try.ntmps9
  go_wp2_with fail
  refine (H1.out _ HB0.out).mono ?_
  rintro e w1 ⟨rfl, hb⟩
  have HB1 := Lib.hid (HB0.out.trans (hb.mono HB0.out.size))
  have HX1 := Lib.hid ((hb.block w.heap.size HXl.out).trans HX.out)
  have z2 : w1.cell? ⟨w.heap.size, 2, none⟩ = some (.slice p3 n3 c3) := rowOf_cell (HROW.out _ HX1.out) 2
  clear hb HX HB0 H1 HXl
  go_wp2_with fail
  refine (H2.out _ HB1.out).mono ?_
  rintro e w2 ⟨rfl, hb⟩
  have HB2 := Lib.hid (HB1.out.trans (hb.mono HB1.out.size))
  have HX2 := Lib.hid ((hb.block w.heap.size (Array.getElem?_eq_some_iff.1 HX1.out).1).trans HX1.out)
  have z3 : w2.cell? ⟨w.heap.size, 3, none⟩ = some (.slice p4 n4 c4) := rowOf_cell (HROW.out _ HX2.out) 3
  clear hb HX1 HB1 H2 z2
  go_wp2_with fail
  refine (H3.out _ HB2.out).mono ?_
  rintro e w3 ⟨rfl, hb⟩
  have HB3 := Lib.hid (HB2.out.trans (hb.mono HB2.out.size))
  have hX3 := (hb.block w.heap.size (Array.getElem?_eq_some_iff.1 HX2.out).1).trans HX2.out
  have hX3l := (Array.getElem?_eq_some_iff.1 hX3).1
  have kc := Lib.run_convert_bytes_const (P := Try.prog) w3 29 5 #[.int .u8 66, .int .u8 87, .int .u8 49] 3 3 Try.underlying29 Try.underlying5
  have kc : (convert 29 29 (.slice (some ⟨w3.heap.size, 0, none⟩) 3 3)).run Try.prog (w3.alloc (.cells #[.int .u8 66, .int .u8 87, .int .u8 49] 5)) = .ok (.slice (some ⟨w3.heap.size, 0, none⟩) 3 3) (w3.alloc (.cells #[.int .u8 66, .int .u8 87, .int .u8 49] 5 (3, 4))) := kc
  have hXL := (Below.heap_alloc w3 (.cells #[.int .u8 66, .int .u8 87, .int .u8 49] 5 (3, 4)) w.heap.size hX3l).trans hX3
  have HXL := Lib.hid hXL
  have HBL := Lib.hid (HB3.out.alloc HB3.out.size (.cells #[.int .u8 66, .int .u8 87, .int .u8 49] 5 (3, 4)))
  have hOL : OwnF w.heap.size (w3.alloc (.cells #[.int .u8 66, .int .u8 87, .int .u8 49] 5 (3, 4))) (.slice (some ⟨w3.heap.size, 0, none⟩) 3 3) [66, 87, 49] := .inr ⟨by simp, w3.heap.size, 0, rfl, HB3.out.size, by simp, litB w3⟩
  have HOL := Lib.hid hOL
  have HvB := Lib.hid (fun k (hk : (Value.slice (some ⟨w3.heap.size, 0, none⟩) 3 3).ownBlock = some k) => (hOL.lt k hk).1)
  have HAp : Hid ((Value.slice (some ⟨w3.heap.size, 0, none⟩) 3 3).ownBlock ≠ some w.heap.size) := fun e => by
    have e : w3.heap.size = w.heap.size := Option.some.inj e
    omega
  have y0 : (w3.alloc (.cells #[.int .u8 66, .int .u8 87, .int .u8 49] 5 (3, 4))).cell? ⟨w.heap.size, 0, none⟩ = some (.slice p1 n1 c1) := rowOf_cell (HROW.out _ hXL) 0
  have y1 : (w3.alloc (.cells #[.int .u8 66, .int .u8 87, .int .u8 49] 5 (3, 4))).cell? ⟨w.heap.size, 1, none⟩ = some (.slice p2 n2 c2) := rowOf_cell (HROW.out _ hXL) 1
  have y2 : (w3.alloc (.cells #[.int .u8 66, .int .u8 87, .int .u8 49] 5 (3, 4))).cell? ⟨w.heap.size, 2, none⟩ = some (.slice p3 n3 c3) := rowOf_cell (HROW.out _ hXL) 2
  have y3 : (w3.alloc (.cells #[.int .u8 66, .int .u8 87, .int .u8 49] 5 (3, 4))).cell? ⟨w.heap.size, 3, none⟩ = some (.slice p4 n4 c4) := rowOf_cell (HROW.out _ hXL) 3
  have HK := Lib.hid (K1.out [66, 87, 49] _ _ HBL.out hOL HSt.out.symm)
  clear hb HX2 HB2 H3 z3 hX3 hX3l HB3 hXL hOL K1 HSt
  go_wp2_with fail
  refine (HK.out).mono ?_
  rintro e w5 ⟨v5, ys5, rfl, hO5, ht5, hA5⟩
  have HB5 := Lib.hid (hA5.below HBL.out HBL.out.size HvB.out)
  have hX5 := hA5.row HXL.out HAp.out
  have HA5 := Lib.hid hA5
  have z2 : w5.cell? ⟨w.heap.size, 2, none⟩ = some (.slice p3 n3 c3) := rowOf_cell (HROW.out _ hX5) 2
  have HK := Lib.hid (K2.out ys5 v5 w5 HB5.out hO5 ht5)
  clear hX5 hO5 ht5 hA5 K2 kc y0 y1 y2 y3 HOL
  go_wp2_with fail
  refine (HK.out).mono ?_
  rintro e w6 ⟨v6, ys6, rfl, hO6, ht6, hA6⟩
  have HA6 := Lib.hid (HA5.out.trans hA6)
  have HB6 := Lib.hid (HA6.out.below HBL.out HBL.out.size HvB.out)
  have hX6 := HA6.out.row HXL.out HAp.out
  have z3 : w6.cell? ⟨w.heap.size, 3, none⟩ = some (.slice p4 n4 c4) := rowOf_cell (HROW.out _ hX6) 3
  have HK := Lib.hid (K3.out ys6 v6 w6 HB6.out hO6 ht6)
  clear hX6 hO6 ht6 hA6 K3 z2 HA5 HB5
  go_wp2_with fail
  refine (HK.out).mono ?_
  rintro e w7 ⟨v7, ys7, rfl, hO7, ht7, hA7⟩
  have HA7 := Lib.hid (HA6.out.trans hA7)
  have HB7 := Lib.hid (HA7.out.below HBL.out HBL.out.size HvB.out)
  rw [List.append_nil] at ht7
  subst ht7
  have HO7 := Lib.hid hO7.is
  have HC7 := Lib.hid hO7.cap
  clear hO7 hA7 z3 HA6 HB6
  go_wp2
  go_returns
  exact ⟨_, rfl, HO7.out, HC7.out, HB7.out⟩
end Go.Proofs.Ytdhmoiiagplbpaa
