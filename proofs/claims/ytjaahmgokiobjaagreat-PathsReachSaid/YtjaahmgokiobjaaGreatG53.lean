/- awake: the table of an input and a sink behind it -/
import Derived.Test.YtjaahmgokiobjaaGreatG40
import Derived.Test.YtjaahmgokiobjaaGreatG52
import Derived.Test.YtjaahmgokiobjaaGreatG51
import Derived.Test.YtjaahmgokiobjaaGreatG45
import Derived.Deep.RegionHeldLaw
import Derived.Deep.CutRange
namespace Go.Proofs.YtjaahmgokiobjaaGreat
open Go.RowKit
set_option linter.unusedVariables false
set_option linter.unusedSimpArgs false

def g0 : GV := ⟨[-1], [0], [⟨1, 0, 0, []⟩, ⟨15, 0, 0, []⟩], [⟨0, 1, 0, false⟩]⟩
theorem g0_is {w : World} {b1 b2 b3 b4 : Nat} (h : G0 w b1 b2 b3 b4) : IsG w (.agg #[.slice (some ⟨b1, 0, none⟩) 1 1, .slice (some ⟨b2, 0, none⟩) 1 1, .slice (some ⟨b3, 0, none⟩) 2 2, .slice (some ⟨b4, 0, none⟩) 1 1]) g0 := by
  obtain ⟨l1, l2, l3, l4, p0, q0, n0, n1, n2, n3, n4, n5, n6, n7, e0, e1, e2, e3⟩ := h
  refine ⟨_, _, _, _, rfl, .inr ⟨by simp [g0], b1, 0, 1, rfl, l1, ?_⟩, .inr ⟨by simp [g0], b2, 0, 1, rfl, l2, ?_⟩, ⟨[⟨1, 0, 0, none, 0, 0⟩, ⟨15, 0, 0, none, 0, 0⟩], .inr ⟨by simp, b3, 0, 2, rfl, l3, ?_⟩, rfl, ?_⟩, .inr ⟨by simp [g0], b4, 0, 1, rfl, l4, ?_⟩⟩
  · intro j hj i u hu
    obtain rfl : j = 0 := by simp [g0] at hj; omega
    have hi : i = 0 := by have := (List.getElem?_eq_some_iff.1 hu).1; have e : (RN.enc g0.parent[0]!).length = 1 := rfl; omega
    subst hi
    obtain rfl := Option.some.inj hu
    exact p0
  · intro j hj i u hu
    obtain rfl : j = 0 := by simp [g0] at hj; omega
    have hi : i = 0 := by have := (List.getElem?_eq_some_iff.1 hu).1; have e : (RN.enc g0.bound[0]!).length = 1 := rfl; omega
    subst hi
    obtain rfl := Option.some.inj hu
    exact q0
  · intro j hj i u hu
    have hj : j < 2 := hj
    have hi : i < 4 := by have := (List.getElem?_eq_some_iff.1 hu).1; rw [RW.len] at this; exact this
    have hj2 : j = 0 ∨ j = 1 := by omega
    have hi2 : i = 0 ∨ i = 1 ∨ i = 2 ∨ i = 3 := by omega
    rcases hj2 with rfl | rfl <;> rcases hi2 with rfl | rfl | rfl | rfl <;> obtain rfl := Option.some.inj hu
    · exact n0
    · exact n1
    · exact n2
    · exact n3
    · exact n4
    · exact n5
    · exact n6
    · exact n7
  · intro j hj
    have hj : j < 2 := hj
    have hj2 : j = 0 ∨ j = 1 := by omega
    rcases hj2 with rfl | rfl
    · exact ⟨rfl, rfl, rfl, RowKind.Is.nil _⟩
    · exact ⟨rfl, rfl, rfl, RowKind.Is.nil _⟩
  · intro j hj i u hu
    obtain rfl : j = 0 := by simp [g0] at hj; omega
    have hi : i < 4 := by have := (List.getElem?_eq_some_iff.1 hu).1; rw [RE.len] at this; exact this
    have hi2 : i = 0 ∨ i = 1 ∨ i = 2 ∨ i = 3 := by omega
    rcases hi2 with rfl | rfl | rfl | rfl <;> obtain rfl := Option.some.inj hu
    · exact e0
    · exact e1
    · exact e2
    · exact e3
theorem g0_may : May g0 where
  parent := by decide
  chain s h0 h1 := by
    have h1 : s < 1 := h1
    obtain rfl : s = 0 := by omega
    decide
  up s h0 h1 := by
    have h1 : s < 1 := h1
    omega
  nodes := by decide
  edges := by decide
  scope v hv := by
    have hv : v < 2 := hv
    have : v = 0 ∨ v = 1 := by omega
    rcases this with rfl | rfl <;> exact ⟨by decide, by decide⟩
  inner v hv h := by
    have hv : v < 2 := hv
    have : v = 0 ∨ v = 1 := by omega
    rcases this with rfl | rfl
    · exact absurd h (by decide)
    · exact absurd h (by decide)
  ends i hi := by
    have hi : i < 1 := hi
    obtain rfl : i = 0 := by omega
    exact ⟨by decide, by decide, by decide, by decide⟩
  place i hi := by
    have hi : i < 1 := hi
    obtain rfl : i = 0 := by omega
    decide
theorem g0_tree : Tree g0 where
  root _ := rfl
  ahead s h0 h1 := by
    have h1 : s < 1 := h1
    omega
  chain s h0 h1 := g0_may.chain s h0 h1
def s0 : HV := ⟨1, 1, 0, 0, 0, 0, 0, 0, 0, 0, 0⟩
/-- how many ways there are from each operator -/
def k0 (n : Nat) : Nat := if n = 0 then 2 else 1
def low0 (n : Nat) : List (List HV) := (biter (netE g0) (bstart n 2 (sameG g0 n)) (k0 n)).low
theorem low0_0 : low0 0 = [[s0], [s0]] := by decide +kernel
theorem low0_1 : low0 1 = [[], [s0]] := by decide +kernel
theorem row0 (n : Nat) (hn : n < 2) {w : World} {b1 b2 b3 b4 : Nat} (h : G0 w b1 b2 b3 b4) : Calls Tryz.prog 15 #[.agg #[.slice (some ⟨b1, 0, none⟩) 1 1, .slice (some ⟨b2, 0, none⟩) 1 1, .slice (some ⟨b3, 0, none⟩) 2 2, .slice (some ⟨b4, 0, none⟩) 1 1], .int .i64 (n : Int)] w (PRowR (low0 n) w) := by
  have : n = 0 ∨ n = 1 := by omega
  rcases this with rfl | rfl
  · refine prow_any g0 _ 0 w (g0_is h) g0_may g0_tree (by decide) 2 (by decide) ?_ (by decide +kernel)
    intro q hq
    have : q = 0 ∨ q = 1 := by omega
    rcases this with rfl | rfl <;> decide +kernel
  · refine prow_any g0 _ 1 w (g0_is h) g0_may g0_tree (by decide) 1 (by decide) ?_ (by decide +kernel)
    intro q hq
    obtain rfl : q = 0 := by omega
    decide +kernel
theorem table0 {w : World} {b1 b2 b3 b4 : Nat} (h : G0 w b1 b2 b3 b4) : Calls Tryz.prog 6 #[.agg #[.slice (some ⟨b1, 0, none⟩) 1 1, .slice (some ⟨b2, 0, none⟩) 1 1, .slice (some ⟨b3, 0, none⟩) 2 2, .slice (some ⟨b4, 0, none⟩) 1 1]] w (PTabR low0 2 w) :=
  ptable_any g0 _ w (g0_is h) (by decide) low0 (fun n hn => by
    have hn : n < 2 := hn
    have : n = 0 ∨ n = 1 := by omega
    rcases this with rfl | rfl
    · rw [low0_0]; rfl
    · rw [low0_1]; rfl) (fun W hW => (chk (h.below hW)).mono fun e w' q => ⟨⟨0, q.1⟩, q.2⟩) (fun n hn W hW => row0 n hn (h.below hW))
abbrev ta : TV := ⟨1, 1, 0, 0, 0⟩
abbrev tb : TV := ⟨1, 2, 0, 0, 0⟩
theorem perm_short {a l : List HV} (h : a.Perm l) (h1 : l.length ≤ 1) : a = l := by
  cases l with
  | nil => exact h.eq_nil
  | cons x t =>
    cases t with
    | nil => exact h.eq_singleton
    | cons y t => simp at h1
theorem reachG {low : Nat → List (List HV)} {W : World} {bt : Nat} {tl : List SV} (h : TabS low 2 W bt tl 2) (n m : Nat) (hn : n < 2) (hm : m < 2) {l : List HV} (hl : (low n)[m]! = l) (h1 : l.length ≤ 1) (t u : TV) {r : Bool} (hr : l.any (comeB t u) = r) :
    Calls Tryz.prog 7 #[.slice (some ⟨bt, 0, none⟩) 2 2, .int .i64 (n : Int), t.val, .int .i64 (m : Int), u.val] W (Ret (.bool r) W) := by
  rw [← hr]
  obtain ⟨blk, svs, rows, e, o, hrl, hp⟩ := h.row n hn
  have hc := h.cell n hn
  rw [e] at hc
  have hms : m < svs.length := by rw [o.len, hrl]; exact hm
  have hc2 := o.cell m hms
  have hi := (o.own m hms).is
  have hpm := hp m hm
  rw [hl] at hpm
  clear hl hp h o e
  have hrow : rows[m]! = l := perm_short hpm h1
  rw [hrow] at hi
  exact preach_any bt blk n m 2 svs[m]!.p svs[m]!.n svs[m]!.c l t u W hn hm (by omega) hc hc2 hi (by omega)
theorem reach0 {W : World} {bt : Nat} {tl : List SV} (h : TabS low0 2 W bt tl 2) (n m : Nat) (hn : n < 2) (hm : m < 2) {l : List HV} (hl : (low0 n)[m]! = l) (h1 : l.length ≤ 1) (t u : TV) {r : Bool} (hr : l.any (comeB t u) = r) :
    Calls Tryz.prog 7 #[.slice (some ⟨bt, 0, none⟩) 2 2, .int .i64 (n : Int), t.val, .int .i64 (m : Int), u.val] W (Ret (.bool r) W) := reachG h n m hn hm hl h1 t u hr
section
attribute [local go_sem ↓] loadH loadT storeH storeT
attribute [local simp] size_setRow
attribute [local go_sem] rowAt_head rowOf_alloc_at rowOf_alloc_past rowOf_drew rowOf_drewN rowOf_setRow_same rowOf_setRow_other rowOf_setCell_same rowOf_setCell_other size_setRow setRow_drew setRow_alloc_at setRow_alloc_past one_int one_bool cell_setRow_same cell_setRow_other frozen_setRow_same frozen_setRow_other
attribute [local go_sem ↓] run_imin

set_option maxRecDepth 100000 in
set_option maxHeartbeats 16000000 in
theorem pawake (w : World) : Calls Tryz.prog 4 #[] w (Ret (.bool true) w) := by
  have HT : Hid (∀ W, G0 W w.heap.size (w.heap.size + 1) (w.heap.size + 1 + 1) (w.heap.size + 1 + 1 + 1) → Calls Tryz.prog 6 #[.agg #[.slice (some ⟨w.heap.size, 0, none⟩) 1 1, .slice (some ⟨w.heap.size + 1, 0, none⟩) 1 1, .slice (some ⟨w.heap.size + 1 + 1, 0, none⟩) 2 2, .slice (some ⟨w.heap.size + 1 + 1 + 1, 0, none⟩) 1 1]] W (PTabR low0 2 W)) := fun W h => table0 h
  go_enter Tryz.func4, Tryz.ntmps4
  go_wp2_with fail
  refine gen_c (fun W2 => Hid (Below w.heap.size w W2) ∧ Hid (G0 W2 w.heap.size (w.heap.size + 1) (w.heap.size + 1 + 1) (w.heap.size + 1 + 1 + 1))) ⟨by rw [Hid]; go_grown, by rw [Hid]; exact ⟨by first | (simp; done) | (simp; omega), by first | (simp; done) | (simp; omega), by first | (simp; done) | (simp; omega), by first | (simp; done) | (simp; omega), by go_cell, by go_cell, by go_cell, by go_cell, by go_cell, by go_cell, by go_cell, by go_cell, by go_cell, by go_cell, by go_cell, by go_cell, by go_cell, by go_cell⟩⟩ ?_
  rintro w2 ⟨HB2, HG2⟩
  refine (HT.out _ HG2.out).mono ?_
  rintro e w3 ⟨bt, tl, rfl, ht, _, hb⟩
  have HB3 := Lib.hid (bstep HB2.out hb HB2.out.size)
  have R1 : Hid (∀ W, Below w3.heap.size w3 W → Calls Tryz.prog 7 #[.slice (some ⟨bt, 0, none⟩) 2 2, .int .i64 0, ta.val, .int .i64 1, tb.val] W (Ret (.bool true) W)) := fun W hW => reach0 (ht.below hW) 0 1 (by omega) (by omega) (l := [s0]) (by rw [low0_0]; rfl) (by simp) ta tb (by decide +kernel)
  have R2 : Hid (∀ W, Below w3.heap.size w3 W → Calls Tryz.prog 7 #[.slice (some ⟨bt, 0, none⟩) 2 2, .int .i64 0, tb.val, .int .i64 1, ta.val] W (Ret (.bool false) W)) := fun W hW => reach0 (ht.below hW) 0 1 (by omega) (by omega) (l := [s0]) (by rw [low0_0]; rfl) (by simp) tb ta (by decide +kernel)
  have R3 : Hid (∀ W, Below w3.heap.size w3 W → Calls Tryz.prog 7 #[.slice (some ⟨bt, 0, none⟩) 2 2, .int .i64 1, ta.val, .int .i64 0, tb.val] W (Ret (.bool false) W)) := fun W hW => reach0 (ht.below hW) 1 0 (by omega) (by omega) (l := []) (by rw [low0_1]; rfl) (by simp) ta tb (by decide +kernel)
  clear HT HG2 HB2 ht hb
  go_upto_region 4 with (fail)
  refine gen_world (fun W2 => Hid (Below w3.heap.size w3 W2) ∧ Hid (rowOf W2 w3.heap.size = some (tvRow ta)) ∧ Hid (rowOf W2 (w3.heap.size + 1) = some (tvRow tb))) ⟨by rw [Hid]; go_grown, Lib.hid (by first | exact row_old (row_new rfl) | exact row_new rfl), Lib.hid (row_new (by simp))⟩ ?_
  rintro w4 ⟨HB4, HA4, HT4⟩
  have N_a := HA4.out
  have L_a := rowOf_lt N_a
  have D_a := Nat.ne_of_lt L_a
  have N_b := HT4.out
  have L_b := rowOf_lt N_b
  have D_b := Nat.ne_of_lt L_b
  go_wp2_with fail
  refine (R1.out _ HB4.out).mono ?_
  rintro e w5 ⟨rfl, hb⟩
  have HB5 := Lib.hid (bstep HB4.out hb HB4.out.size)
  replace N_a := rowOf_below HA4.out hb L_a
  replace N_b := rowOf_below HT4.out hb L_b
  have HA5 := Lib.hid N_a
  have HT5 := Lib.hid N_b
  replace L_a := rowOf_lt N_a
  replace D_a := Nat.ne_of_lt L_a
  replace L_b := rowOf_lt N_b
  replace D_b := Nat.ne_of_lt L_b
  clear hb HB4 HA4 HT4 R1
  go_wp2_with fail
  refine (R2.out _ HB5.out).mono ?_
  rintro e w6 ⟨rfl, hb⟩
  have HB6 := Lib.hid (bstep HB5.out hb HB5.out.size)
  replace N_a := rowOf_below HA5.out hb L_a
  replace N_b := rowOf_below HT5.out hb L_b
  replace L_a := rowOf_lt N_a
  replace D_a := Nat.ne_of_lt L_a
  replace L_b := rowOf_lt N_b
  replace D_b := Nat.ne_of_lt L_b
  clear hb HB5 HA5 HT5 R2
  go_wp2_with fail
  refine (R3.out _ HB6.out).mono ?_
  rintro e w7 ⟨rfl, hb⟩
  have HB7 := Lib.hid (bstep HB3.out (bstep HB6.out hb HB6.out.size) HB3.out.size)
  clear hb HB6 R3 N_a N_b L_a L_b D_a D_b
  go_wp2
  go_returns
  exact ⟨rfl, HB7.out⟩
end
end Go.Proofs.YtjaahmgokiobjaaGreat
/- PathsReach: the law's walk -/
namespace Go.Proofs.YtjaahmgokiobjaaGreat
open Go.RowKit
set_option linter.unusedVariables false
set_option linter.unusedSimpArgs false

theorem len_low {g : GV} {low : Nat → List (List HV)} {rws : Nat → Nat → List HV} (r : runG g) (L : LowG g low) (hp : ∀ n, n < g.nodes.length → ∀ m, m < g.nodes.length → List.Perm (rws n m) (low n)[m]!) (n m : Int) : (stepsZ rws g.nodes.length n m).length ≤ 10985000 := by
  have R := (runG_may r).runs
  unfold stepsZ
  split
  · rename_i h
    have h1 : n.toNat < g.nodes.length := by omega
    have h2 : m.toNat < g.nodes.length := by omega
    rw [(hp _ h1 _ h2).length_eq]
    exact low_ways R.fine h1 R.nodes (sameG_right R h1) (sameG_gives g _) (sameG_zero g _) ((L _ h1).2 _ h2).1
  · simp
set_option maxRecDepth 100000 in
set_option maxHeartbeats 40000000 in
theorem pathsReach_walk (g : GV) (n : Int) (t : TV) (m : Int) (u : TV) (pts : List (List TV)) (v pv : Value) (w : World) (h : IsG w v g) (hcap : capsG v) (hp : IsPts w pv pts) :
    Calls Tryz.prog 3 #[v, .int .i64 n, t.val, .int .i64 m, u.val, pv] w (Ret (.bool true) w) := by
  have HA := Lib.hid (fun W => pawake W)
  obtain ⟨rb, hrb, hR⟩ := runs_any g
  have HRu : Hid (∀ W, Below w.heap.size w W → Calls Tryz.prog 5 #[v] W (Ret (.bool rb) W)) := fun W hW => hR v W (h.below hW)
  have HRB := Lib.hid hrb
  have HI : Hid (IsG w v g) := h
  have HCap : Hid (capsG v) := hcap
  have HP := Lib.hid hp
  obtain ⟨pp, pc, rfl, hop⟩ := hp.opened
  have HOp := Lib.hid hop
  obtain ⟨p1, c1, p2, c2, p3, c3, p4, c4, hv, G⟩ := h.go
  clear h hcap G hR hrb hop hp
  have HV := Lib.hid hv
  subst hv
  generalize hn1 : g.parent.length = n1 at *
  generalize hn2 : g.bound.length = n2 at *
  generalize hn3 : g.nodes.length = n3 at *
  generalize hn4 : g.edges.length = n4 at *
  have HN3 := Lib.hid hn3
  clear hn1 hn2 hn3 hn4 HV
  go_enter Tryz.func3, Tryz.ntmps3
  go_wp2_with fail
  refine gen_c (fun W2 => Hid (Below w.heap.size w W2) ∧ Hid (rowOf W2 w.heap.size = some #[.slice p1 n1 c1, .slice p2 n2 c2, .slice p3 n3 c3, .slice p4 n4 c4]) ∧ Hid (rowOf W2 (w.heap.size + 1) = some (tvRow t)) ∧ Hid (rowOf W2 (w.heap.size + 1 + 1) = some (tvRow u))) ⟨by rw [Hid]; go_grown, Lib.hid (row_old (row_old (row_new rfl))), Lib.hid (row_old (row_new (by simp))), Lib.hid (row_new (by simp))⟩ ?_
  rintro w2 ⟨HB2, HX2, HT2, HU2⟩
  refine (HA.out _).mono ?_
  rintro e w3 ⟨rfl, hb⟩
  have HX3 := Lib.hid (rowOf_below HX2.out hb (rowOf_lt HX2.out))
  have HT3 := Lib.hid (rowOf_below HT2.out hb (rowOf_lt HT2.out))
  have HU3 := Lib.hid (rowOf_below HU2.out hb (rowOf_lt HU2.out))
  have HB3 := Lib.hid (bstep HB2.out hb HB2.out.size)
  clear hb HX2 HT2 HU2 HB2
  clear HA
  have g_0 := (rowOf_cell HX3.out 0 : _ = some (Value.slice p1 n1 c1))
  have g_1 := (rowOf_cell HX3.out 1 : _ = some (Value.slice p2 n2 c2))
  have g_2 := (rowOf_cell HX3.out 2 : _ = some (Value.slice p3 n3 c3))
  have g_3 := (rowOf_cell HX3.out 3 : _ = some (Value.slice p4 n4 c4))
  go_wp2_with fail
  refine (HRu.out _ HB3.out).mono ?_
  rintro e w4 ⟨rfl, hb⟩
  clear g_0 g_1 g_2 g_3 HRu
  have HX4 := Lib.hid (rowOf_below HX3.out hb (rowOf_lt HX3.out))
  have HT4 := Lib.hid (rowOf_below HT3.out hb (rowOf_lt HT3.out))
  have HU4 := Lib.hid (rowOf_below HU3.out hb (rowOf_lt HU3.out))
  have HB4 := Lib.hid (bstep HB3.out hb HB3.out.size)
  clear hb HX3 HT3 HU3 HB3
  cases rb
  · clear HRB
    go_wp2
    go_returns
    exact ⟨by first | rfl | simp, HB4.out⟩
  have hrr := HRB.out.1 rfl
  have HSh := Lib.hid hrr.1
  have HRn := Lib.hid hrr.2
  clear hrr HRB
  by_cases hpl : 40 < pts.length
  · have hplz : (40 : Int) < (pts.length : Int) := by omega
    clear HSh HRn
    go_wp2
    go_returns
    exact ⟨by first | rfl | simp, HB4.out⟩
  have hplz : ¬ (40 : Int) < (pts.length : Int) := by omega
  have hpl40 : pts.length ≤ 40 := by omega
  go_wp2_with fail
  go_loopg [13] pts.length (fun gg iv wr => ∃ i : Nat, i ≤ pts.length ∧ pts.length - i ≤ gg ∧ iv = .int .i64 (i : Int) ∧ Hid (∀ j, j < i → List.length pts[j]! ≤ 40) ∧ wr = w4)
  case atStart => exact ⟨0, Nat.zero_le _, by omega, rfl, fun j hj => absurd hj (Nat.not_lt_zero j), rfl⟩
  case round =>
    obtain ⟨i, hi, hg, rfl, HM, rfl⟩ := hrel
    by_cases hlt : i < pts.length
    · have hiz : (i : Int) < (pts.length : Int) := by omega
      obtain ⟨b, off, q, d, rfl, hIt, hcel⟩ := HOp.out i hlt
      have hc0 := hcel _ HB4.out
      have HM2 : Hid (List.length pts[i]! ≤ 40 → ∀ j, j < i + 1 → List.length pts[j]! ≤ 40) := fun q j hj => by
        by_cases e : j = i
        · subst e; exact q
        · exact HM.out j (by omega)
      generalize List.length pts[i]! = ln at *
      clear hIt hcel
      by_cases hln : 40 < ln
      · have hlz : (40 : Int) < (ln : Int) := by omega
        clear HSh HRn
        go_wp2
        go_returns
        exact ⟨by first | rfl | simp, HB4.out⟩
      · have hlz : ¬ (40 : Int) < (ln : Int) := by omega
        have HM3 := Lib.hid (HM2.out (by omega))
        clear HM2
        go_wp2
        go_roundg (pts.length - (i + 1))
        case measure => omega
        case rel => exact ⟨i + 1, by omega, by omega, by go_num, HM3.out, rfl⟩
    · obtain rfl : i = pts.length := by omega
      have S := short_small HSh.out
      obtain ⟨low, L, hrow⟩ := low_run HRn.out
      have hN9 : n3 ≤ 900000 := by rw [← HN3.out]; exact S.n
      have HTa : Hid (∀ W, Below w.heap.size w W → Calls Tryz.prog 6 #[.agg #[.slice p1 n1 c1, .slice p2 n2 c2, .slice p3 n3 c3, .slice p4 n4 c4]] W (PTabR low n3 W)) := fun W hW => by
        have q := ptable_run HRn.out L hrow _ W (HI.out.below hW) HCap.out S
        rw [HN3.out] at q
        exact q
      have HLo : Hid (∀ rws : Nat → Nat → List HV, (∀ n, n < n3 → ∀ m, m < n3 → List.Perm (rws n m) (low n)[m]!) → ∀ n m : Int, (stepsZ rws n3 n m).length ≤ 10985000) := fun rws hp n m => by
        have q := len_low (rws := rws) HRn.out L (by rw [HN3.out]; exact hp) n m
        rw [HN3.out] at q
        exact q
      have g_0 := (rowOf_cell HX4.out 0 : _ = some (Value.slice p1 n1 c1))
      have g_1 := (rowOf_cell HX4.out 1 : _ = some (Value.slice p2 n2 c2))
      have g_2 := (rowOf_cell HX4.out 2 : _ = some (Value.slice p3 n3 c3))
      have g_3 := (rowOf_cell HX4.out 3 : _ = some (Value.slice p4 n4 c4))
      clear S L hrow HSh HRn HI HCap HN3 HOp
      rename World => wr
      go_wp2_with fail
      refine (HTa.out _ HB4.out).mono ?_
      rintro e w5 ⟨bt, tl, rfl, hS, hbt, hb⟩
      obtain ⟨rws, hT, hpm⟩ := hS.tab
      have HTw := Lib.hid hT
      have HS := Lib.hid (HLo.out rws hpm)
      have HB5 := Lib.hid (bcall HB4.out hb HB4.out.size)
      have HT5 := Lib.hid (rowOf_below HT4.out hb (rowOf_lt HT4.out))
      have HU5 := Lib.hid (rowOf_below HU4.out hb (rowOf_lt HU4.out))
      have HTU : Hid (∀ W, Below w5.heap.size w5 W → (W.cell? ⟨w.heap.size + 1, 0, none⟩ = some (.int .i64 t.d) ∧ W.cell? ⟨w.heap.size + 1, 1, none⟩ = some (.int .i64 t.c0) ∧ W.cell? ⟨w.heap.size + 1, 2, none⟩ = some (.int .i64 t.c1) ∧ W.cell? ⟨w.heap.size + 1, 3, none⟩ = some (.int .i64 t.c2) ∧ W.cell? ⟨w.heap.size + 1, 4, none⟩ = some (.int .i64 t.c3)) ∧
          W.cell? ⟨w.heap.size + 1 + 1, 0, none⟩ = some (.int .i64 u.d) ∧ W.cell? ⟨w.heap.size + 1 + 1, 1, none⟩ = some (.int .i64 u.c0) ∧ W.cell? ⟨w.heap.size + 1 + 1, 2, none⟩ = some (.int .i64 u.c1) ∧ W.cell? ⟨w.heap.size + 1 + 1, 3, none⟩ = some (.int .i64 u.c2) ∧ W.cell? ⟨w.heap.size + 1 + 1, 4, none⟩ = some (.int .i64 u.c3)) := fun W hW => by
        have rt := rowOf_below HT5.out hW (rowOf_lt HT5.out)
        have ru := rowOf_below HU5.out hW (rowOf_lt HU5.out)
        exact ⟨⟨rowOf_cell rt 0, rowOf_cell rt 1, rowOf_cell rt 2, rowOf_cell rt 3, rowOf_cell rt 4⟩, rowOf_cell ru 0, rowOf_cell ru 1, rowOf_cell ru 2, rowOf_cell ru 3, rowOf_cell ru 4⟩
      have HR1 : Hid (∀ W, Below w5.heap.size w5 W → Calls Tryz.prog 7 #[.slice (some ⟨bt, 0, none⟩) n3 n3, .int .i64 n, t.val, .int .i64 m, u.val] W (Ret (.bool ((stepsZ rws n3 n m).any (comeB t u))) W)) := fun W hW => preach_u (HTw.out.below hW) hN9 n m t u (by have := HS.out n m; omega)
      have HR2 : Hid (∀ W, Below w5.heap.size w5 W → Calls Tryz.prog 8 #[.slice (some ⟨bt, 0, none⟩) n3 n3, .int .i64 n, t.val, .int .i64 m, u.val] W (Ret (.bool ((stepsZ rws n3 n m).any (comeB t u))) W)) := fun W hW => rreach_u (HTw.out.below hW) hN9 n m t u (by have := HS.out n m; omega)
      have HSn : Hid (∀ n : Int, (stepsZ rws n3 n m).length ≤ 10985000) := fun n => HS.out n m
      have HPn : Hid (∀ W, Below w5.heap.size w5 W → IsPts W (.slice pp pts.length pc) pts) := fun W hW => (HP.out.below HB5.out).below hW
      have HA1 : Hid (∀ W, Below w5.heap.size w5 W → Calls Tryz.prog 10 #[.slice (some ⟨bt, 0, none⟩) n3 n3, .slice pp pts.length pc, .int .i64 m] W (MadeT (ofT (comeP (fun n => stepsZ rws n3 (n : Int) m) pts pts.length)) W)) := fun W hW => pahead_u (HTw.out.below hW) hN9 m pts _ (HPn.out W hW) HSn.out hpl40 HM.out
      have HA2 : Hid (∀ W, Below w5.heap.size w5 W → Calls Tryz.prog 11 #[.slice (some ⟨bt, 0, none⟩) n3 n3, .slice pp pts.length pc, .int .i64 m] W (MadeT (ofT (comeP (fun n => stepsZ rws n3 (n : Int) m) pts pts.length)) W)) := fun W hW => by
        have q := rahead_u (HTw.out.below hW) hN9 m pts _ (HPn.out W hW) HSn.out hpl40 HM.out
        rw [come_same (upTo_le n3 pts.length m) (fun k hk hk2 => by
          unfold stepsZ
          rw [if_neg (by unfold upTo at hk; split at hk <;> omega)])] at q
        exact q
      have hln : (ofT (comeP (fun n => stepsZ rws n3 (n : Int) m) pts pts.length)).length ≤ 2000000000000 := by
        have a := ofT_length (comeP (fun n => stepsZ rws n3 (n : Int) m) pts pts.length)
        have b := comeP_len (S := fun n => stepsZ rws n3 (n : Int) m) (fun n => HSn.out n) hpl40 HM.out (Nat.le_refl _)
        omega
      have HSm : Hid (∀ W a b, RTi.Is W a (ofT (comeP (fun n => stepsZ rws n3 (n : Int) m) pts pts.length)) → RTi.Is W b (ofT (comeP (fun n => stepsZ rws n3 (n : Int) m) pts pts.length)) → Calls Tryz.prog 9 #[a, b] W (Ret (.bool true) W)) := fun W a b ha hb => by
        have q := same_any _ _ a b W hln hln ha hb
        simpa using q
      have hw5 := HB5.out.size
      generalize ofT (comeP (fun n => stepsZ rws n3 (n : Int) m) pts pts.length) = R at *
      generalize (stepsZ rws n3 n m).any (comeB t u) = r at *
      clear g_0 g_1 g_2 g_3 hS hT hpm hb hbt HTw HS HSn HPn HLo HTa HX4 HT4 HU4 HT5 HU5 HP HM hln
      go_upto_region 11 with (fail)
      go_cut [12] from 39 to 62 (fun x wx => x = .bool true ∧ Hid (Below w.heap.size w wx))
      case first =>
        have hc : Below w5.heap.size w5 w5.drew := (Below.refl _ _).drew
        obtain ⟨⟨t0, t1, t2, t3, t4⟩, u0, u1, u2, u3, u4⟩ := HTU.out _ hc
        cases r
        all_goals
          go_region_held_law (fun w' => (w'.cell? ⟨w.heap.size + 1, 0, none⟩ = some (.int .i64 t.d) ∧ w'.cell? ⟨w.heap.size + 1, 1, none⟩ = some (.int .i64 t.c0) ∧ w'.cell? ⟨w.heap.size + 1, 2, none⟩ = some (.int .i64 t.c1) ∧ w'.cell? ⟨w.heap.size + 1, 3, none⟩ = some (.int .i64 t.c2) ∧ w'.cell? ⟨w.heap.size + 1, 4, none⟩ = some (.int .i64 t.c3)) ∧
              w'.cell? ⟨w.heap.size + 1 + 1, 0, none⟩ = some (.int .i64 u.d) ∧ w'.cell? ⟨w.heap.size + 1 + 1, 1, none⟩ = some (.int .i64 u.c0) ∧ w'.cell? ⟨w.heap.size + 1 + 1, 2, none⟩ = some (.int .i64 u.c1) ∧ w'.cell? ⟨w.heap.size + 1 + 1, 3, none⟩ = some (.int .i64 u.c2) ∧ w'.cell? ⟨w.heap.size + 1 + 1, 4, none⟩ = some (.int .i64 u.c3)) (first | exact HTU.out _ hc | go_keep) (first
            | (go_at_call 7; (with_reducible refine Calls.mono (HR1.out _ hc) ?_); rintro e wa ⟨rfl, hba⟩; replace hc := bcall hc hba hc.size; clear hba)
            | (go_at_call 8; (with_reducible refine Calls.mono (HR2.out _ hc) ?_); rintro e wa ⟨rfl, hba⟩; replace hc := bcall hc hba hc.size; clear hba)
            | (go_at_call 10; (with_reducible refine Calls.mono (HA1.out _ hc) ?_); rintro e wa ⟨va, rfl, hOa, hba⟩; have hIa : RTi.Is wa va R := RowKind.Own.is (R := RTi) hOa; obtain ⟨px, cx, rfl⟩ := hIa.slice; (try replace hIb := hIb.below hba); replace hc := bcall hc hba hc.size; clear hOa hba)
            | (go_at_call 11; (with_reducible refine Calls.mono (HA2.out _ hc) ?_); rintro e wb ⟨vb, rfl, hOb, hbb⟩; have hIb : RTi.Is wb vb R := RowKind.Own.is (R := RTi) hOb; obtain ⟨py, cy, rfl⟩ := hIb.slice; (try replace hIa := hIa.below hbb); replace hc := bcall hc hbb hc.size; clear hOb hbb)
            | (go_at_call 9; (with_reducible refine Calls.mono (HSm.out _ _ _ hIa hIb) ?_); rintro e ws ⟨rfl, hbs⟩; replace hc := bcall hc hbs hc.size; clear hbs))
          all_goals
            try simp only [List.getElem_toArray, List.getElem_cons_succ, List.getElem_cons_zero, Act.put, List.setIfInBounds_toArray, List.set_cons_zero, List.set_cons_succ]
            go_wp2_with fail
            go_meet
            case rel => exact ⟨rfl, bcall HB5.out hc hw5⟩
      case rest =>
        obtain ⟨rfl, HX⟩ := hcut
        go_wp2
        go_returns
        exact ⟨rfl, HX.out⟩
end Go.Proofs.YtjaahmgokiobjaaGreat
