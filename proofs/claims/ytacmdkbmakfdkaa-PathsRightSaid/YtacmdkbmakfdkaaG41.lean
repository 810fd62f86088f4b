/- awake: the table of an input and a sink behind it -/
import Derived.Test.YtacmdkbmakfdkaaG39
import Derived.Test.YtacmdkbmakfdkaaG40
namespace Go.Proofs.Ytacmdkbmakfdkaa
open Go.RowKit
set_option linter.unusedVariables false
set_option linter.unusedSimpArgs false

def g0 : GV := ⟨[-1], [0], [⟨1, 0, 0, []⟩, ⟨15, 0, 0, []⟩], [⟨0, 1, 0, false⟩]⟩
theorem g0_is {w : World} {b1 b2 b3 b4 : Nat} (h : G0 w b1 b2 b3 b4) : IsG w (.agg #[.slice (some ⟨b1, 0, none⟩) 1 1, .slice (some ⟨b2, 0, none⟩) 1 1, .slice (some ⟨b3, 0, none⟩) 2 2, .slice (some ⟨b4, 0, none⟩) 1 1]) g0 := by
  obtain ⟨l1, l2, l3, l4, p0, q0, n0, n1, n2, n3, n4, n5, n6, n7, e0, e1, e2, e3⟩ := h
  refine ⟨_, _, _, _, rfl, .inr ⟨by simp [g0], b1, 0, 1, rfl, l1, ?_⟩, .inr ⟨by simp [g0], b2, 0, 1, rfl, l2, ?_⟩, ⟨[⟨1, 0, 0, none, 0, 0⟩, ⟨15, 0, 0, none, 0, 0⟩], .inr ⟨by simp, b3, 0, 2, rfl, l3, ?_⟩, rfl, ?_⟩, .inr ⟨by simp [g0], b4, 0, 1, rfl, l4, ?_⟩⟩
  · intro j hj i u hu
    obtain rfl : j = 0 := by simp [g0] at hj; omega
    have hi : i = 0 := by have := (List.getElem?_eq_some_iff.1 hu).1; have e : (RN.enc g0.parent[0]!).length = 1 := rfl; omega
    subst hi
    obtain rfl := Option.some.inj hu
    exact p0
  · intro j hj i u hu
    obtain rfl : j = 0 := by simp [g0] at hj; omega
    have hi : i = 0 := by have := (List.getElem?_eq_some_iff.1 hu).1; have e : (RN.enc g0.bound[0]!).length = 1 := rfl; omega
    subst hi
    obtain rfl := Option.some.inj hu
    exact q0
  · intro j hj i u hu
    have hj : j < 2 := hj
    have hi : i < 4 := by have := (List.getElem?_eq_some_iff.1 hu).1; rw [RW.len] at this; exact this
    have hj2 : j = 0 ∨ j = 1 := by omega
    have hi2 : i = 0 ∨ i = 1 ∨ i = 2 ∨ i = 3 := by omega
    rcases hj2 with rfl | rfl <;> rcases hi2 with rfl | rfl | rfl | rfl <;> obtain rfl := Option.some.inj hu
    · exact n0
    · exact n1
    · exact n2
    · exact n3
    · exact n4
    · exact n5
    · exact n6
    · exact n7
  · intro j hj
    have hj : j < 2 := hj
    have hj2 : j = 0 ∨ j = 1 := by omega
    rcases hj2 with rfl | rfl
    · exact ⟨rfl, rfl, rfl, RowKind.Is.nil _⟩
    · exact ⟨rfl, rfl, rfl, RowKind.Is.nil _⟩
  · intro j hj i u hu
    obtain rfl : j = 0 := by simp [g0] at hj; omega
    have hi : i < 4 := by have := (List.getElem?_eq_some_iff.1 hu).1; rw [RE.len] at this; exact this
    have hi2 : i = 0 ∨ i = 1 ∨ i = 2 ∨ i = 3 := by omega
    rcases hi2 with rfl | rfl | rfl | rfl <;> obtain rfl := Option.some.inj hu
    · exact e0
    · exact e1
    · exact e2
    · exact e3
theorem g0_may : May g0 where
  parent := by decide
  chain s h0 h1 := by
    have h1 : s < 1 := h1
    obtain rfl : s = 0 := by omega
    decide
  up s h0 h1 := by
    have h1 : s < 1 := h1
    omega
  nodes := by decide
  edges := by decide
  scope v hv := by
    have hv : v < 2 := hv
    have : v = 0 ∨ v = 1 := by omega
    rcases this with rfl | rfl <;> exact ⟨by decide, by decide⟩
  inner v hv h := by
    have hv : v < 2 := hv
    have : v = 0 ∨ v = 1 := by omega
    rcases this with rfl | rfl
    · exact absurd h (by decide)
    · exact absurd h (by decide)
  ends i hi := by
    have hi : i < 1 := hi
    obtain rfl : i = 0 := by omega
    exact ⟨by decide, by decide, by decide, by decide⟩
  place i hi := by
    have hi : i < 1 := hi
    obtain rfl : i = 0 := by omega
    decide
theorem g0_tree : Tree g0 where
  root _ := rfl
  ahead s h0 h1 := by
    have h1 : s < 1 := h1
    omega
  chain s h0 h1 := g0_may.chain s h0 h1
def s0 : HV := ⟨1, 1, 0, 0, 0, 0, 0, 0, 0, 0, 0⟩
/-- how many ways there are from each operator -/
def k0 (n : Nat) : Nat := if n = 0 then 2 else 1
def low0 (n : Nat) : List (List HV) := (biter (netE g0) (bstart n 2 (sameG g0 n)) (k0 n)).low
theorem low0_0 : low0 0 = [[s0], [s0]] := by decide +kernel
theorem low0_1 : low0 1 = [[], [s0]] := by decide +kernel
theorem row0 (n : Nat) (hn : n < 2) {w : World} {b1 b2 b3 b4 : Nat} (h : G0 w b1 b2 b3 b4) : Calls Try.prog 17 #[.agg #[.slice (some ⟨b1, 0, none⟩) 1 1, .slice (some ⟨b2, 0, none⟩) 1 1, .slice (some ⟨b3, 0, none⟩) 2 2, .slice (some ⟨b4, 0, none⟩) 1 1], .int .i64 (n : Int)] w (PRowR (low0 n) w) := by
  have : n = 0 ∨ n = 1 := by omega
  rcases this with rfl | rfl
  · refine prow_any g0 _ 0 w (g0_is h) g0_may g0_tree (by decide) 2 (by decide) ?_ (by decide +kernel)
    intro q hq
    have : q = 0 ∨ q = 1 := by omega
    rcases this with rfl | rfl <;> decide +kernel
  · refine prow_any g0 _ 1 w (g0_is h) g0_may g0_tree (by decide) 1 (by decide) ?_ (by decide +kernel)
    intro q hq
    obtain rfl : q = 0 := by omega
    decide +kernel
theorem table0 {w : World} {b1 b2 b3 b4 : Nat} (h : G0 w b1 b2 b3 b4) : Calls Try.prog 7 #[.agg #[.slice (some ⟨b1, 0, none⟩) 1 1, .slice (some ⟨b2, 0, none⟩) 1 1, .slice (some ⟨b3, 0, none⟩) 2 2, .slice (some ⟨b4, 0, none⟩) 1 1]] w (PTabR low0 2 w) :=
  ptable_any g0 _ w (g0_is h) (by decide) low0 (fun n hn => by
    have hn : n < 2 := hn
    have : n = 0 ∨ n = 1 := by omega
    rcases this with rfl | rfl
    · rw [low0_0]; rfl
    · rw [low0_1]; rfl) (fun W hW => (chk (h.below hW)).mono fun e w' q => ⟨⟨0, q.1⟩, q.2⟩) (fun n hn W hW => row0 n hn (h.below hW))
abbrev ta : TV := ⟨1, 1, 0, 0, 0⟩
abbrev tb : TV := ⟨1, 2, 0, 0, 0⟩
theorem perm_short {a l : List HV} (h : a.Perm l) (h1 : l.length ≤ 1) : a = l := by
  cases l with
  | nil => exact h.eq_nil
  | cons x t =>
    cases t with
    | nil => exact h.eq_singleton
    | cons y t => simp at h1
theorem reachG {low : Nat → List (List HV)} {W : World} {bt : Nat} {tl : List SV} (h : TabS low 2 W bt tl 2) (n m : Nat) (hn : n < 2) (hm : m < 2) {l : List HV} (hl : (low n)[m]! = l) (h1 : l.length ≤ 1) (t u : TV) {r : Bool} (hr : l.any (comeB t u) = r) :
    Calls Try.prog 13 #[.slice (some ⟨bt, 0, none⟩) 2 2, .int .i64 (n : Int), t.val, .int .i64 (m : Int), u.val] W (Ret (.bool r) W) := by
  rw [← hr]
  obtain ⟨blk, svs, rows, e, o, hrl, hp⟩ := h.row n hn
  have hc := h.cell n hn
  rw [e] at hc
  have hms : m < svs.length := by rw [o.len, hrl]; exact hm
  have hc2 := o.cell m hms
  have hi := (o.own m hms).is
  have hpm := hp m hm
  rw [hl] at hpm
  clear hl hp h o e
  have hrow : rows[m]! = l := perm_short hpm h1
  rw [hrow] at hi
  exact preach_any bt blk n m 2 svs[m]!.p svs[m]!.n svs[m]!.c l t u W hn hm (by omega) hc hc2 hi (by omega)
theorem reach0 {W : World} {bt : Nat} {tl : List SV} (h : TabS low0 2 W bt tl 2) (n m : Nat) (hn : n < 2) (hm : m < 2) {l : List HV} (hl : (low0 n)[m]! = l) (h1 : l.length ≤ 1) (t u : TV) {r : Bool} (hr : l.any (comeB t u) = r) :
    Calls Try.prog 13 #[.slice (some ⟨bt, 0, none⟩) 2 2, .int .i64 (n : Int), t.val, .int .i64 (m : Int), u.val] W (Ret (.bool r) W) := reachG h n m hn hm hl h1 t u hr
section
attribute [local go_sem ↓] loadH loadT storeH storeT
attribute [local simp] size_setRow
attribute [local go_sem] rowAt_head rowOf_alloc_at rowOf_alloc_past rowOf_drew rowOf_drewN rowOf_setRow_same rowOf_setRow_other rowOf_setCell_same rowOf_setCell_other size_setRow setRow_drew setRow_alloc_at setRow_alloc_past one_int one_bool cell_setRow_same cell_setRow_other frozen_setRow_same frozen_setRow_other
attribute [local go_sem ↓] run_imin

set_option maxRecDepth 100000 in
set_option maxHeartbeats 16000000 in
theorem pawake (w : World) : Calls Try.prog 5 #[] w (Ret (.bool true) w) := by
  have HT : Hid (∀ W, G0 W w.heap.size (w.heap.size + 1) (w.heap.size + 1 + 1) (w.heap.size + 1 + 1 + 1) → Calls Try.prog 7 #[.agg #[.slice (some ⟨w.heap.size, 0, none⟩) 1 1, .slice (some ⟨w.heap.size + 1, 0, none⟩) 1 1, .slice (some ⟨w.heap.size + 1 + 1, 0, none⟩) 2 2, .slice (some ⟨w.heap.size + 1 + 1 + 1, 0, none⟩) 1 1]] W (PTabR low0 2 W)) := fun W h => table0 h
  go_enter Try.func5, Try.ntmps5
  go_wp2_with fail
  refine gen_c (fun W2 => Hid (Below w.heap.size w W2) ∧ Hid (G0 W2 w.heap.size (w.heap.size + 1) (w.heap.size + 1 + 1) (w.heap.size + 1 + 1 + 1))) ⟨by rw [Hid]; go_grown, by rw [Hid]; exact ⟨by first | (simp; done) | (simp; omega), by first | (simp; done) | (simp; omega), by first | (simp; done) | (simp; omega), by first | (simp; done) | (simp; omega), by go_cell, by go_cell, by go_cell, by go_cell, by go_cell, by go_cell, by go_cell, by go_cell, by go_cell, by go_cell, by go_cell, by go_cell, by go_cell, by go_cell⟩⟩ ?_
  rintro w2 ⟨HB2, HG2⟩
  refine (HT.out _ HG2.out).mono ?_
  rintro e w3 ⟨bt, tl, rfl, ht, _, hb⟩
  have HB3 := Lib.hid (bstep HB2.out hb HB2.out.size)
  have R1 : Hid (∀ W, Below w3.heap.size w3 W → Calls Try.prog 13 #[.slice (some ⟨bt, 0, none⟩) 2 2, .int .i64 0, ta.val, .int .i64 1, tb.val] W (Ret (.bool true) W)) := fun W hW => reach0 (ht.below hW) 0 1 (by omega) (by omega) (l := [s0]) (by rw [low0_0]; rfl) (by simp) ta tb (by decide +kernel)
  have R2 : Hid (∀ W, Below w3.heap.size w3 W → Calls Try.prog 13 #[.slice (some ⟨bt, 0, none⟩) 2 2, .int .i64 0, tb.val, .int .i64 1, ta.val] W (Ret (.bool false) W)) := fun W hW => reach0 (ht.below hW) 0 1 (by omega) (by omega) (l := [s0]) (by rw [low0_0]; rfl) (by simp) tb ta (by decide +kernel)
  have R3 : Hid (∀ W, Below w3.heap.size w3 W → Calls Try.prog 13 #[.slice (some ⟨bt, 0, none⟩) 2 2, .int .i64 1, ta.val, .int .i64 0, tb.val] W (Ret (.bool false) W)) := fun W hW => reach0 (ht.below hW) 1 0 (by omega) (by omega) (l := []) (by rw [low0_1]; rfl) (by simp) ta tb (by decide +kernel)
  clear HT HG2 HB2 ht hb
  go_upto_region 4 with (fail)
  refine gen_world (fun W2 => Hid (Below w3.heap.size w3 W2) ∧ Hid (rowOf W2 w3.heap.size = some (tvRow ta)) ∧ Hid (rowOf W2 (w3.heap.size + 1) = some (tvRow tb))) ⟨by rw [Hid]; go_grown, Lib.hid (by first | exact row_old (row_new rfl) | exact row_new rfl), Lib.hid (row_new (by simp))⟩ ?_
  rintro w4 ⟨HB4, HA4, HT4⟩
  have N_a := HA4.out
  have L_a := rowOf_lt N_a
  have D_a := Nat.ne_of_lt L_a
  have N_b := HT4.out
  have L_b := rowOf_lt N_b
  have D_b := Nat.ne_of_lt L_b
  go_wp2_with fail
  refine (R1.out _ HB4.out).mono ?_
  rintro e w5 ⟨rfl, hb⟩
  have HB5 := Lib.hid (bstep HB4.out hb HB4.out.size)
  replace N_a := rowOf_below HA4.out hb L_a
  replace N_b := rowOf_below HT4.out hb L_b
  have HA5 := Lib.hid N_a
  have HT5 := Lib.hid N_b
  replace L_a := rowOf_lt N_a
  replace D_a := Nat.ne_of_lt L_a
  replace L_b := rowOf_lt N_b
  replace D_b := Nat.ne_of_lt L_b
  clear hb HB4 HA4 HT4 R1
  go_wp2_with fail
  refine (R2.out _ HB5.out).mono ?_
  rintro e w6 ⟨rfl, hb⟩
  have HB6 := Lib.hid (bstep HB5.out hb HB5.out.size)
  replace N_a := rowOf_below HA5.out hb L_a
  replace N_b := rowOf_below HT5.out hb L_b
  replace L_a := rowOf_lt N_a
  replace D_a := Nat.ne_of_lt L_a
  replace L_b := rowOf_lt N_b
  replace D_b := Nat.ne_of_lt L_b
  clear hb HB5 HA5 HT5 R2
  go_wp2_with fail
  refine (R3.out _ HB6.out).mono ?_
  rintro e w7 ⟨rfl, hb⟩
  have HB7 := Lib.hid (bstep HB3.out (bstep HB6.out hb HB6.out.size) HB3.out.size)
  clear hb HB6 R3 N_a N_b L_a L_b D_a D_b
  go_wp2
  go_returns
  exact ⟨rfl, HB7.out⟩
end
end Go.Proofs.Ytacmdkbmakfdkaa
