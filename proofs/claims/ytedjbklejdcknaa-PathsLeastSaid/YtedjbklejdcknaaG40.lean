/- the program's Table, of a graph that may run -/
import Derived.Test.YtedjbklejdcknaaG39
namespace Go.Proofs.Ytedjbklejdcknaa
open Go.RowKit
set_option linter.unusedVariables false
set_option linter.unusedSimpArgs false

def RTt : RowKind SV where
  enc := fun s => [s.val]
  k := 1
  k0 := by decide
  len := fun _ => rfl
  one := by
    intro c u hu
    simp at hu
    subst hu
    rfl
  tE := 31
  tS := 29
  zero := .slice none 0 0
  bytes := 24
  info := by kernel_rfl
  under := Try.underlying29
  zlen := rfl
  byt := by decide
theorem make_ttt (n : Nat) (hn : n ≤ 1000000) (W : World) : (Instr.makeSlice 29 (.int .i64 (n : Int)) (.int .i64 (n : Int))).run Try.prog W = .ok (.slice (some ⟨W.heap.size, 0, none⟩) n n) (W.alloc (.cells (svCells (List.replicate n ⟨none, 0, 0⟩)) 31)) := by
  have h := run_make_rows (P := Try.prog) (t := RTt.tS) RTt.under RTt.info RTt.byt n hn W
  have h : (Instr.makeSlice 29 (.int .i64 (n : Int)) (.int .i64 (n : Int))).run Try.prog W = .ok (.slice (some ⟨W.heap.size, 0, none⟩) n n) (W.alloc (.cells (madeCells #[.slice none 0 0] (n * 1)) 31)) := h
  rw [made_cells] at h
  exact h
theorem OHH.setOther {B : Nat} {W : World} {blk : Nat} {svs : List SV} {rows : List (List HV)} (h : OHH B W blk svs rows) {b i : Nat} (hb : b < B) (v : Value) : OHH B (W.setCell ⟨b, i, none⟩ v) blk svs rows :=
  ⟨h.lo, (Below.heap_setCell W ⟨b, i, none⟩ v blk (by have := h.lo; show blk ≠ b; omega)).trans h.heap, h.len, fun m hm => (h.own m hm).keepJ fun l hl => Below.heap_setCell W ⟨b, i, none⟩ v l (by have := (h.own m hm).lt l hl; show l ≠ b; omega), h.ne, h.sep⟩
/-- so many rows of the table are laid -/
structure TabS (low : Nat → List (List HV)) (N : Nat) (W : World) (bt : Nat) (tl : List SV) (k : Nat) : Prop where
  heap : W.heap[bt]? = some (.cells (svCells tl) 31 (0, 0))
  len : tl.length = N
  row : ∀ n, n < k → ∃ blk svs rows, tl[n]! = ⟨some ⟨blk, 0, none⟩, N, N⟩ ∧ OHH (bt + 1) W blk svs rows ∧ rows.length = N ∧ ∀ m, m < N → List.Perm rows[m]! (low n)[m]!
namespace TabS
variable {low : Nat → List (List HV)} {N : Nat} {W W' : World} {bt : Nat} {tl : List SV} {k : Nat}
theorem lt (h : TabS low N W bt tl k) : bt < W.heap.size := (Array.getElem?_eq_some_iff.1 h.heap).1
theorem below (h : TabS low N W bt tl k) (hb : Below W.heap.size W W') : TabS low N W' bt tl k :=
  ⟨(hb.block bt h.lt).trans h.heap, h.len, fun n hn => by
    obtain ⟨blk, svs, rows, e, o, hl, hp⟩ := h.row n hn
    exact ⟨blk, svs, rows, e, o.below hb, hl, hp⟩⟩
theorem cell (h : TabS low N W bt tl k) (m : Nat) (hm : m < N) : W.cell? ⟨bt, m, none⟩ = some tl[m]!.val := by
  have hm : m < tl.length := by rw [h.len]; exact hm
  unfold World.cell?
  rw [h.heap]
  simp only [svCells]
  rw [getElem!_pos tl m hm]
  simp [hm]
theorem frozen (h : TabS low N W bt tl k) (m : Nat) : W.frozen? ⟨bt, m, none⟩ = false := by
  unfold World.frozen?
  rw [h.heap]
  simp
theorem put (h : TabS low N W bt tl k) (hk : k < N) {blk : Nat} {svs : List SV} {rows : List (List HV)} (o : OHH (bt + 1) W blk svs rows) (hl : rows.length = N) (hp : ∀ m, m < N → List.Perm rows[m]! (low k)[m]!) :
    TabS low N (W.setCell ⟨bt, k, none⟩ (.slice (some ⟨blk, 0, none⟩) N N)) bt (tl.set k ⟨some ⟨blk, 0, none⟩, N, N⟩) (k + 1) := by
  refine ⟨?_, by rw [List.length_set]; exact h.len, fun n hn => ?_⟩
  · rw [← OHH.set_cells]
    simp only [World.setCell, Array.getElem?_modify, if_true]
    rw [h.heap]
    rfl
  · rw [set_get _ _ _ _ (by rw [h.len]; exact hk)]
    split
    · rename_i e
      subst e
      exact ⟨blk, svs, rows, rfl, o.setOther (Nat.lt_succ_self _) _, hl, hp⟩
    · rename_i hne
      obtain ⟨blk', svs', rows', e, o', hl', hp'⟩ := h.row n (by omega)
      exact ⟨blk', svs', rows', e, o'.setOther (Nat.lt_succ_self _) _, hl', hp'⟩
end TabS
/-- what Table answers -/
def PTabR (low : Nat → List (List HV)) (N : Nat) (w : World) (e : Ending) (w' : World) : Prop :=
  ∃ bt tl, e = .returned (.slice (some ⟨bt, 0, none⟩) N N) ∧ TabS low N w' bt tl N ∧ w.heap.size ≤ bt ∧ Below w.heap.size w w'
set_option maxRecDepth 100000 in
set_option maxHeartbeats 16000000 in
theorem ptable_any (g : GV) (v : Value) (w : World) (h : IsG w v g) (hN : g.nodes.length ≤ 900000) (low : Nat → List (List HV)) (hlow : ∀ n, n < g.nodes.length → (low n).length = g.nodes.length)
    (hchk : ∀ W, Below w.heap.size w W → Calls Try.prog 21 #[v] W (Ret (.tuple #[.int .i64 0, .int .i64 0]) W))
    (hrow : ∀ n : Nat, n < g.nodes.length → ∀ W, Below w.heap.size w W → Calls Try.prog 22 #[v, .int .i64 (n : Int)] W (PRowR (low n) W)) :
    Calls Try.prog 8 #[v] w (PTabR low g.nodes.length w) := by
  have HC := Lib.hid hchk
  have HR := Lib.hid hrow
  have HL := Lib.hid hlow
  obtain ⟨p1, c1, p2, c2, p3, c3, p4, c4, rfl, G⟩ := h.go
  clear h G hchk hrow hlow
  generalize g.parent.length = n1 at *
  generalize g.bound.length = n2 at *
  generalize g.nodes.length = N at *
  generalize g.edges.length = n4 at *
  have hmk := fun W => make_ttt N (by omega) W
  go_enter Try.func8, Try.ntmps8
  go_wp2_with fail
  refine gen_c (fun W2 => Hid (Below w.heap.size w W2) ∧ Hid (rowOf W2 w.heap.size = some #[.slice p1 n1 c1, .slice p2 n2 c2, .slice p3 N c3, .slice p4 n4 c4])) ⟨Lib.hid ((Below.refl _ _).alloc (Nat.le_refl _) _), Lib.hid (row_new rfl)⟩ ?_
  rintro w2 ⟨HB2, HX2⟩
  refine (HC.out _ HB2.out).mono ?_
  rintro e w3 ⟨rfl, hb⟩
  have HB3 := Lib.hid (bstep HB2.out hb HB2.out.size)
  have HX3 := Lib.hid (rowOf_below HX2.out hb (rowOf_lt HX2.out))
  have g_2 : w3.cell? ⟨w.heap.size, 2, none⟩ = some (.slice p3 N c3) := rowOf_cell HX3.out 2
  clear hb HB2 HX2 HC
  go_upto_region 5 with (fail)
  refine gen_world (fun W2 => Hid (TabS low N W2 w3.heap.size (List.replicate N ⟨none, 0, 0⟩) 0) ∧ Hid (Below w3.heap.size w3 W2)) ⟨⟨heap_alloc_new w3 _, List.length_replicate, fun n hn => by omega⟩, Lib.hid ((Below.refl _ _).alloc (Nat.le_refl _) _)⟩ ?_
  rintro w4 ⟨HT4, HB4⟩
  clear g_2 hmk
  go_wp2
  go_loopg [20] N (fun gg iv wr => ∃ (k : Nat) (tl : List SV), k ≤ N ∧ N - k ≤ gg ∧ iv = .int .i64 (k : Int) ∧ Hid (TabS low N wr w3.heap.size tl k) ∧ Hid (Below w3.heap.size w3 wr))
  case atStart => exact ⟨0, _, Nat.zero_le _, by omega, rfl, HT4.out, HB4.out⟩
  case round =>
    clear HT4 HB4
    obtain ⟨k, tl, hkN, hgg, rfl, HT, HB⟩ := hrel
    by_cases hlt : k < N
    · have hlz : (k : Int) < (N : Int) := by omega
      have gr := rowOf_below HX3.out HB.out (rowOf_lt HX3.out)
      have g_0 := (rowOf_cell gr 0 : _ = some (Value.slice p1 n1 c1))
      have g_1 := (rowOf_cell gr 1 : _ = some (Value.slice p2 n2 c2))
      have g_2 := (rowOf_cell gr 2 : _ = some (Value.slice p3 N c3))
      have g_3 := (rowOf_cell gr 3 : _ = some (Value.slice p4 n4 c4))
      have HBw := Lib.hid (bstep HB3.out HB.out HB3.out.size)
      have HRk := Lib.hid (HR.out k hlt wr HBw.out)
      have HLk := HL.out k hlt
      have hbt : w3.heap.size < wr.heap.size := HT.out.lt
      clear gr
      go_wp2_with fail
      refine (HRk.out).mono ?_
      rintro e w5 ⟨blk, svs, rows, rfl, ho, hl, hp, hb⟩
      rw [HLk] at hl hp
      rw [HLk]
      have HT5 := Lib.hid (HT.out.below hb)
      have HO5 : Hid (OHH (w3.heap.size + 1) w5 blk svs rows) := ho.lower hbt
      have HB5 := Lib.hid (bstep HB.out hb HB.out.size)
      have hc5 := HT5.out.cell k hlt
      have hf5 := HT5.out.frozen k
      have HP5 := Lib.hid (HT5.out.put hlt HO5.out hl hp)
      have HB6 : Hid (Below w3.heap.size w3 (w5.setCell ⟨w3.heap.size, k, none⟩ (.slice (some ⟨blk, 0, none⟩) N N))) := HB5.out.setCell (Nat.le_refl _) _
      clear ho hl hp hb HT HRk HLk g_0 g_1 g_2 g_3
      generalize tl[k]! = sv at *
      obtain ⟨qs, ns, cs⟩ := sv
      go_wp2
      go_roundg (N - (k + 1))
      case measure => omega
      case rel => exact ⟨k + 1, _, hlt, Nat.le_refl _, by go_num, HP5.out, HB6.out⟩
    · have hlz : ¬ (k : Int) < (N : Int) := by omega
      obtain rfl : k = N := by omega
      have HBw := Lib.hid (bstep HB3.out HB.out HB3.out.size)
      go_wp2
      go_returns
      exact ⟨w3.heap.size, tl, rfl, HT.out, HB3.out.size, HBw.out⟩
end Go.Proofs.Ytedjbklejdcknaa
