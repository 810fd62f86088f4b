/- a whole api.Slot loaded and stored in one step -/
import Derived.Test.YthhceggcdaljdaaGreatG03
import Derived.Test.YthhceggcdaljdaaGreatG21
import Derived.Test.YthhceggcdaljdaaGreatG22
import Derived.Test.YthhceggcdaljdaaGreatG17
namespace Go.Proofs.YthhceggcdaljdaaGreat
open Go.RowKit
set_option linter.unusedVariables false
set_option linter.unusedSimpArgs false

theorem loadSl (dst : Option Nat) (type : TypeId) (pos : String) (after : Array Edge) (guard : Option (Nat × Bool)) (x : Operand) (a : Act) (w : World) (next : Act → World → Prop) (Q : Exit → Act → World → Prop) :
    Oper.wp Tryz.prog ⟨dst, .load 40 x, type, pos, after, guard⟩ a w next Q = match a.eval x with
      | .pointer (some ad) => (match rowAt w ad with
        | some c => if c.size = 10 then next (a.put dst (.agg c)) w else slowP (Oper.wp Tryz.prog ⟨dst, .load 40 x, type, pos, after, guard⟩ a w next Q)
        | none => slowP (Oper.wp Tryz.prog ⟨dst, .load 40 x, type, pos, after, guard⟩ a w next Q))
      | _ => slowP (Oper.wp Tryz.prog ⟨dst, .load 40 x, type, pos, after, guard⟩ a w next Q) := by
  split
  · rename_i ad hx
    split
    · rename_i c hc
      split
      · rename_i hn
        have h := run_loadAt_any Tryz.prog w 40 10 (by kernel_rfl) (by kernel_rfl) (.pointer (some ad))
        simp only [hc, hn, if_true] at h
        simp only [Oper.wp, execOp, hx, Sem.run_bind, h, Result.andThen, Sem.run_pure, Oper.upon_value]
      · rfl
    · rfl
  · rfl
theorem storeSl (dst : Option Nat) (type : TypeId) (pos : String) (after : Array Edge) (guard : Option (Nat × Bool)) (x y : Operand) (a : Act) (w : World) (next : Act → World → Prop) (Q : Exit → Act → World → Prop) :
    Oper.wp Tryz.prog ⟨dst, .store 40 x y, type, pos, after, guard⟩ a w next Q = match a.eval x, a.eval y with
      | .pointer (some ad), .agg cs => (match rowAt w ad with
        | some c => if c.size = 10 ∧ cs.size = 10 ∧ 10 ≠ 0 ∧ cs.toList.all Value.oneCell' = true then next (a.put dst undef) (setRow w ad.block cs) else slowP (Oper.wp Tryz.prog ⟨dst, .store 40 x y, type, pos, after, guard⟩ a w next Q)
        | none => slowP (Oper.wp Tryz.prog ⟨dst, .store 40 x y, type, pos, after, guard⟩ a w next Q))
      | _, _ => slowP (Oper.wp Tryz.prog ⟨dst, .store 40 x y, type, pos, after, guard⟩ a w next Q) := by
  split
  · rename_i ad cs hx hy
    split
    · rename_i c hc
      split
      · rename_i hn
        have h := run_storeAt_any Tryz.prog w 40 10 (by kernel_rfl) (.pointer (some ad)) (.agg cs)
        simp only [hc] at h
        rw [if_pos hn] at h
        simp only [Oper.wp, execOp, hx, hy, Sem.run_bind, h, Result.andThen, Sem.run_pure, Oper.upon_skip]
      · rfl
    · rfl
  · rfl
end Go.Proofs.YthhceggcdaljdaaGreat
/- a whole api.Time loaded and stored in one step -/
namespace Go.Proofs.YthhceggcdaljdaaGreat
open Go.RowKit
set_option linter.unusedVariables false
set_option linter.unusedSimpArgs false

theorem loadT (dst : Option Nat) (type : TypeId) (pos : String) (after : Array Edge) (guard : Option (Nat × Bool)) (x : Operand) (a : Act) (w : World) (next : Act → World → Prop) (Q : Exit → Act → World → Prop) :
    Oper.wp Tryz.prog ⟨dst, .load 25 x, type, pos, after, guard⟩ a w next Q = match a.eval x with
      | .pointer (some ad) => (match rowAt w ad with
        | some c => if c.size = 5 then next (a.put dst (.agg c)) w else slowP (Oper.wp Tryz.prog ⟨dst, .load 25 x, type, pos, after, guard⟩ a w next Q)
        | none => slowP (Oper.wp Tryz.prog ⟨dst, .load 25 x, type, pos, after, guard⟩ a w next Q))
      | _ => slowP (Oper.wp Tryz.prog ⟨dst, .load 25 x, type, pos, after, guard⟩ a w next Q) := by
  split
  · rename_i ad hx
    split
    · rename_i c hc
      split
      · rename_i hn
        have h := run_loadAt_any Tryz.prog w 25 5 (by kernel_rfl) (by kernel_rfl) (.pointer (some ad))
        simp only [hc, hn, if_true] at h
        simp only [Oper.wp, execOp, hx, Sem.run_bind, h, Result.andThen, Sem.run_pure, Oper.upon_value]
      · rfl
    · rfl
  · rfl
theorem storeT (dst : Option Nat) (type : TypeId) (pos : String) (after : Array Edge) (guard : Option (Nat × Bool)) (x y : Operand) (a : Act) (w : World) (next : Act → World → Prop) (Q : Exit → Act → World → Prop) :
    Oper.wp Tryz.prog ⟨dst, .store 25 x y, type, pos, after, guard⟩ a w next Q = match a.eval x, a.eval y with
      | .pointer (some ad), .agg cs => (match rowAt w ad with
        | some c => if c.size = 5 ∧ cs.size = 5 ∧ 5 ≠ 0 ∧ cs.toList.all Value.oneCell' = true then next (a.put dst undef) (setRow w ad.block cs) else slowP (Oper.wp Tryz.prog ⟨dst, .store 25 x y, type, pos, after, guard⟩ a w next Q)
        | none => slowP (Oper.wp Tryz.prog ⟨dst, .store 25 x y, type, pos, after, guard⟩ a w next Q))
      | _, _ => slowP (Oper.wp Tryz.prog ⟨dst, .store 25 x y, type, pos, after, guard⟩ a w next Q) := by
  split
  · rename_i ad cs hx hy
    split
    · rename_i c hc
      split
      · rename_i hn
        have h := run_storeAt_any Tryz.prog w 25 5 (by kernel_rfl) (.pointer (some ad)) (.agg cs)
        simp only [hc] at h
        rw [if_pos hn] at h
        simp only [Oper.wp, execOp, hx, hy, Sem.run_bind, h, Result.andThen, Sem.run_pure, Oper.upon_skip]
      · rfl
    · rfl
  · rfl
end Go.Proofs.YthhceggcdaljdaaGreat
/- the program's Next and At, the document's At -/
namespace Go.Proofs.YthhceggcdaljdaaGreat
open Go.RowKit
set_option linter.unusedVariables false
set_option linter.unusedSimpArgs false

theorem boxed_rowS {w : World} {b : Nat} {c : Array Value} {t : TypeId} (h : Boxed w b c t) : rowOf w b = some c := by
  unfold rowOf
  rw [h]
  simp
theorem below_setRS {B b : Nat} {w0 w : World} {c : Array Value} (h : Below B w0 w) (hb : B ≤ b) : Below B w0 (setRow w b c) :=
  ⟨h.os, h.tape, h.output, by rw [size_setRow]; exact h.size, fun k hk => (heap_setRow w b c k (by omega)).trans (h.block k hk)⟩
def NextR (c : List SV) (w : World) (e : Ending) (w' : World) : Prop := ∃ x : TV, e = .returned (.tuple #[TV.val x, .bool (decide (0 < (staleL c).length))]) ∧ (0 < (staleL c).length → x = (staleL c)[0]!) ∧ Below w.heap.size w w'
section
attribute [local go_sem ↓] storeT
attribute [local go_sem] rowAt_head one_int one_bool
set_option maxRecDepth 100000 in
set_option maxHeartbeats 8000000 in
theorem pnext_any (c : List SV) (v : Value) (w : World) (hs : SmallC 900000 c) (h : IsCl w v c) : Calls Tryz.prog 16 #[v] w (NextR c w) := by
  have HS := Lib.hid (fun W (hW : Below w.heap.size w W) => pstale_any c v W hs (h.below hW))
  have hb0 := (Below.refl w.heap.size w).alloc (Nat.le_refl _) (.cells #[.int .i64 0, .int .i64 0, .int .i64 0, .int .i64 0, .int .i64 0] 25)
  have hx0 := Boxed.new w #[.int .i64 0, .int .i64 0, .int .i64 0, .int .i64 0, .int .i64 0] 25
  have HL : Hid ((staleL c).length ≤ 900000) := Nat.le_trans (staleL_len c) hs.1
  obtain ⟨p, k, rfl⟩ := h.slice
  have HR : Hid (∀ x b W, b = decide (0 < (staleL c).length) → (0 < (staleL c).length → x = (staleL c)[0]!) → Below w.heap.size w W → NextR c w (.returned (.tuple #[TV.val x, .bool b])) W) := fun x b W h1 h2 h3 => ⟨x, by rw [h1], h2, h3⟩
  generalize NextR c w = R at *
  clear h hs
  go_enter Tryz.func16, Tryz.ntmps16
  go_upto_region 1 with (fail)
  generalize w.alloc (.cells #[.int .i64 0, .int .i64 0, .int .i64 0, .int .i64 0, .int .i64 0] 25) = w0 at *
  have HB0 := Lib.hid hb0
  have HX0 := Lib.hid hx0
  have HS0 := Lib.hid (HS.out w0 hb0)
  clear hb0 hx0 HS
  go_wp2_with fail
  refine (HS0.out).mono ?_
  rintro e w1 ⟨u, rfl, hO1, hb1⟩
  have HB1 := Lib.hid (HB0.out.trans (hb1.mono HB0.out.size))
  have HI1 := hO1.is
  have N0 : rowOf w1 w.heap.size = some #[.int .i64 0, .int .i64 0, .int .i64 0, .int .i64 0, .int .i64 0] := boxed_rowS (HX0.out.below hb1 HX0.out.lt)
  have HZ : Hid (w.heap.size < w1.heap.size) := rowOf_lt N0
  generalize staleL c = sl at *
  clear hb1 hO1 HS0 HX0 HB0
  rcases HI1 with ⟨rfl, pu, cu, rfl, _⟩ | ⟨hne, b, off, cap, rfl, hb, hr⟩
  · have HR1 := Lib.hid (fun W => HR.out ⟨0, 0, 0, 0, 0⟩ false W (by decide) (fun q => absurd q (by decide)))
    clear HR
    go_wp2_with fail
    refine gen_q (fun W' => rowOf W' w.heap.size = some #[.int .i64 0, .int .i64 0, .int .i64 0, .int .i64 0, .int .i64 0] ∧ Below w.heap.size w W') ⟨row_set_same N0, below_setRS HB1.out (Nat.le_refl _)⟩ ?_
    rintro w9 ⟨N9, hb9⟩
    have q0 : w9.cell? ⟨w.heap.size, 0, none⟩ = some (.int .i64 0) := rowOf_cell N9 0
    have q1 : w9.cell? ⟨w.heap.size, 1, none⟩ = some (.int .i64 0) := rowOf_cell N9 1
    have q2 : w9.cell? ⟨w.heap.size, 2, none⟩ = some (.int .i64 0) := rowOf_cell N9 2
    have q3 : w9.cell? ⟨w.heap.size, 3, none⟩ = some (.int .i64 0) := rowOf_cell N9 3
    have q4 : w9.cell? ⟨w.heap.size, 4, none⟩ = some (.int .i64 0) := rowOf_cell N9 4
    clear N9 N0
    exact bodyPost_ret (v := .tuple #[.agg #[.int .i64 0, .int .i64 0, .int .i64 0, .int .i64 0, .int .i64 0], .bool false]) (by simp [results, Tryz.results16, go_sem, q0, q1, q2, q3, q4]) rfl (HR1.out w9 hb9)
  · have h0 : 0 < sl.length := List.length_pos_iff.2 hne
    have hz : ((sl.length : Int) == 0) = false := by simp; omega
    have hz2 : (0 : Int) < (sl.length : Int) := by omega
    have hl := HL.out
    obtain ⟨e0, e1, e2, e3, e4⟩ := RowT.at hr 0 h0
    simp only [Nat.zero_mul, Nat.add_zero] at e0 e1 e2 e3 e4
    have HR1 := Lib.hid (fun W => HR.out sl[0]! true W (decide_eq_true h0).symm (fun _ => rfl))
    generalize sl[0]! = x at *
    obtain ⟨x0, x1, x2, x3, x4⟩ := x
    dsimp only at e0 e1 e2 e3 e4
    clear HR hr hne
    go_wp2_with fail
    refine gen_q (fun W' => rowOf W' w.heap.size = some #[.int .i64 x0, .int .i64 x1, .int .i64 x2, .int .i64 x3, .int .i64 x4] ∧ Below w.heap.size w W') ⟨row_set_same N0, below_setRS HB1.out (Nat.le_refl _)⟩ ?_
    rintro w9 ⟨N9, hb9⟩
    have q0 : w9.cell? ⟨w.heap.size, 0, none⟩ = some (.int .i64 x0) := rowOf_cell N9 0
    have q1 : w9.cell? ⟨w.heap.size, 1, none⟩ = some (.int .i64 x1) := rowOf_cell N9 1
    have q2 : w9.cell? ⟨w.heap.size, 2, none⟩ = some (.int .i64 x2) := rowOf_cell N9 2
    have q3 : w9.cell? ⟨w.heap.size, 3, none⟩ = some (.int .i64 x3) := rowOf_cell N9 3
    have q4 : w9.cell? ⟨w.heap.size, 4, none⟩ = some (.int .i64 x4) := rowOf_cell N9 4
    clear N9 N0
    exact bodyPost_ret (v := .tuple #[.agg #[.int .i64 x0, .int .i64 x1, .int .i64 x2, .int .i64 x3, .int .i64 x4], .bool true]) (by simp [results, Tryz.results16, go_sem, q0, q1, q2, q3, q4]) rfl (HR1.out w9 hb9)
end
end Go.Proofs.YthhceggcdaljdaaGreat
