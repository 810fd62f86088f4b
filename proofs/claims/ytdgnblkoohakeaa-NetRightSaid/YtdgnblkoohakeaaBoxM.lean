/- a whole api.Msg loaded and stored in one step -/
import Derived.Test.YtdgnblkoohakeaaBoxG
namespace Go.Proofs.Ytdgnblkoohakeaa
open Go.RowKit
set_option linter.unusedVariables false
set_option linter.unusedSimpArgs false

theorem loadM (dst : Option Nat) (type : TypeId) (pos : String) (after : Array Edge) (guard : Option (Nat × Bool)) (x : Operand) (a : Act) (w : World) (next : Act → World → Prop) (Q : Exit → Act → World → Prop) :
    Oper.wp Try.prog ⟨dst, .load 29 x, type, pos, after, guard⟩ a w next Q = match a.eval x with
      | .pointer (some ad) => (match rowAt w ad with
        | some c => if c.size = 10 then next (a.put dst (.agg c)) w else slowP (Oper.wp Try.prog ⟨dst, .load 29 x, type, pos, after, guard⟩ a w next Q)
        | none => slowP (Oper.wp Try.prog ⟨dst, .load 29 x, type, pos, after, guard⟩ a w next Q))
      | _ => slowP (Oper.wp Try.prog ⟨dst, .load 29 x, type, pos, after, guard⟩ a w next Q) := by
  split
  · rename_i ad hx
    split
    · rename_i c hc
      split
      · rename_i hn
        have h := run_loadAt_any Try.prog w 29 10 (by kernel_rfl) (by kernel_rfl) (.pointer (some ad))
        simp only [hc, hn, if_true] at h
        simp only [Oper.wp, execOp, hx, Sem.run_bind, h, Result.andThen, Sem.run_pure, Oper.upon_value]
      · rfl
    · rfl
  · rfl
theorem storeM (dst : Option Nat) (type : TypeId) (pos : String) (after : Array Edge) (guard : Option (Nat × Bool)) (x y : Operand) (a : Act) (w : World) (next : Act → World → Prop) (Q : Exit → Act → World → Prop) :
    Oper.wp Try.prog ⟨dst, .store 29 x y, type, pos, after, guard⟩ a w next Q = match a.eval x, a.eval y with
      | .pointer (some ad), .agg cs => (match rowAt w ad with
        | some c => if c.size = 10 ∧ cs.size = 10 ∧ 10 ≠ 0 ∧ cs.toList.all Value.oneCell' = true then next (a.put dst undef) (setRow w ad.block cs) else slowP (Oper.wp Try.prog ⟨dst, .store 29 x y, type, pos, after, guard⟩ a w next Q)
        | none => slowP (Oper.wp Try.prog ⟨dst, .store 29 x y, type, pos, after, guard⟩ a w next Q))
      | _, _ => slowP (Oper.wp Try.prog ⟨dst, .store 29 x y, type, pos, after, guard⟩ a w next Q) := by
  split
  · rename_i ad cs hx hy
    split
    · rename_i c hc
      split
      · rename_i hn
        have h := run_storeAt_any Try.prog w 29 10 (by kernel_rfl) (.pointer (some ad)) (.agg cs)
        simp only [hc] at h
        rw [if_pos hn] at h
        simp only [Oper.wp, execOp, hx, hy, Sem.run_bind, h, Result.andThen, Sem.run_pure, Oper.upon_skip]
      · rfl
    · rfl
  · rfl
end Go.Proofs.Ytdgnblkoohakeaa
