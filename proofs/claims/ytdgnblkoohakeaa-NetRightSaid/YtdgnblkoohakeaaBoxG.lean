import Derived.Test.YtdgnblkoohakeaaBox
namespace Go.Proofs.Ytdgnblkoohakeaa
open Go.RowKit
set_option linter.unusedVariables false
set_option linter.unusedSimpArgs false

theorem one_int (k : IntKind) (n : Int) : (Value.int k n).oneCell' = true := rfl
theorem one_bool (b : Bool) : (Value.bool b).oneCell' = true := rfl
/-- the row that begins at an address -/
def rowAt (w : World) (a : Addr) : Option (Array Value) := if a.off = 0 ∧ a.spot = none then rowOf w a.block else none
theorem rowAt_head (w : World) (b : Nat) : rowAt w ⟨b, 0, none⟩ = rowOf w b := rfl
theorem at_head {w : World} {a : Addr} {c : Array Value} (h : rowAt w a = some c) : a = ⟨a.block, 0, none⟩ ∧ rowOf w a.block = some c := by
  unfold rowAt at h
  split at h
  · rename_i q
    obtain ⟨b, o, sp⟩ := a
    obtain ⟨rfl, rfl⟩ := q
    exact ⟨rfl, h⟩
  · cases h
theorem run_loadVar_at (P : Program) (w : World) (t : TypeId) (a : Addr) (n : Nat) (ha : (isAgg t).run P w = .ok true w) (hs : (sizeOf t).run P w = .ok n w) :
    (loadVar t a).run P w = match rowAt w a with
      | some c => if c.size = n then .ok (.agg c) w else (slow (loadVar t a)).run P w
      | none => (slow (loadVar t a)).run P w := by
  split
  · rename_i c hc
    obtain ⟨h1, h2⟩ := at_head hc
    rw [h1]
    rw [run_loadVar_of P w t a.block n ha hs, h2]
  · rfl
theorem run_storeVar_at (P : Program) (w : World) (t : TypeId) (a : Addr) (n : Nat) (cs : Array Value) (hs : (sizeOf t).run P w = .ok n w) :
    (storeVar t a (.agg cs)).run P w = match rowAt w a with
      | some c => if c.size = n ∧ cs.size = n ∧ n ≠ 0 ∧ cs.toList.all Value.oneCell' = true then .ok () (setRow w a.block cs) else (slow (storeVar t a (.agg cs))).run P w
      | none => (slow (storeVar t a (.agg cs))).run P w := by
  split
  · rename_i c hc
    obtain ⟨h1, h2⟩ := at_head hc
    rw [h1]
    rw [run_storeVar_of P w t a.block n cs hs, h2]
  · rfl
theorem run_loadAt_any (P : Program) (w : World) (t : TypeId) (n : Nat) (ha : (isAgg t).run P w = .ok true w) (hs : (sizeOf t).run P w = .ok n w) (p : Value) :
    (Instr.loadAt t p).run P w = match p with
      | .pointer (some a) => (match rowAt w a with
        | some c => if c.size = n then .ok (.agg c) w else (slow (Instr.loadAt t (.pointer (some a)))).run P w
        | none => (slow (Instr.loadAt t (.pointer (some a)))).run P w)
      | p => (slow (Instr.loadAt t p)).run P w := by
  split
  · rename_i a
    have h : (Instr.loadAt t (.pointer (some a))).run P w = (loadVar t a).run P w := by simp [Instr.loadAt, Instr.sureAddr]
    rw [h, run_loadVar_at P w t a n ha hs]
    split
    · split
      · rfl
      · exact h.symm
    · exact h.symm
  · rfl
theorem run_storeAt_any (P : Program) (w : World) (t : TypeId) (n : Nat) (hs : (sizeOf t).run P w = .ok n w) (p v : Value) :
    (Instr.storeAt t p v).run P w = match p, v with
      | .pointer (some a), .agg cs => (match rowAt w a with
        | some c => if c.size = n ∧ cs.size = n ∧ n ≠ 0 ∧ cs.toList.all Value.oneCell' = true then .ok () (setRow w a.block cs) else (slow (Instr.storeAt t (.pointer (some a)) (.agg cs))).run P w
        | none => (slow (Instr.storeAt t (.pointer (some a)) (.agg cs))).run P w)
      | p, v => (slow (Instr.storeAt t p v)).run P w := by
  split
  · rename_i a cs
    have h : (Instr.storeAt t (.pointer (some a)) (.agg cs)).run P w = (storeVar t a (.agg cs)).run P w := by simp [Instr.storeAt, Instr.sureAddr]
    rw [h, run_storeVar_at P w t a n cs hs]
    split
    · split
      · rfl
      · exact h.symm
    · exact h.symm
  · rfl
def slowP (p : Prop) : Prop := p
theorem row_new {w : World} {c : Array Value} {t : TypeId} {n : Nat} (hn : n = w.heap.size) : rowOf (w.alloc (.cells c t)) n = some c := rowOf_alloc_at c t n hn
theorem row_old {w : World} {o : Obj} {n : Nat} {c : Array Value} (h : rowOf w n = some c) : rowOf (w.alloc o) n = some c := (rowOf_alloc_past o n (rowOf_lt h)).trans h
theorem row_drew {w : World} {n : Nat} {c : Array Value} (h : rowOf w n = some c) : rowOf w.drew n = some c := h
theorem row_drewN {w : World} {m n : Nat} {c : Array Value} (h : rowOf w n = some c) : rowOf (w.drewN m) n = some c := h
theorem row_set_other {w : World} {b n : Nat} {c c' : Array Value} (h : rowOf w n = some c) (hne : n ≠ b) : rowOf (setRow w b c') n = some c := (rowOf_setRow_other b n c' hne).trans h
theorem row_set_same {w : World} {b : Nat} {c c' : Array Value} (h : rowOf w b = some c) : rowOf (setRow w b c') b = some c' := rowOf_setRow_same b c' (by rw [h]; rfl)
theorem row_cell_other {w : World} {b i n : Nat} {v : Value} {c : Array Value} (h : rowOf w n = some c) (hne : n ≠ b) : rowOf (w.setCell ⟨b, i, none⟩ v) n = some c := (rowOf_setCell_other ⟨b, i, none⟩ n v hne).trans h
theorem row_cell_same {w : World} {b i : Nat} {v : Value} {c c' : Array Value} (h : rowOf w b = some c) (e : c.setIfInBounds i v = c') : rowOf (w.setCell ⟨b, i, none⟩ v) b = some c' := by rw [rowOf_setCell_same, h]; simp [e]
theorem cell_setRow_same {w : World} (b i : Nat) (c : Array Value) (h : (rowOf w b).isSome = true) : (setRow w b c).cell? ⟨b, i, none⟩ = c[i]? := rowOf_cell (rowOf_setRow_same b c h) i
theorem frozen_setRow_same {w : World} (b i : Nat) (c : Array Value) (h : (rowOf w b).isSome = true) : (setRow w b c).frozen? ⟨b, i, none⟩ = false := rowOf_frozen (rowOf_setRow_same b c h) i
theorem cell_setRow_other {w : World} (b n i : Nat) (c : Array Value) (h : n ≠ b) : (setRow w b c).cell? ⟨n, i, none⟩ = w.cell? ⟨n, i, none⟩ := World.cell?_of_block (w := w) (heap_setRow w b c n h)
theorem frozen_setRow_other {w : World} (b n i : Nat) (c : Array Value) (h : n ≠ b) : (setRow w b c).frozen? ⟨n, i, none⟩ = w.frozen? ⟨n, i, none⟩ := World.frozen?_of_block (w := w) (heap_setRow w b c n h)
/-- old memory is as it was: from one world to the next -/
theorem bstep {B : Nat} {a W w1 : World} (h : Below B a W) (hb : Below W.heap.size W w1) (hB : B ≤ W.heap.size) : Below B a w1 := h.trans (hb.mono hB)
theorem blast {B : Nat} {a w : World} (h : Below B a w) (n : Nat) : Below B a (w.drewN n) := ⟨h.os, h.tape, h.output, h.size, h.block⟩
end Go.Proofs.Ytdgnblkoohakeaa
