import Derived.Test.YtimfpbmlbihlnaaTs3
namespace Go.Proofs.Ytimfpbmlbihlnaa
open Go.RowKit
set_option linter.unusedVariables false
set_option linter.unusedSimpArgs false

theorem infoInt : (Try.prog.info? 3).map (fun i => (i.zero, i.size, i.bytes)) = some (some (.int .i64 0), 1, 8) := by kernel_rfl

/-- v is a slice of the call's own (nil, or in a block from B on) with these numbers -/
def OwnI (B : Nat) (w : World) (v : Value) (xs : List Int) : Prop := w.ownsRow B 3 1 v xs.length (xs.map (Value.int .i64))

theorem Own5.grown {w w' : World} {b : Nat} {row : Option Nat} {v0 v1 v2 v3 v4 : Value} (h : Own5 w b v0 v1 v2 v3 v4) (hg : w.grownBy w' row) (hl : b < w.heap.size) (hne : ∀ k, row = some k → b ≠ k) : Own5 w' b v0 v1 v2 v3 v4 := by
  have hb : w'.heap[b]? = w.heap[b]? := hg.block b hl (fun e => hne b e.symm rfl)
  exact ⟨(World.cell?_of_block (a := ⟨b, 0, none⟩) hb).trans h.l0, (World.cell?_of_block (a := ⟨b, 1, none⟩) hb).trans h.l1, (World.cell?_of_block (a := ⟨b, 2, none⟩) hb).trans h.l2, (World.cell?_of_block (a := ⟨b, 3, none⟩) hb).trans h.l3, (World.cell?_of_block (a := ⟨b, 4, none⟩) hb).trans h.l4,
    (World.frozen?_of_block (a := ⟨b, 0, none⟩) hb).trans h.q0, (World.frozen?_of_block (a := ⟨b, 1, none⟩) hb).trans h.q1, (World.frozen?_of_block (a := ⟨b, 2, none⟩) hb).trans h.q2, (World.frozen?_of_block (a := ⟨b, 3, none⟩) hb).trans h.q3, (World.frozen?_of_block (a := ⟨b, 4, none⟩) hb).trans h.q4⟩

theorem OwnI.append {ops : Array Oper} {rest : List Oper} {o : Oper} {a : Act} {Q : Exit → Act → World → Prop} {w : World} (hgd : o.guard = none) (s x : Operand)
    (ho : o.op = .call { callee := .builtin .append, args := #[s, x], argTypes := #[45, 45] }) {B : Nat} {v : Value} {xs : List Int} (hown : OwnI B w v xs) (hs : a.eval s = v) (ad : Addr) (c : Nat) (z : Int)
    (hx : a.eval x = .slice (some ad) 1 c) (hz : w.cell? ad = some (.int .i64 z)) (hlen : xs.length ≤ 1000000) (hbase : B ≤ w.heap.size)
    (h : ∀ v' w', OwnI B w' v' (xs ++ [z]) → w.grownBy w' v.ownBlock → wpList Try.prog ops Q rest (a.put o.dst v') w') : wpList Try.prog ops Q (o :: rest) a w := by
  obtain ⟨i0, hi, hz0, hz1, hz2⟩ := info_parts infoInt
  refine wpList_append_own _ hgd s x 45 ho B 3 i0 (.int .i64 0) 1 8 Try.underlying45 hi hz0 hz1 hz2 rfl (by decide) v xs.length (xs.map (Value.int .i64)) hs hown ad 1 c [.int .i64 z] hx rfl ?_ ?_ ?_ ?_ hbase ?_
  · intro j u hu
    cases j with
    | zero => simp at hu; subst hu; simpa [Addr.add] using hz
    | succ j => simp at hu
  · intro u hu; simp at hu; subst hu; rfl
  · unfold maxLen; omega
  · omega
  · intro v' w' h1 h2 _
    refine h v' w' ?_ h2
    unfold OwnI
    simpa using h1

/-- a loop that gathers numbers: what was there is as it was, a boxed timestamp is there, and the gathered ones are of the call's own -/
structure Gath (w0 : World) (b B : Nat) (d c0 c1 c2 c3 : Int) (v : Value) (xs : List Int) (w : World) : Prop where
  below : Below w0.heap.size w0 w
  box : Own5 w b (.int .i64 d) (.int .i64 c0) (.int .i64 c1) (.int .i64 c2) (.int .i64 c3)
  own : OwnI B w v xs
  lo : w0.heap.size ≤ b
  bB : b < B
  size : B ≤ w.heap.size

theorem Gath.append {ops : Array Oper} {rest : List Oper} {o : Oper} {a : Act} {Q : Exit → Act → World → Prop} {w0 w : World} {b B : Nat} {d c0 c1 c2 c3 : Int} {v : Value} {xs : List Int} (G : Gath w0 b B d c0 c1 c2 c3 v xs w)
    (hgd : o.guard = none) (s x : Operand) (ho : o.op = .call { callee := .builtin .append, args := #[s, x], argTypes := #[45, 45] }) (hs : a.eval s = v) (z : Int) (t : TypeId)
    (hx : a.eval x = .slice (some ⟨w.heap.size, 0, none⟩) 1 1) (hlen : xs.length ≤ 1000000)
    (h : ∀ v' w', Gath w0 b B d c0 c1 c2 c3 v' (xs ++ [z]) w' → wpList Try.prog ops Q rest (a.put o.dst v') w') : wpList Try.prog ops Q (o :: rest) a (w.alloc (.cells #[.int .i64 z] t)) := by
  have hs0 := G.below.size
  have hsz := G.size
  have hbB := G.bB
  have hown' : OwnI B (w.alloc (.cells #[.int .i64 z] t)) v xs := World.ownsRow.alloc G.own _
  refine OwnI.append hgd s x ho hown' hs ⟨w.heap.size, 0, none⟩ 1 z hx (by simp [go_sem]) hlen (by simp; omega) ?_
  intro v' w' h1 h2
  have hlt := hown'.lt
  refine h v' w' ⟨?_, ?_, h1, G.lo, hbB, ?_⟩
  · exact (G.below.alloc hs0 _).grown h2 (by simp; omega) (fun k hk => by have := (hlt k hk).1; have := G.lo; omega)
  · exact (G.box.alloc _ (by omega)).grown h2 (by simp; omega) (fun k hk => by have := (hlt k hk).1; omega)
  · have := h2.size; simp at this; omega
end Go.Proofs.Ytimfpbmlbihlnaa
