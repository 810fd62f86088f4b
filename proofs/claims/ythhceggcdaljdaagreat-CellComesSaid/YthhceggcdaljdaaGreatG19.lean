import Derived.Test.YthhceggcdaljdaaGreatG01
namespace Go.Proofs.YthhceggcdaljdaaGreat
open Go.RowKit
set_option linter.unusedVariables false
set_option linter.unusedSimpArgs false

theorem infoInt : (Tryz.prog.info? 3).map (fun i => (i.zero, i.size, i.bytes)) = some (some (.int .i64 0), 1, 8) := by kernel_rfl

/-- v is a slice of the call's own (nil, or in a block from B on) with these numbers -/
def OwnI (B : Nat) (w : World) (v : Value) (xs : List Int) : Prop := w.ownsRow B 3 1 v xs.length (xs.map (Value.int .i64))

theorem Own5.grown {w w' : World} {b : Nat} {row : Option Nat} {v0 v1 v2 v3 v4 : Value} (h : Own5 w b v0 v1 v2 v3 v4) (hg : w.grownBy w' row) (hl : b < w.heap.size) (hne : ∀ k, row = some k → b ≠ k) : Own5 w' b v0 v1 v2 v3 v4 := by
  have hb : w'.heap[b]? = w.heap[b]? := hg.block b hl (fun e => hne b e.symm rfl)
  exact ⟨(World.cell?_of_block (a := ⟨b, 0, none⟩) hb).trans h.l0, (World.cell?_of_block (a := ⟨b, 1, none⟩) hb).trans h.l1, (World.cell?_of_block (a := ⟨b, 2, none⟩) hb).trans h.l2, (World.cell?_of_block (a := ⟨b, 3, none⟩) hb).trans h.l3, (World.cell?_of_block (a := ⟨b, 4, none⟩) hb).trans h.l4,
    (World.frozen?_of_block (a := ⟨b, 0, none⟩) hb).trans h.q0, (World.frozen?_of_block (a := ⟨b, 1, none⟩) hb).trans h.q1, (World.frozen?_of_block (a := ⟨b, 2, none⟩) hb).trans h.q2, (World.frozen?_of_block (a := ⟨b, 3, none⟩) hb).trans h.q3, (World.frozen?_of_block (a := ⟨b, 4, none⟩) hb).trans h.q4⟩

theorem OwnI.append {ops : Array Oper} {rest : List Oper} {o : Oper} {a : Act} {Q : Exit → Act → World → Prop} {w : World} (hgd : o.guard = none) (s x : Operand)
    (ho : o.op = .call { callee := .builtin .append, args := #[s, x], argTypes := #[66, 66] }) {B : Nat} {v : Value} {xs : List Int} (hown : OwnI B w v xs) (hs : a.eval s = v) (ad : Addr) (c : Nat) (z : Int)
    (hx : a.eval x = .slice (some ad) 1 c) (hz : w.cell? ad = some (.int .i64 z)) (hlen : xs.length ≤ 1000000) (hbase : B ≤ w.heap.size)
    (h : ∀ v' w', OwnI B w' v' (xs ++ [z]) → w.grownBy w' v.ownBlock → wpList Tryz.prog ops Q rest (a.put o.dst v') w') : wpList Tryz.prog ops Q (o :: rest) a w := by
  obtain ⟨i0, hi, hz0, hz1, hz2⟩ := info_parts infoInt
  refine wpList_append_own _ hgd s x 66 ho B 3 i0 (.int .i64 0) 1 8 Tryz.underlying66 hi hz0 hz1 hz2 rfl (by decide) v xs.length (xs.map (Value.int .i64)) hs hown ad 1 c [.int .i64 z] hx rfl ?_ ?_ ?_ ?_ hbase ?_
  · intro j u hu
    cases j with
    | zero => simp at hu; subst hu; simpa [Addr.add] using hz
    | succ j => simp at hu
  · intro u hu; simp at hu; subst hu; rfl
  · unfold maxLen; omega
  · omega
  · intro v' w' h1 h2 _
    refine h v' w' ?_ h2
    unfold OwnI
    simpa using h1

/-- a loop that gathers numbers: what was there is as it was, a boxed timestamp is there, and the gathered ones are of the call's own -/
structure Gath (w0 : World) (b B : Nat) (d c0 c1 c2 c3 : Int) (v : Value) (xs : List Int) (w : World) : Prop where
  below : Below w0.heap.size w0 w
  box : Own5 w b (.int .i64 d) (.int .i64 c0) (.int .i64 c1) (.int .i64 c2) (.int .i64 c3)
  own : OwnI B w v xs
  lo : w0.heap.size ≤ b
  bB : b < B
  size : B ≤ w.heap.size

theorem Gath.append {ops : Array Oper} {rest : List Oper} {o : Oper} {a : Act} {Q : Exit → Act → World → Prop} {w0 w : World} {b B : Nat} {d c0 c1 c2 c3 : Int} {v : Value} {xs : List Int} (G : Gath w0 b B d c0 c1 c2 c3 v xs w)
    (hgd : o.guard = none) (s x : Operand) (ho : o.op = .call { callee := .builtin .append, args := #[s, x], argTypes := #[66, 66] }) (hs : a.eval s = v) (z : Int) (t : TypeId)
    (hx : a.eval x = .slice (some ⟨w.heap.size, 0, none⟩) 1 1) (hlen : xs.length ≤ 1000000)
    (h : ∀ v' w', Gath w0 b B d c0 c1 c2 c3 v' (xs ++ [z]) w' → wpList Tryz.prog ops Q rest (a.put o.dst v') w') : wpList Tryz.prog ops Q (o :: rest) a (w.alloc (.cells #[.int .i64 z] t)) := by
  have hs0 := G.below.size
  have hsz := G.size
  have hbB := G.bB
  have hown' : OwnI B (w.alloc (.cells #[.int .i64 z] t)) v xs := World.ownsRow.alloc G.own _
  refine OwnI.append hgd s x ho hown' hs ⟨w.heap.size, 0, none⟩ 1 z hx (by simp [go_sem]) hlen (by simp; omega) ?_
  intro v' w' h1 h2
  have hlt := hown'.lt
  refine h v' w' ⟨?_, ?_, h1, G.lo, hbB, ?_⟩
  · exact (G.below.alloc hs0 _).grown h2 (by simp; omega) (fun k hk => by have := (hlt k hk).1; have := G.lo; omega)
  · exact (G.box.alloc _ (by omega)).grown h2 (by simp; omega) (fun k hk => by have := (hlt k hk).1; omega)
  · have := h2.size; simp at this; omega
end Go.Proofs.YthhceggcdaljdaaGreat
namespace Go.Proofs.YthhceggcdaljdaaGreat
open Go.RowKit
set_option linter.unusedVariables false
set_option linter.unusedSimpArgs false

def coords (d c0 c1 c2 c3 : Int) : List Int := [c0, c1, c2, c3].take d.toNat
def ListPost (d c0 c1 c2 c3 : Int) (w : World) (e : Ending) (w' : World) : Prop :=
  (rightB d c0 c1 c2 c3 = true ∧ ∃ v, e = .returned (.tuple #[v, .bool true]) ∧ OwnI (w.heap.size + 1) w' v (coords d c0 c1 c2 c3) ∧ Below w.heap.size w w') ∨
  (rightB d c0 c1 c2 c3 = false ∧ e = .returned (.tuple #[.slice none 0 0, .bool false]) ∧ Below w.heap.size w w')
theorem right_no {d c0 c1 c2 c3 : Int} (h : ¬ rightP d c0 c1 c2 c3) : rightB d c0 c1 c2 c3 = false := decide_eq_false h

set_option maxHeartbeats 4000000 in
theorem list_1 (c0 c1 c2 c3 : Int) (w : World) : Calls Tryz.prog 52 #[.agg #[.int .i64 1, .int .i64 c0, .int .i64 c1, .int .i64 c2, .int .i64 c3]] w (ListPost 1 c0 c1 c2 c3 w) := by
  go_enter Tryz.func52, Tryz.ntmps52
  go_wp2
  refine gen_world (Gath w w.heap.size (w.heap.size + 1) 1 c0 c1 c2 c3 (.slice none 0 0) []) ⟨by repeat' (first | (with_reducible refine below_drewN ?_ _) | go_grown), Own5.new _ _ _ _ _ _ _, World.ownsRow_nil _ _ _ _, Nat.le_refl _, by omega, by simp⟩ ?_
  intro wr G
  refine wp_loop_rounds 5 ?_
  obtain ⟨p0, p1, p2, p3, p4, q0, q1, q2, q3, q4⟩ := G.box
  by_cases hl0 : c0 < 0
  · rw [rounds_succ]; go_wp2
    go_returns
    exact Or.inr ⟨right_no (fun h => by simp [rightP, greatestS] at h; omega), rfl, G.below⟩
  by_cases hu0 : 1048576 < c0
  · rw [rounds_succ]; go_wp2
    go_returns
    exact Or.inr ⟨right_no (fun h => by simp [rightP, greatestS] at h; omega), rfl, G.below⟩
  rw [rounds_succ]
  go_wp2_with (at_builtin; refine Gath.append G rfl _ _ rfl rfl c0 _ rfl (by simp) ?_; intro v0 w0 G0)
  clear p0 p1 p2 p3 p4 q0 q1 q2 q3 q4
  obtain ⟨p0, p1, p2, p3, p4, q0, q1, q2, q3, q4⟩ := G0.box
  by_cases hz1 : (c1 != 0) = true
  · rw [rounds_succ]; go_wp2
    go_returns
    exact Or.inr ⟨right_no (fun h => by simp [rightP, greatestS] at h hz1; omega), rfl, G0.below⟩
  replace hz1 : (c1 != 0) = false := by simpa using hz1
  rw [rounds_succ]; go_wp2
  clear p0 p1 p2 p3 p4 q0 q1 q2 q3 q4
  obtain ⟨p0, p1, p2, p3, p4, q0, q1, q2, q3, q4⟩ := G0.box
  by_cases hz2 : (c2 != 0) = true
  · rw [rounds_succ]; go_wp2
    go_returns
    exact Or.inr ⟨right_no (fun h => by simp [rightP, greatestS] at h hz2; omega), rfl, G0.below⟩
  replace hz2 : (c2 != 0) = false := by simpa using hz2
  rw [rounds_succ]; go_wp2
  clear p0 p1 p2 p3 p4 q0 q1 q2 q3 q4
  obtain ⟨p0, p1, p2, p3, p4, q0, q1, q2, q3, q4⟩ := G0.box
  by_cases hz3 : (c3 != 0) = true
  · rw [rounds_succ]; go_wp2
    go_returns
    exact Or.inr ⟨right_no (fun h => by simp [rightP, greatestS] at h hz3; omega), rfl, G0.below⟩
  replace hz3 : (c3 != 0) = false := by simpa using hz3
  rw [rounds_succ]; go_wp2
  clear p0 p1 p2 p3 p4 q0 q1 q2 q3 q4
  rw [rounds_succ]; go_wp2
  go_returns
  have y1 : c1 = 0 := by simpa using hz1
  have y2 : c2 = 0 := by simpa using hz2
  have y3 : c3 = 0 := by simpa using hz3
  exact Or.inl ⟨decide_eq_true (by simp [rightP, greatestS]; omega), _, rfl, by simpa [coords] using G0.own, G0.below⟩

set_option maxHeartbeats 4000000 in
theorem list_2 (c0 c1 c2 c3 : Int) (w : World) : Calls Tryz.prog 52 #[.agg #[.int .i64 2, .int .i64 c0, .int .i64 c1, .int .i64 c2, .int .i64 c3]] w (ListPost 2 c0 c1 c2 c3 w) := by
  go_enter Tryz.func52, Tryz.ntmps52
  go_wp2
  refine gen_world (Gath w w.heap.size (w.heap.size + 1) 2 c0 c1 c2 c3 (.slice none 0 0) []) ⟨by repeat' (first | (with_reducible refine below_drewN ?_ _) | go_grown), Own5.new _ _ _ _ _ _ _, World.ownsRow_nil _ _ _ _, Nat.le_refl _, by omega, by simp⟩ ?_
  intro wr G
  refine wp_loop_rounds 5 ?_
  obtain ⟨p0, p1, p2, p3, p4, q0, q1, q2, q3, q4⟩ := G.box
  by_cases hl0 : c0 < 0
  · rw [rounds_succ]; go_wp2
    go_returns
    exact Or.inr ⟨right_no (fun h => by simp [rightP, greatestS] at h; omega), rfl, G.below⟩
  by_cases hu0 : 1048576 < c0
  · rw [rounds_succ]; go_wp2
    go_returns
    exact Or.inr ⟨right_no (fun h => by simp [rightP, greatestS] at h; omega), rfl, G.below⟩
  rw [rounds_succ]
  go_wp2_with (at_builtin; refine Gath.append G rfl _ _ rfl rfl c0 _ rfl (by simp) ?_; intro v0 w0 G0)
  clear p0 p1 p2 p3 p4 q0 q1 q2 q3 q4
  obtain ⟨p0, p1, p2, p3, p4, q0, q1, q2, q3, q4⟩ := G0.box
  by_cases hl1 : c1 < 0
  · rw [rounds_succ]; go_wp2
    go_returns
    exact Or.inr ⟨right_no (fun h => by simp [rightP, greatestS] at h; omega), rfl, G0.below⟩
  by_cases hu1 : 64 < c1
  · rw [rounds_succ]; go_wp2
    go_returns
    exact Or.inr ⟨right_no (fun h => by simp [rightP, greatestS] at h; omega), rfl, G0.below⟩
  rw [rounds_succ]
  go_wp2_with (at_builtin; refine Gath.append G0 rfl _ _ rfl rfl c1 _ rfl (by simp) ?_; intro v1 w1 G1)
  clear p0 p1 p2 p3 p4 q0 q1 q2 q3 q4
  obtain ⟨p0, p1, p2, p3, p4, q0, q1, q2, q3, q4⟩ := G1.box
  by_cases hz2 : (c2 != 0) = true
  · rw [rounds_succ]; go_wp2
    go_returns
    exact Or.inr ⟨right_no (fun h => by simp [rightP, greatestS] at h hz2; omega), rfl, G1.below⟩
  replace hz2 : (c2 != 0) = false := by simpa using hz2
  rw [rounds_succ]; go_wp2
  clear p0 p1 p2 p3 p4 q0 q1 q2 q3 q4
  obtain ⟨p0, p1, p2, p3, p4, q0, q1, q2, q3, q4⟩ := G1.box
  by_cases hz3 : (c3 != 0) = true
  · rw [rounds_succ]; go_wp2
    go_returns
    exact Or.inr ⟨right_no (fun h => by simp [rightP, greatestS] at h hz3; omega), rfl, G1.below⟩
  replace hz3 : (c3 != 0) = false := by simpa using hz3
  rw [rounds_succ]; go_wp2
  clear p0 p1 p2 p3 p4 q0 q1 q2 q3 q4
  rw [rounds_succ]; go_wp2
  go_returns
  have y2 : c2 = 0 := by simpa using hz2
  have y3 : c3 = 0 := by simpa using hz3
  exact Or.inl ⟨decide_eq_true (by simp [rightP, greatestS]; omega), _, rfl, by simpa [coords] using G1.own, G1.below⟩

set_option maxHeartbeats 4000000 in
theorem list_3 (c0 c1 c2 c3 : Int) (w : World) : Calls Tryz.prog 52 #[.agg #[.int .i64 3, .int .i64 c0, .int .i64 c1, .int .i64 c2, .int .i64 c3]] w (ListPost 3 c0 c1 c2 c3 w) := by
  go_enter Tryz.func52, Tryz.ntmps52
  go_wp2
  refine gen_world (Gath w w.heap.size (w.heap.size + 1) 3 c0 c1 c2 c3 (.slice none 0 0) []) ⟨by repeat' (first | (with_reducible refine below_drewN ?_ _) | go_grown), Own5.new _ _ _ _ _ _ _, World.ownsRow_nil _ _ _ _, Nat.le_refl _, by omega, by simp⟩ ?_
  intro wr G
  refine wp_loop_rounds 5 ?_
  obtain ⟨p0, p1, p2, p3, p4, q0, q1, q2, q3, q4⟩ := G.box
  by_cases hl0 : c0 < 0
  · rw [rounds_succ]; go_wp2
    go_returns
    exact Or.inr ⟨right_no (fun h => by simp [rightP, greatestS] at h; omega), rfl, G.below⟩
  by_cases hu0 : 1048576 < c0
  · rw [rounds_succ]; go_wp2
    go_returns
    exact Or.inr ⟨right_no (fun h => by simp [rightP, greatestS] at h; omega), rfl, G.below⟩
  rw [rounds_succ]
  go_wp2_with (at_builtin; refine Gath.append G rfl _ _ rfl rfl c0 _ rfl (by simp) ?_; intro v0 w0 G0)
  clear p0 p1 p2 p3 p4 q0 q1 q2 q3 q4
  obtain ⟨p0, p1, p2, p3, p4, q0, q1, q2, q3, q4⟩ := G0.box
  by_cases hl1 : c1 < 0
  · rw [rounds_succ]; go_wp2
    go_returns
    exact Or.inr ⟨right_no (fun h => by simp [rightP, greatestS] at h; omega), rfl, G0.below⟩
  by_cases hu1 : 64 < c1
  · rw [rounds_succ]; go_wp2
    go_returns
    exact Or.inr ⟨right_no (fun h => by simp [rightP, greatestS] at h; omega), rfl, G0.below⟩
  rw [rounds_succ]
  go_wp2_with (at_builtin; refine Gath.append G0 rfl _ _ rfl rfl c1 _ rfl (by simp) ?_; intro v1 w1 G1)
  clear p0 p1 p2 p3 p4 q0 q1 q2 q3 q4
  obtain ⟨p0, p1, p2, p3, p4, q0, q1, q2, q3, q4⟩ := G1.box
  by_cases hl2 : c2 < 0
  · rw [rounds_succ]; go_wp2
    go_returns
    exact Or.inr ⟨right_no (fun h => by simp [rightP, greatestS] at h; omega), rfl, G1.below⟩
  by_cases hu2 : 64 < c2
  · rw [rounds_succ]; go_wp2
    go_returns
    exact Or.inr ⟨right_no (fun h => by simp [rightP, greatestS] at h; omega), rfl, G1.below⟩
  rw [rounds_succ]
  go_wp2_with (at_builtin; refine Gath.append G1 rfl _ _ rfl rfl c2 _ rfl (by simp) ?_; intro v2 w2 G2)
  clear p0 p1 p2 p3 p4 q0 q1 q2 q3 q4
  obtain ⟨p0, p1, p2, p3, p4, q0, q1, q2, q3, q4⟩ := G2.box
  by_cases hz3 : (c3 != 0) = true
  · rw [rounds_succ]; go_wp2
    go_returns
    exact Or.inr ⟨right_no (fun h => by simp [rightP, greatestS] at h hz3; omega), rfl, G2.below⟩
  replace hz3 : (c3 != 0) = false := by simpa using hz3
  rw [rounds_succ]; go_wp2
  clear p0 p1 p2 p3 p4 q0 q1 q2 q3 q4
  rw [rounds_succ]; go_wp2
  go_returns
  have y3 : c3 = 0 := by simpa using hz3
  exact Or.inl ⟨decide_eq_true (by simp [rightP, greatestS]; omega), _, rfl, by simpa [coords] using G2.own, G2.below⟩

set_option maxHeartbeats 4000000 in
theorem list_4 (c0 c1 c2 c3 : Int) (w : World) : Calls Tryz.prog 52 #[.agg #[.int .i64 4, .int .i64 c0, .int .i64 c1, .int .i64 c2, .int .i64 c3]] w (ListPost 4 c0 c1 c2 c3 w) := by
  go_enter Tryz.func52, Tryz.ntmps52
  go_wp2
  refine gen_world (Gath w w.heap.size (w.heap.size + 1) 4 c0 c1 c2 c3 (.slice none 0 0) []) ⟨by repeat' (first | (with_reducible refine below_drewN ?_ _) | go_grown), Own5.new _ _ _ _ _ _ _, World.ownsRow_nil _ _ _ _, Nat.le_refl _, by omega, by simp⟩ ?_
  intro wr G
  refine wp_loop_rounds 5 ?_
  obtain ⟨p0, p1, p2, p3, p4, q0, q1, q2, q3, q4⟩ := G.box
  by_cases hl0 : c0 < 0
  · rw [rounds_succ]; go_wp2
    go_returns
    exact Or.inr ⟨right_no (fun h => by simp [rightP, greatestS] at h; omega), rfl, G.below⟩
  by_cases hu0 : 1048576 < c0
  · rw [rounds_succ]; go_wp2
    go_returns
    exact Or.inr ⟨right_no (fun h => by simp [rightP, greatestS] at h; omega), rfl, G.below⟩
  rw [rounds_succ]
  go_wp2_with (at_builtin; refine Gath.append G rfl _ _ rfl rfl c0 _ rfl (by simp) ?_; intro v0 w0 G0)
  clear p0 p1 p2 p3 p4 q0 q1 q2 q3 q4
  obtain ⟨p0, p1, p2, p3, p4, q0, q1, q2, q3, q4⟩ := G0.box
  by_cases hl1 : c1 < 0
  · rw [rounds_succ]; go_wp2
    go_returns
    exact Or.inr ⟨right_no (fun h => by simp [rightP, greatestS] at h; omega), rfl, G0.below⟩
  by_cases hu1 : 64 < c1
  · rw [rounds_succ]; go_wp2
    go_returns
    exact Or.inr ⟨right_no (fun h => by simp [rightP, greatestS] at h; omega), rfl, G0.below⟩
  rw [rounds_succ]
  go_wp2_with (at_builtin; refine Gath.append G0 rfl _ _ rfl rfl c1 _ rfl (by simp) ?_; intro v1 w1 G1)
  clear p0 p1 p2 p3 p4 q0 q1 q2 q3 q4
  obtain ⟨p0, p1, p2, p3, p4, q0, q1, q2, q3, q4⟩ := G1.box
  by_cases hl2 : c2 < 0
  · rw [rounds_succ]; go_wp2
    go_returns
    exact Or.inr ⟨right_no (fun h => by simp [rightP, greatestS] at h; omega), rfl, G1.below⟩
  by_cases hu2 : 64 < c2
  · rw [rounds_succ]; go_wp2
    go_returns
    exact Or.inr ⟨right_no (fun h => by simp [rightP, greatestS] at h; omega), rfl, G1.below⟩
  rw [rounds_succ]
  go_wp2_with (at_builtin; refine Gath.append G1 rfl _ _ rfl rfl c2 _ rfl (by simp) ?_; intro v2 w2 G2)
  clear p0 p1 p2 p3 p4 q0 q1 q2 q3 q4
  obtain ⟨p0, p1, p2, p3, p4, q0, q1, q2, q3, q4⟩ := G2.box
  by_cases hl3 : c3 < 0
  · rw [rounds_succ]; go_wp2
    go_returns
    exact Or.inr ⟨right_no (fun h => by simp [rightP, greatestS] at h; omega), rfl, G2.below⟩
  by_cases hu3 : 64 < c3
  · rw [rounds_succ]; go_wp2
    go_returns
    exact Or.inr ⟨right_no (fun h => by simp [rightP, greatestS] at h; omega), rfl, G2.below⟩
  rw [rounds_succ]
  go_wp2_with (at_builtin; refine Gath.append G2 rfl _ _ rfl rfl c3 _ rfl (by simp) ?_; intro v3 w3 G3)
  clear p0 p1 p2 p3 p4 q0 q1 q2 q3 q4
  rw [rounds_succ]; go_wp2
  go_returns
  exact Or.inl ⟨decide_eq_true (by simp [rightP, greatestS]; omega), _, rfl, by simpa [coords] using G3.own, G3.below⟩

set_option maxHeartbeats 400000 in
theorem list_any (d c0 c1 c2 c3 : Int) (w : World) : Calls Tryz.prog 52 #[.agg #[.int .i64 d, .int .i64 c0, .int .i64 c1, .int .i64 c2, .int .i64 c3]] w (ListPost d c0 c1 c2 c3 w) := by
  by_cases h1 : d < 1
  · go_enter Tryz.func52, Tryz.ntmps52
    go_wp2
    go_returns
    exact Or.inr ⟨right_no (fun h => by have := h.1; omega), rfl, by repeat' (first | (with_reducible refine below_drewN ?_ _) | go_grown)⟩
  · by_cases h4 : 4 < d
    · go_enter Tryz.func52, Tryz.ntmps52
      go_wp2
      go_returns
      exact Or.inr ⟨right_no (fun h => by have := h.2.1; omega), rfl, by repeat' (first | (with_reducible refine below_drewN ?_ _) | go_grown)⟩
    · have : d = 1 ∨ d = 2 ∨ d = 3 ∨ d = 4 := by omega
      rcases this with rfl | rfl | rfl | rfl
      · exact list_1 c0 c1 c2 c3 w
      · exact list_2 c0 c1 c2 c3 w
      · exact list_3 c0 c1 c2 c3 w
      · exact list_4 c0 c1 c2 c3 w
end Go.Proofs.YthhceggcdaljdaaGreat
namespace Go.Proofs.YthhceggcdaljdaaGreat
open Go.RowKit
set_option linter.unusedVariables false
set_option linter.unusedSimpArgs false

def nth (xs : List Int) (i : Nat) : Int := xs.getD i 0
/-- the timestamp of these coordinates, if it is right -/
def ofB (xs : List Int) : Bool := rightB xs.length (nth xs 0) (nth xs 1) (nth xs 2) (nth xs 3)
def ofV (xs : List Int) : Value := stepV (ofB xs) xs.length (nth xs 0) (nth xs 1) (nth xs 2) (nth xs 3)
theorem ofV_no {xs : List Int} (h : ofB xs = false) : ofV xs = stepV false 0 0 0 0 0 := by unfold ofV; rw [h]; rfl

theorem OwnI.shape {B : Nat} {w : World} {v : Value} {xs : List Int} (h : OwnI B w v xs) : v = .slice none 0 0 ∧ xs = [] ∨ ∃ g cap, v = .slice (some ⟨g, 0, none⟩) xs.length cap ∧ g < w.heap.size ∧ B ≤ g ∧ xs.length ≤ cap ∧ cap ≤ maxLen ∧ (∀ j, j < xs.length → w.cell? ⟨g, j, none⟩ = some (.int .i64 (nth xs j))) ∧ ∀ j, w.frozen? ⟨g, j, none⟩ = false := by
  have h0 := h
  rcases h.2 with ⟨hv, hn⟩ | ⟨g, cap, cur, rfl, hb, hg, hc, hm, _, _⟩
  · exact .inl ⟨hv, List.length_eq_zero_iff.1 hn⟩
  · refine .inr ⟨g, cap, rfl, (Array.getElem?_eq_some_iff.1 hg).1, hb, hc, hm, fun j hj => ?_, fun j => World.ownsRow.frozenAt (w := w) (base := B) (e := 3) (size := 1) h0 j⟩
    have e : w.cell? ⟨g, j, none⟩ = (xs.map (Value.int .i64))[j]? := World.ownsRow.cellAt (w := w) (base := B) (e := 3) (size := 1) h0 j (by omega)
    rw [e]
    simp [nth, hj]

end Go.Proofs.YthhceggcdaljdaaGreat
