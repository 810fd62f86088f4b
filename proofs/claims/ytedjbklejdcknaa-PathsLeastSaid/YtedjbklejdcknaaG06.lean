import Derived.Test.YtedjbklejdcknaaG05
import Derived.Test.YtedjbklejdcknaaG04
import Derived.Deep.QuietTactic
import Derived.BigQuiet
import Derived.Deep.RegionWith
namespace Go.Proofs.Ytedjbklejdcknaa
open Go.RowKit
set_option linter.unusedVariables false
set_option linter.unusedSimpArgs false

theorem loadH (dst : Option Nat) (type : TypeId) (pos : String) (after : Array Edge) (guard : Option (Nat × Bool)) (x : Operand) (a : Act) (w : World) (next : Act → World → Prop) (Q : Exit → Act → World → Prop) :
    Oper.wp Try.prog ⟨dst, .load 39 x, type, pos, after, guard⟩ a w next Q = match a.eval x with
      | .pointer (some ad) => (match rowAt w ad with
        | some c => if c.size = 11 then next (a.put dst (.agg c)) w else slowP (Oper.wp Try.prog ⟨dst, .load 39 x, type, pos, after, guard⟩ a w next Q)
        | none => slowP (Oper.wp Try.prog ⟨dst, .load 39 x, type, pos, after, guard⟩ a w next Q))
      | _ => slowP (Oper.wp Try.prog ⟨dst, .load 39 x, type, pos, after, guard⟩ a w next Q) := by
  split
  · rename_i ad hx
    split
    · rename_i c hc
      split
      · rename_i hn
        have h := run_loadAt_any Try.prog w 39 11 (by kernel_rfl) (by kernel_rfl) (.pointer (some ad))
        simp only [hc, hn, if_true] at h
        simp only [Oper.wp, execOp, hx, Sem.run_bind, h, Result.andThen, Sem.run_pure, Oper.upon_value]
      · rfl
    · rfl
  · rfl
theorem storeH (dst : Option Nat) (type : TypeId) (pos : String) (after : Array Edge) (guard : Option (Nat × Bool)) (x y : Operand) (a : Act) (w : World) (next : Act → World → Prop) (Q : Exit → Act → World → Prop) :
    Oper.wp Try.prog ⟨dst, .store 39 x y, type, pos, after, guard⟩ a w next Q = match a.eval x, a.eval y with
      | .pointer (some ad), .agg cs => (match rowAt w ad with
        | some c => if c.size = 11 ∧ cs.size = 11 ∧ 11 ≠ 0 ∧ cs.toList.all Value.oneCell' = true then next (a.put dst undef) (setRow w ad.block cs) else slowP (Oper.wp Try.prog ⟨dst, .store 39 x y, type, pos, after, guard⟩ a w next Q)
        | none => slowP (Oper.wp Try.prog ⟨dst, .store 39 x y, type, pos, after, guard⟩ a w next Q))
      | _, _ => slowP (Oper.wp Try.prog ⟨dst, .store 39 x y, type, pos, after, guard⟩ a w next Q) := by
  split
  · rename_i ad cs hx hy
    split
    · rename_i c hc
      split
      · rename_i hn
        have h := run_storeAt_any Try.prog w 39 11 (by kernel_rfl) (.pointer (some ad)) (.agg cs)
        simp only [hc] at h
        rw [if_pos hn] at h
        simp only [Oper.wp, execOp, hx, hy, Sem.run_bind, h, Result.andThen, Sem.run_pure, Oper.upon_skip]
      · rfl
    · rfl
  · rfl
end Go.Proofs.Ytedjbklejdcknaa
/- two boxes of steps and one that is filled, kept from call to call; the program's small functions on steps by their answers -/
namespace Go.Proofs.Ytedjbklejdcknaa
open Go.RowKit
set_option linter.unusedVariables false
set_option linter.unusedSimpArgs false

/-- a world in which all that was in W is as it was -/
structure Bx (W : World) where
  w : World
  h : Below W.heap.size W w
instance (W : World) : Nonempty (Bx W) := ⟨⟨W, Below.refl _ _⟩⟩
theorem wp_region_bx {P : Program} {id : Nat} {Q : Exit → Act → World → Prop} {a : Act} {w : World} {l : List Oper} (hm : P.follows .mixedOrders = true) (hB : Region.lexB .any l.toArray = true)
    (h : wpQuiet P l.toArray (fun w' => ∃ p : Bx w, w' = p.w) (fun a' => ∀ w', (∃ p : Bx w, w' = p.w) → Q .normal a' w') l a) : (Code.region id l.toArray true).wp P Q a w :=
  wp_region_quiet (C := fun w' => ∃ p : Bx w, w' = p.w) hm hB ⟨⟨_, (Below.refl _ _).drew⟩, rfl⟩ (by simpa using h)
theorem Calls.bx {P : Program} {f : FuncId} {args : Array Value} {W : World} {p : Bx W} {v : Value} (h : Calls P f args p.w (Ret v p.w)) : Calls P f args p.w fun e w'' => e = .returned v ∧ ∃ q : Bx W, w'' = q.w :=
  h.mono fun _ w' ⟨he, hb⟩ => ⟨he, ⟨w', bstep p.h hb p.h.size⟩, rfl⟩
theorem bx_cell {W : World} {a : Addr} {v : Value} (h : W.cell? a = some v) (p : Bx W) : p.w.cell? a = some v := (p.h.cell (World.block_lt_of_cell? _ _ h)).trans h
theorem bx_row {W : World} {b : Nat} {c : Array Value} (h : rowOf W b = some c) (p : Bx W) : rowOf p.w b = some c := rowOf_below h p.h (rowOf_lt h)

abbrev hvRow (h : HV) : Array Value := #[.int .i64 h.f, .int .i64 h.k, .int .i64 h.t, .int .i64 h.a0, .int .i64 h.a1, .int .i64 h.a2, .int .i64 h.a3, .int .i64 h.b0, .int .i64 h.b1, .int .i64 h.b2, .int .i64 h.b3]
abbrev tvRow (t : TV) : Array Value := #[.int .i64 t.d, .int .i64 t.c0, .int .i64 t.c1, .int .i64 t.c2, .int .i64 t.c3]
theorem jright_is {h : HV} {b : Bool} (q : h.rightB = b) (W : World) : Calls Try.prog 14 #[h.val] W (Ret (.bool b) W) := by have q' := hopRight_any h W; rw [q] at q'; exact q'
theorem jtright_is {t : TV} {b : Bool} (q : t.rightB = b) (W : World) : Calls Try.prog 16 #[t.val] W (Ret (.bool b) W) := by
  have q' := right_any t.d t.c0 t.c1 t.c2 t.c3 W
  rw [show rightB t.d t.c0 t.c1 t.c2 t.c3 = b from q] at q'
  exact q'
theorem jgives_is (h : HV) (q : h.rightB = true) {g : Int} (hg : h.k + h.t = g) (W : World) : Calls Try.prog 29 #[h.val] W (Ret (.int .i64 g) W) := by
  have r := shape_of q; subst hg
  exact gives_any h r.1.2.2.1 (by have := r.1.2.1; have := r.1.2.2.2.1; omega) r.1.2.2.2.2.1 r.1.2.2.2.2.2 W
theorem jat_is (h : HV) (q : h.rightB = true) (i : Int) (hi : 0 ≤ i) (hg : i < h.k + h.t) {x : Int} {b : Bool} (hx : h.at i = x) (hb : decide (i < h.k) = b) (W : World) : Calls Try.prog 31 #[h.val, .int .i64 i] W (Ret (.tuple #[.int .i64 x, .bool b]) W) := by
  have r := shape_of q; subst hx; subst hb
  exact at_any h i r.1.2.2.1 (by have := r.1.2.1; have := r.1.2.2.2.1; omega) r.1.2.2.2.2.1 (by have := r.2.2.1; omega) hi hg W
/-- the same, with the world behind it told -/
theorem jgives_exact (h : HV) (q : h.rightB = true) {g : Int} (hg : h.k + h.t = g) (W : World) :
    Calls Try.prog 29 #[h.val] W (fun e w' => e = .returned (.int .i64 g) ∧ w' = W.alloc (.cells (hvRow h) 39)) := by
  have r := shape_of q
  have h0 := r.1.2.2.1; have h2 := r.1.2.2.2.2.1; have h3 := r.1.2.2.2.2.2
  have h1 : h.k ≤ 4 := by have := r.1.2.1; have := r.1.2.2.2.1; omega
  subst hg
  clear r q
  go_enter Try.func29, Try.ntmps29
  go_wp2
  go_returns
  exact ⟨rfl, rfl⟩

theorem hv_cell {W : World} {b : Nat} {h : HV} (e : rowOf W b = some (hvRow h)) (j : Nat) (hj : j < 11) : ∃ c, W.cell? ⟨b, j, none⟩ = some (.int .i64 c) := by
  rw [rowOf_cell e]
  have : j = 0 ∨ j = 1 ∨ j = 2 ∨ j = 3 ∨ j = 4 ∨ j = 5 ∨ j = 6 ∨ j = 7 ∨ j = 8 ∨ j = 9 ∨ j = 10 := by omega
  rcases this with rfl | rfl | rfl | rfl | rfl | rfl | rfl | rfl | rfl | rfl | rfl <;> exact ⟨_, rfl⟩
/-- the parameters' boxes (two), the result's, and one that is filled -/
structure TI (w W : World) (bx : Nat) (pa pb pr px : Array Value) : Prop where
  B : Below w.heap.size w W
  a : rowOf W w.heap.size = some pa
  b : rowOf W (w.heap.size + 1) = some pb
  r : rowOf W (w.heap.size + 1 + 1) = some pr
  x : rowOf W bx = some px
  lt : w.heap.size + 1 + 1 < bx
namespace TI
variable {w W W' : World} {bx : Nat} {pa pb pr px : Array Value}
theorem below (h : TI w W bx pa pb pr px) (hb : Below W.heap.size W W') : TI w W' bx pa pb pr px :=
  ⟨bstep h.B hb h.B.size, rowOf_below h.a hb (rowOf_lt h.a), rowOf_below h.b hb (rowOf_lt h.b), rowOf_below h.r hb (rowOf_lt h.r), rowOf_below h.x hb (rowOf_lt h.x), h.lt⟩
theorem alloc (h : TI w W bx pa pb pr px) (o : Obj) : TI w (W.alloc o) bx pa pb pr px := h.below ((Below.refl _ _).alloc (Nat.le_refl _) o)
theorem drew (h : TI w W bx pa pb pr px) : TI w W.drew bx pa pb pr px := ⟨h.B.drew, h.a, h.b, h.r, h.x, h.lt⟩
theorem set (h : TI w W bx pa pb pr px) (i : Nat) (v : Value) {px' : Array Value} (e : px.setIfInBounds i v = px') : TI w (W.setCell ⟨bx, i, none⟩ v) bx pa pb pr px' := by
  have hl := h.lt
  exact ⟨h.B.setCell (by show w.heap.size ≤ bx; omega) v, row_cell_other h.a (by omega), row_cell_other h.b (by omega), row_cell_other h.r (by omega), row_cell_same h.x e, hl⟩
theorem setR (h : TI w W bx pa pb pr px) (c : Array Value) : TI w (setRow W (w.heap.size + 1 + 1) c) bx pa pb c px := by
  have hl := h.lt
  exact ⟨below_setRow h.B _ _ (by omega), row_set_other h.a (by omega), row_set_other h.b (by omega), row_set_same h.r, row_set_other h.x (by omega), hl⟩
theorem start (pa pb pr px : Array Value) (ta tb tr tx : TypeId) : TI w ((((w.alloc (.cells pa ta)).alloc (.cells pb tb)).alloc (.cells pr tr)).alloc (.cells px tx)) (w.heap.size + 1 + 1 + 1) pa pb pr px :=
  ⟨((((Below.refl _ _).alloc (Nat.le_refl _) _).alloc (by simp) _).alloc (by simp; omega) _).alloc (by simp; omega) _, row_old (row_old (row_old (row_new rfl))), row_old (row_old (row_new (by simp))), row_old (row_new (by simp)), row_new (by simp), by omega⟩
end TI
/-- the parameters' boxes (two) and the result's -/
structure T0 (w W : World) (pa pb pr : Array Value) : Prop where
  B : Below w.heap.size w W
  a : rowOf W w.heap.size = some pa
  b : rowOf W (w.heap.size + 1) = some pb
  r : rowOf W (w.heap.size + 1 + 1) = some pr
namespace T0
variable {w W W' : World} {pa pb pr : Array Value}
theorem below (h : T0 w W pa pb pr) (hb : Below W.heap.size W W') : T0 w W' pa pb pr :=
  ⟨bstep h.B hb h.B.size, rowOf_below h.a hb (rowOf_lt h.a), rowOf_below h.b hb (rowOf_lt h.b), rowOf_below h.r hb (rowOf_lt h.r)⟩
theorem start (pa pb pr : Array Value) (ta tb tr : TypeId) : T0 w (((w.alloc (.cells pa ta)).alloc (.cells pb tb)).alloc (.cells pr tr)) pa pb pr :=
  ⟨(((Below.refl _ _).alloc (Nat.le_refl _) _).alloc (by simp) _).alloc (by simp; omega) _, row_old (row_old (row_new rfl)), row_old (row_new (by simp)), row_new (by simp)⟩
theorem box (h : T0 w W pa pb pr) (px : Array Value) (tx : TypeId) : TI w (W.alloc (.cells px tx)) W.heap.size pa pb pr px :=
  ⟨h.B.alloc h.B.size _, row_old h.a, row_old h.b, row_old h.r, row_new rfl, rowOf_lt h.r⟩
theorem setR (h : T0 w W pa pb pr) (c : Array Value) : T0 w (setRow W (w.heap.size + 1 + 1) c) pa pb c :=
  ⟨below_setRow h.B _ _ (by omega), row_set_other h.a (by omega), row_set_other h.b (by omega), row_set_same h.r⟩
end T0
theorem cut_hereJ {P : Program} {c : Code} {Q : Exit → Act → World → Prop} {a : Act} {W : World} {fr : Act} {F : World → Prop}
    (h : Code.wp P c (fun e a' w' => match e with | .normal => a' = fr ∧ F w' | _ => False) a W) (k : ∀ w', F w' → Q .normal fr w') : Code.wp P c Q a W :=
  Code.wp_mono (fun e a' w' q => by
    cases e with
    | normal => obtain ⟨ha, hf⟩ := q; subst ha; exact k w' hf
    | _ => exact q.elim) h
theorem cut_atJ {P : Program} {c : Code} {Q : Exit → Act → World → Prop} {a : Act} {W : World} (f : Act → Act) (F : World → Prop)
    (h : Code.wp P c (fun e a' w' => match e with | .normal => a' = f a ∧ F w' | _ => False) a W) (k : ∀ w', F w' → Q .normal (f a) w') : Code.wp P c Q a W := cut_hereJ h k
end Go.Proofs.Ytedjbklejdcknaa
