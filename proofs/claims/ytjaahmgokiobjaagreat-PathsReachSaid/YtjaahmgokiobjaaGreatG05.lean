/- two boxes of steps and one that is filled, kept from call to call; the program's small functions on steps by their answers -/
import Derived.Test.YtjaahmgokiobjaaGreatG03
import Derived.Test.YtjaahmgokiobjaaGreatG04
import Derived.Deep.QuietTactic
import Derived.BigQuiet
import Derived.Deep.RegionWith
namespace Go.Proofs.YtjaahmgokiobjaaGreat
open Go.RowKit
set_option linter.unusedVariables false
set_option linter.unusedSimpArgs false

/-- a world in which all that was in W is as it was -/
structure Bx (W : World) where
  w : World
  h : Below W.heap.size W w
instance (W : World) : Nonempty (Bx W) := ⟨⟨W, Below.refl _ _⟩⟩
theorem wp_region_bx {P : Program} {id : Nat} {Q : Exit → Act → World → Prop} {a : Act} {w : World} {l : List Oper} (hm : P.follows .mixedOrders = true) (hB : Region.lexB .any l.toArray = true)
    (h : wpQuiet P l.toArray (fun w' => ∃ p : Bx w, w' = p.w) (fun a' => ∀ w', (∃ p : Bx w, w' = p.w) → Q .normal a' w') l a) : (Code.region id l.toArray true).wp P Q a w :=
  wp_region_quiet (C := fun w' => ∃ p : Bx w, w' = p.w) hm hB ⟨⟨_, (Below.refl _ _).drew⟩, rfl⟩ (by simpa using h)
theorem Calls.bx {P : Program} {f : FuncId} {args : Array Value} {W : World} {p : Bx W} {v : Value} (h : Calls P f args p.w (Ret v p.w)) : Calls P f args p.w fun e w'' => e = .returned v ∧ ∃ q : Bx W, w'' = q.w :=
  h.mono fun _ w' ⟨he, hb⟩ => ⟨he, ⟨w', bstep p.h hb p.h.size⟩, rfl⟩
theorem bx_cell {W : World} {a : Addr} {v : Value} (h : W.cell? a = some v) (p : Bx W) : p.w.cell? a = some v := (p.h.cell (World.block_lt_of_cell? _ _ h)).trans h
theorem bx_row {W : World} {b : Nat} {c : Array Value} (h : rowOf W b = some c) (p : Bx W) : rowOf p.w b = some c := rowOf_below h p.h (rowOf_lt h)

abbrev hvRow (h : HV) : Array Value := #[.int .i64 h.f, .int .i64 h.k, .int .i64 h.t, .int .i64 h.a0, .int .i64 h.a1, .int .i64 h.a2, .int .i64 h.a3, .int .i64 h.b0, .int .i64 h.b1, .int .i64 h.b2, .int .i64 h.b3]
abbrev tvRow (t : TV) : Array Value := #[.int .i64 t.d, .int .i64 t.c0, .int .i64 t.c1, .int .i64 t.c2, .int .i64 t.c3]
theorem jright_is {h : HV} {b : Bool} (q : h.rightB = b) (W : World) : Calls Tryz.prog 40 #[h.val] W (Ret (.bool b) W) := by have q' := hopRight_any h W; rw [q] at q'; exact q'
theorem jtright_is {t : TV} {b : Bool} (q : t.rightB = b) (W : World) : Calls Tryz.prog 41 #[t.val] W (Ret (.bool b) W) := by
  have q' := right_any t.d t.c0 t.c1 t.c2 t.c3 W
  rw [show rightB t.d t.c0 t.c1 t.c2 t.c3 = b from q] at q'
  exact q'
theorem jgives_is (h : HV) (q : h.rightB = true) {g : Int} (hg : h.k + h.t = g) (W : World) : Calls Tryz.prog 42 #[h.val] W (Ret (.int .i64 g) W) := by
  have r := shape_of q; subst hg
  exact gives_any h r.1.2.2.1 (by have := r.1.2.1; have := r.1.2.2.2.1; omega) r.1.2.2.2.2.1 r.1.2.2.2.2.2 W
theorem jat_is (h : HV) (q : h.rightB = true) (i : Int) (hi : 0 ≤ i) (hg : i < h.k + h.t) {x : Int} {b : Bool} (hx : h.at i = x) (hb : decide (i < h.k) = b) (W : World) : Calls Tryz.prog 43 #[h.val, .int .i64 i] W (Ret (.tuple #[.int .i64 x, .bool b]) W) := by
  have r := shape_of q; subst hx; subst hb
  exact at_any h i r.1.2.2.1 (by have := r.1.2.1; have := r.1.2.2.2.1; omega) r.1.2.2.2.2.1 (by have := r.2.2.1; omega) hi hg W
/-- the same, with the world behind it told -/
theorem jgives_exact (h : HV) (q : h.rightB = true) {g : Int} (hg : h.k + h.t = g) (W : World) :
    Calls Tryz.prog 42 #[h.val] W (fun e w' => e = .returned (.int .i64 g) ∧ w' = W.alloc (.cells (hvRow h) 55)) := by
  have r := shape_of q
  have h0 := r.1.2.2.1; have h2 := r.1.2.2.2.2.1; have h3 := r.1.2.2.2.2.2
  have h1 : h.k ≤ 4 := by have := r.1.2.1; have := r.1.2.2.2.1; omega
  subst hg
  clear r q
  go_enter Tryz.func42, Tryz.ntmps42
  go_wp2
  go_returns
  exact ⟨rfl, rfl⟩

theorem hv_cell {W : World} {b : Nat} {h : HV} (e : rowOf W b = some (hvRow h)) (j : Nat) (hj : j < 11) : ∃ c, W.cell? ⟨b, j, none⟩ = some (.int .i64 c) := by
  rw [rowOf_cell e]
  have : j = 0 ∨ j = 1 ∨ j = 2 ∨ j = 3 ∨ j = 4 ∨ j = 5 ∨ j = 6 ∨ j = 7 ∨ j = 8 ∨ j = 9 ∨ j = 10 := by omega
  rcases this with rfl | rfl | rfl | rfl | rfl | rfl | rfl | rfl | rfl | rfl | rfl <;> exact ⟨_, rfl⟩
/-- the parameters' boxes (two), the result's, and one that is filled -/
structure TI (w W : World) (bx : Nat) (pa pb pr px : Array Value) : Prop where
  B : Below w.heap.size w W
  a : rowOf W w.heap.size = some pa
  b : rowOf W (w.heap.size + 1) = some pb
  r : rowOf W (w.heap.size + 1 + 1) = some pr
  x : rowOf W bx = some px
  lt : w.heap.size + 1 + 1 < bx
namespace TI
variable {w W W' : World} {bx : Nat} {pa pb pr px : Array Value}
theorem below (h : TI w W bx pa pb pr px) (hb : Below W.heap.size W W') : TI w W' bx pa pb pr px :=
  ⟨bstep h.B hb h.B.size, rowOf_below h.a hb (rowOf_lt h.a), rowOf_below h.b hb (rowOf_lt h.b), rowOf_below h.r hb (rowOf_lt h.r), rowOf_below h.x hb (rowOf_lt h.x), h.lt⟩
theorem alloc (h : TI w W bx pa pb pr px) (o : Obj) : TI w (W.alloc o) bx pa pb pr px := h.below ((Below.refl _ _).alloc (Nat.le_refl _) o)
theorem drew (h : TI w W bx pa pb pr px) : TI w W.drew bx pa pb pr px := ⟨h.B.drew, h.a, h.b, h.r, h.x, h.lt⟩
theorem set (h : TI w W bx pa pb pr px) (i : Nat) (v : Value) {px' : Array Value} (e : px.setIfInBounds i v = px') : TI w (W.setCell ⟨bx, i, none⟩ v) bx pa pb pr px' := by
  have hl := h.lt
  exact ⟨h.B.setCell (by show w.heap.size ≤ bx; omega) v, row_cell_other h.a (by omega), row_cell_other h.b (by omega), row_cell_other h.r (by omega), row_cell_same h.x e, hl⟩
theorem setR (h : TI w W bx pa pb pr px) (c : Array Value) : TI w (setRow W (w.heap.size + 1 + 1) c) bx pa pb c px := by
  have hl := h.lt
  exact ⟨below_setRow h.B _ _ (by omega), row_set_other h.a (by omega), row_set_other h.b (by omega), row_set_same h.r, row_set_other h.x (by omega), hl⟩
theorem start (pa pb pr px : Array Value) (ta tb tr tx : TypeId) : TI w ((((w.alloc (.cells pa ta)).alloc (.cells pb tb)).alloc (.cells pr tr)).alloc (.cells px tx)) (w.heap.size + 1 + 1 + 1) pa pb pr px :=
  ⟨((((Below.refl _ _).alloc (Nat.le_refl _) _).alloc (by simp) _).alloc (by simp; omega) _).alloc (by simp; omega) _, row_old (row_old (row_old (row_new rfl))), row_old (row_old (row_new (by simp))), row_old (row_new (by simp)), row_new (by simp), by omega⟩
end TI
/-- the parameters' boxes (two) and the result's -/
structure T0 (w W : World) (pa pb pr : Array Value) : Prop where
  B : Below w.heap.size w W
  a : rowOf W w.heap.size = some pa
  b : rowOf W (w.heap.size + 1) = some pb
  r : rowOf W (w.heap.size + 1 + 1) = some pr
namespace T0
variable {w W W' : World} {pa pb pr : Array Value}
theorem below (h : T0 w W pa pb pr) (hb : Below W.heap.size W W') : T0 w W' pa pb pr :=
  ⟨bstep h.B hb h.B.size, rowOf_below h.a hb (rowOf_lt h.a), rowOf_below h.b hb (rowOf_lt h.b), rowOf_below h.r hb (rowOf_lt h.r)⟩
theorem start (pa pb pr : Array Value) (ta tb tr : TypeId) : T0 w (((w.alloc (.cells pa ta)).alloc (.cells pb tb)).alloc (.cells pr tr)) pa pb pr :=
  ⟨(((Below.refl _ _).alloc (Nat.le_refl _) _).alloc (by simp) _).alloc (by simp; omega) _, row_old (row_old (row_new rfl)), row_old (row_new (by simp)), row_new (by simp)⟩
theorem box (h : T0 w W pa pb pr) (px : Array Value) (tx : TypeId) : TI w (W.alloc (.cells px tx)) W.heap.size pa pb pr px :=
  ⟨h.B.alloc h.B.size _, row_old h.a, row_old h.b, row_old h.r, row_new rfl, rowOf_lt h.r⟩
theorem setR (h : T0 w W pa pb pr) (c : Array Value) : T0 w (setRow W (w.heap.size + 1 + 1) c) pa pb c :=
  ⟨below_setRow h.B _ _ (by omega), row_set_other h.a (by omega), row_set_other h.b (by omega), row_set_same h.r⟩
end T0
theorem cut_hereJ {P : Program} {c : Code} {Q : Exit → Act → World → Prop} {a : Act} {W : World} {fr : Act} {F : World → Prop}
    (h : Code.wp P c (fun e a' w' => match e with | .normal => a' = fr ∧ F w' | _ => False) a W) (k : ∀ w', F w' → Q .normal fr w') : Code.wp P c Q a W :=
  Code.wp_mono (fun e a' w' q => by
    cases e with
    | normal => obtain ⟨ha, hf⟩ := q; subst ha; exact k w' hf
    | _ => exact q.elim) h
theorem cut_atJ {P : Program} {c : Code} {Q : Exit → Act → World → Prop} {a : Act} {W : World} (f : Act → Act) (F : World → Prop)
    (h : Code.wp P c (fun e a' w' => match e with | .normal => a' = f a ∧ F w' | _ => False) a W) (k : ∀ w', F w' → Q .normal (f a) w') : Code.wp P c Q a W := cut_hereJ h k
end Go.Proofs.YtjaahmgokiobjaaGreat
/- the program's Then on steps: the whole walk -/
namespace Go.Proofs.YtjaahmgokiobjaaGreat
open Go.RowKit
set_option linter.unusedVariables false
set_option linter.unusedSimpArgs false
attribute [local go_sem ↓] loadH loadT storeH storeT
attribute [local simp] size_setRow
attribute [local go_sem] rowAt_head rowOf_alloc_at rowOf_alloc_past rowOf_drew rowOf_drewN rowOf_setRow_same rowOf_setRow_other rowOf_setCell_same rowOf_setCell_other size_setRow setRow_drew setRow_alloc_at setRow_alloc_past one_int one_bool cell_setRow_same cell_setRow_other frozen_setRow_same frozen_setRow_other
attribute [local go_sem ↓] run_imin

def HV.pre (R : HV) (i : Int) : HV := ⟨R.f, R.k, R.t, if 0 < i then R.a0 else 0, if 1 < i then R.a1 else 0, if 2 < i then R.a2 else 0, if 3 < i then R.a3 else 0, if R.k < i then R.b0 else 0, if R.k + 1 < i then R.b1 else 0, if R.k + 2 < i then R.b2 else 0, if R.k + 3 < i then R.b3 else 0⟩
/-- a step that has no numbers beyond its places -/
def HV.tidy (R : HV) : Prop := 0 ≤ R.k ∧ R.k ≤ 4 ∧ 0 ≤ R.t ∧ (R.k ≤ 0 → R.a0 = 0) ∧ (R.k ≤ 1 → R.a1 = 0) ∧ (R.k ≤ 2 → R.a2 = 0) ∧ (R.k ≤ 3 → R.a3 = 0) ∧ (R.t ≤ 0 → R.b0 = 0) ∧ (R.t ≤ 1 → R.b1 = 0) ∧ (R.t ≤ 2 → R.b2 = 0) ∧ (R.t ≤ 3 → R.b3 = 0)
theorem hv_eq {x y : HV} (h0 : x.f = y.f) (h1 : x.k = y.k) (h2 : x.t = y.t) (h3 : x.a0 = y.a0) (h4 : x.a1 = y.a1) (h5 : x.a2 = y.a2) (h6 : x.a3 = y.a3) (h7 : x.b0 = y.b0) (h8 : x.b1 = y.b1) (h9 : x.b2 = y.b2) (h10 : x.b3 = y.b3) : x = y := by
  cases x; cases y; simp only at *; subst h0; subst h1; subst h2; subst h3; subst h4; subst h5; subst h6; subst h7; subst h8; subst h9; subst h10; rfl
theorem pre_all {R : HV} (h : R.tidy) {i : Int} (hi : R.k + R.t ≤ i) : R.pre i = R := by
  obtain ⟨h0, h4, ht, a0, a1, a2, a3, b0, b1, b2, b3⟩ := h
  refine hv_eq rfl rfl rfl ?_ ?_ ?_ ?_ ?_ ?_ ?_ ?_ <;> simp only [HV.pre] <;> split <;> omega
theorem pre_none {R : HV} (h : R.tidy) : R.pre 0 = ⟨R.f, R.k, R.t, 0, 0, 0, 0, 0, 0, 0, 0⟩ := by
  obtain ⟨h0, _⟩ := h
  refine hv_eq rfl rfl rfl ?_ ?_ ?_ ?_ ?_ ?_ ?_ ?_ <;> simp only [HV.pre] <;> split <;> omega
/-- a number is laid at its cell -/
def HV.lay (h : HV) : Nat → Int → HV
  | 0, v => { h with a0 := v }
  | 1, v => { h with a1 := v }
  | 2, v => { h with a2 := v }
  | 3, v => { h with a3 := v }
  | 4, v => { h with b0 := v }
  | 5, v => { h with b1 := v }
  | 6, v => { h with b2 := v }
  | _, v => { h with b3 := v }
theorem set_lay (h : HV) (j : Nat) (v : Int) (hj : j < 8) : (hvRow h).setIfInBounds (3 + j) (.int .i64 v) = hvRow (h.lay j v) := by
  have : j = 0 ∨ j = 1 ∨ j = 2 ∨ j = 3 ∨ j = 4 ∨ j = 5 ∨ j = 6 ∨ j = 7 := by omega
  rcases this with rfl | rfl | rfl | rfl | rfl | rfl | rfl | rfl <;> rfl
theorem pre_kept {R : HV} (h : R.tidy) {j : Nat} {i : Int} (e : i = (j : Int)) (hj : i < R.k) : (hvRow (R.pre i)).setIfInBounds (3 + j) (.int .i64 (R.at i)) = hvRow (R.pre (i + 1)) := by
  subst e
  obtain ⟨h0, h4, ht, _⟩ := h
  have hat : R.at j = R.add j := by unfold HV.at; rw [if_pos hj]
  rw [hat, set_lay _ _ _ (by omega)]
  have : j = 0 ∨ j = 1 ∨ j = 2 ∨ j = 3 := by omega
  refine congrArg hvRow ?_
  rcases this with rfl | rfl | rfl | rfl
  all_goals
    refine hv_eq rfl rfl rfl ?_ ?_ ?_ ?_ ?_ ?_ ?_ ?_ <;> simp only [HV.lay, HV.pre, HV.add] <;> (repeat' split) <;> (first | rfl | (exfalso; omega) | omega)
theorem pre_new {R : HV} (h : R.tidy) {j : Nat} {i : Int} (e : i - R.k = (j : Int)) (hj : j < 4) : (hvRow (R.pre i)).setIfInBounds (7 + j) (.int .i64 (R.at i)) = hvRow (R.pre (i + 1)) := by
  obtain ⟨h0, h4, ht, z0, z1, z2, z3, _⟩ := h
  have hat : R.at i = R.tl j := by unfold HV.at; rw [if_neg (by omega), e]
  rw [hat, show 7 + j = 3 + (4 + j) by omega, set_lay _ _ _ (by omega)]
  have : j = 0 ∨ j = 1 ∨ j = 2 ∨ j = 3 := by omega
  refine congrArg hvRow ?_
  rcases this with rfl | rfl | rfl | rfl
  all_goals
    refine hv_eq rfl rfl rfl ?_ ?_ ?_ ?_ ?_ ?_ ?_ ?_ <;> simp only [HV.lay, HV.pre, HV.tl] <;> (repeat' split) <;> (first | rfl | (exfalso; omega) | omega)
end Go.Proofs.YtjaahmgokiobjaaGreat
/- the program's Then on steps: the walk -/
namespace Go.Proofs.YtjaahmgokiobjaaGreat
open Go.RowKit
set_option linter.unusedVariables false
set_option linter.unusedSimpArgs false
attribute [local go_sem ↓] loadH loadT storeH storeT
attribute [local simp] size_setRow
attribute [local go_sem] rowAt_head rowOf_alloc_at rowOf_alloc_past rowOf_drew rowOf_drewN rowOf_setRow_same rowOf_setRow_other rowOf_setCell_same rowOf_setCell_other size_setRow setRow_drew setRow_alloc_at setRow_alloc_past one_int one_bool cell_setRow_same cell_setRow_other frozen_setRow_same frozen_setRow_other
attribute [local go_sem ↓] run_imin

theorem tidy_then {a b : HV} (ha : a.right) (hb : b.right) : (thenH a b).tidy := by
  have sa := right_size ha; have sb := right_size hb
  have hm : 0 ≤ imin a.k b.k ∧ imin a.k b.k ≤ 4 ∧ imin a.k b.k ≤ b.k + b.t := by unfold imin; split <;> omega
  unfold thenH
  generalize imin a.k b.k = m at *
  generalize b.k + b.t = g at *
  obtain ⟨m0, m4, mg⟩ := hm
  refine ⟨m0, m4, by show 0 ≤ g - m; omega, ?_, ?_, ?_, ?_, ?_, ?_, ?_, ?_⟩ <;> simp only [thenR] <;> intro h <;> exact if_neg (by omega)
theorem nums_then {a b : HV} (ha : a.right) (hb : b.right) (i : Int) (h0 : 0 ≤ i) (hi : i < b.k + b.t) : (thenH a b).at i = if i < b.k then b.at i + a.at i else b.at i := by
  have sa := right_size ha; have sb := right_size hb
  have hm : 0 ≤ imin a.k b.k ∧ imin a.k b.k ≤ 4 ∧ imin a.k b.k ≤ b.k + b.t := by unfold imin; split <;> omega
  have h := at_then a.f (imin a.k b.k) (b.k + b.t) b.k (a.at 0) (a.at 1) (a.at 2) (a.at 3) (b.at 0) (b.at 1) (b.at 2) (b.at 3) hm.1 hm.2.1 hm.2.2 (by omega)
  have : i = 0 ∨ i = 1 ∨ i = 2 ∨ i = 3 := by omega
  rcases this with rfl | rfl | rfl | rfl
  · exact h.1 hi
  · exact h.2.1 hi
  · exact h.2.2.1 hi
  · exact h.2.2.2 hi
set_option maxRecDepth 100000 in
set_option maxHeartbeats 16000000 in
theorem jthen_no (a b : HV) (hy : (a.rightB && b.rightB && (a.k + a.t == b.f)) = false) (w : World) :
    Calls Tryz.prog 66 #[a.val, b.val] w (Ret (.tuple #[HV.zero.val, .bool false]) w) := by
  have HA : Hid (∀ W, Calls Tryz.prog 40 #[(HV.val a)] W (Ret (.bool a.rightB) W)) := fun W => jright_is rfl W
  have HB : Hid (∀ W, Calls Tryz.prog 40 #[(HV.val b)] W (Ret (.bool b.rightB) W)) := fun W => jright_is rfl W
  have GA : Hid (a.rightB = true → ∀ W, Calls Tryz.prog 42 #[(HV.val a)] W (Ret (.int .i64 (a.k + a.t)) W)) := fun h W => jgives_is a h rfl W
  have hcase : (a.rightB = false) ∨ (a.rightB = true ∧ b.rightB = false) ∨ (a.rightB = true ∧ b.rightB = true ∧ (a.k + a.t != b.f) = true) := by
    cases h1 : a.rightB
    · exact .inl rfl
    · cases h2 : b.rightB
      · exact .inr (.inl ⟨rfl, rfl⟩)
      · rw [h1, h2] at hy
        exact .inr (.inr ⟨rfl, rfl, by simpa using hy⟩)
  clear hy
  generalize a.rightB = ra at *
  generalize b.rightB = rb at *
  generalize a.k + a.t = ga at *
  go_enter Tryz.func66, Tryz.ntmps66
  go_wp2_with fail
  refine gen_world (fun W2 => Hid (T0 w W2 (hvRow a) (hvRow b) (hvRow HV.zero))) (Lib.hid (T0.start _ _ _ _ _ _)) ?_
  rintro w1 HT
  have N_p := HT.out.a
  have L_p := rowOf_lt N_p
  have D_p := Nat.ne_of_lt L_p
  have N_q := HT.out.b
  have L_q := rowOf_lt N_q
  have D_q := Nat.ne_of_lt L_q
  have N_r := HT.out.r
  have L_r := rowOf_lt N_r
  have D_r := Nat.ne_of_lt L_r
  refine wp_region_bx (by kernel_rfl) (by kernel_rfl) ?_
  have p_0 := bx_cell (rowOf_cell N_p 0 : _ = some (.int .i64 a.f))
  have p_1 := bx_cell (rowOf_cell N_p 1 : _ = some (.int .i64 a.k))
  have p_2 := bx_cell (rowOf_cell N_p 2 : _ = some (.int .i64 a.t))
  have p_3 := bx_cell (rowOf_cell N_p 3 : _ = some (.int .i64 a.a0))
  have p_4 := bx_cell (rowOf_cell N_p 4 : _ = some (.int .i64 a.a1))
  have p_5 := bx_cell (rowOf_cell N_p 5 : _ = some (.int .i64 a.a2))
  have p_6 := bx_cell (rowOf_cell N_p 6 : _ = some (.int .i64 a.a3))
  have p_7 := bx_cell (rowOf_cell N_p 7 : _ = some (.int .i64 a.b0))
  have p_8 := bx_cell (rowOf_cell N_p 8 : _ = some (.int .i64 a.b1))
  have p_9 := bx_cell (rowOf_cell N_p 9 : _ = some (.int .i64 a.b2))
  have p_10 := bx_cell (rowOf_cell N_p 10 : _ = some (.int .i64 a.b3))
  have q_0 := bx_cell (rowOf_cell N_q 0 : _ = some (.int .i64 b.f))
  have q_1 := bx_cell (rowOf_cell N_q 1 : _ = some (.int .i64 b.k))
  have q_2 := bx_cell (rowOf_cell N_q 2 : _ = some (.int .i64 b.t))
  have q_3 := bx_cell (rowOf_cell N_q 3 : _ = some (.int .i64 b.a0))
  have q_4 := bx_cell (rowOf_cell N_q 4 : _ = some (.int .i64 b.a1))
  have q_5 := bx_cell (rowOf_cell N_q 5 : _ = some (.int .i64 b.a2))
  have q_6 := bx_cell (rowOf_cell N_q 6 : _ = some (.int .i64 b.a3))
  have q_7 := bx_cell (rowOf_cell N_q 7 : _ = some (.int .i64 b.b0))
  have q_8 := bx_cell (rowOf_cell N_q 8 : _ = some (.int .i64 b.b1))
  have q_9 := bx_cell (rowOf_cell N_q 9 : _ = some (.int .i64 b.b2))
  have q_10 := bx_cell (rowOf_cell N_q 10 : _ = some (.int .i64 b.b3))
  clear N_p L_p D_p N_q L_q D_q N_r L_r D_r
  rcases hcase with h1 | ⟨h1, h2⟩ | ⟨h1, h2, h3⟩
  all_goals
    (try subst h1); (try subst h2)
    repeat (first | go_big_quiet_step (first | (with_reducible exact Calls.bx (HA.out _)) | (with_reducible exact Calls.bx (HB.out _)) | (with_reducible exact Calls.bx (GA.out rfl _))) | quiet_step (first | (with_reducible exact Calls.bx (HA.out _)) | (with_reducible exact Calls.bx (HB.out _)) | (with_reducible exact Calls.bx (GA.out rfl _))))
    refine wpQuiet_nil ?_
    intro _ hw'
    obtain ⟨g9, hw''⟩ := hw'
    subst hw''
    have hb2 := g9.h
    generalize g9.w = w2 at hb2 ⊢
    clear g9
    have HT2 := Lib.hid (HT.out.below hb2)
    clear hb2
    clear p_0 p_1 p_2 p_3 p_4 p_5 p_6 p_7 p_8 p_9 p_10 q_0 q_1 q_2 q_3 q_4 q_5 q_6 q_7 q_8 q_9 q_10
    have N_p := HT2.out.a
    have L_p := rowOf_lt N_p
    have D_p := Nat.ne_of_lt L_p
    have N_q := HT2.out.b
    have L_q := rowOf_lt N_q
    have D_q := Nat.ne_of_lt L_q
    have N_r := HT2.out.r
    have L_r := rowOf_lt N_r
    have D_r := Nat.ne_of_lt L_r
    go_wp2
    exact bodyPost_ret (v := .tuple #[HV.zero.val, .bool false]) (by simp [results, Tryz.results66, go_sem, N_r, L_r, D_r, HV.zero]) rfl ⟨rfl, by first | exact (HT2.out.setR _).B | exact HT2.out.B⟩
end Go.Proofs.YtjaahmgokiobjaaGreat
