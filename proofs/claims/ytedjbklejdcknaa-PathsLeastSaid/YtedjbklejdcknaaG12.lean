/- an argument that is a slice of steps -/
import Derived.Test.YtedjbklejdcknaaG02
import Derived.Test.YtedjbklejdcknaaG11
import Derived.Deep.Slices
import Derived.Test.YtedjbklejdcknaaG06
import Derived.Deep.RegionWith
namespace Go.Proofs.Ytedjbklejdcknaa
open Go.ChangeShapes Go.WideShapes Go.ChangeAt Go.RowKit Go.Deep
set_option linter.unusedVariables false
set_option linter.unusedSimpArgs false

/-- a slice's length is within its capacity -/
def capH (v : Value) : Prop := ∀ p n c, v = .slice p n c → n ≤ c
theorem hint_size : Try.prog.cellsOf 3 = 1 := by kernel_rfl
theorem harr_size : Try.prog.cellsOf 37 = 4 := by kernel_rfl
section
variable {H : Type} {enc : TypeId × Value → H} {w : World} {base : Nat} {sp : Nat → Bool} {held : Bool}
set_option maxRecDepth 100000 in
theorem open_rows {α : Type} [Inhabited α] (R : RowKind α) (P : α → Prop) (hk : Try.prog.cellsOf R.tE = R.k)
    (hcell : ∀ (n : Nat) (cs : List Value) (x : DataW H × List MemPlace), DataW.trod enc Try.prog w base sp held n R.tE cs = some x → ∃ a : α, cs = R.enc a ∧ P a)
    {r : Reach} {b0 : Nat} {v : Value} {d : DataW H} {ps : List MemPlace} (hval : Value.okWide Try.prog w r b0 R.tS v) (hd : DataW.Trod enc Try.prog w base sp held R.tS v d ps) : ∃ xs : List α, R.Is w v xs ∧ capH v ∧ ∀ x ∈ xs, P x := by
  obtain ⟨fuel, h⟩ := hd
  obtain ⟨pa, ln, cp, rfl⟩ := okWide_slice R.under hval
  rcases open_slice R.under h with ⟨e, _⟩ | ⟨a, len, cap, m, n, D, Pl, e, hb, hl, hm, hmm, _, hx⟩
  · simp [Value.cells] at e
    obtain ⟨rfl, rfl, rfl⟩ := e
    exact ⟨[], .inl ⟨rfl, none, 0, rfl, fun _ => rfl⟩, fun p n c e => by cases e; omega, fun x hx => by cases hx⟩
  · simp [Value.cells] at e
    obtain ⟨rfl, rfl, rfl⟩ := e
    have hlm : ln ≤ m := by rw [hmm]; split <;> omega
    rw [hk] at hx
    have each : ∀ i, i < m → ∃ t : α, P t ∧ ∀ k u, (R.enc t)[k]? = some u → w.cell? ((a.add (i * R.k)).add k) = some u := by
      intro i hi
      obtain ⟨cs', h1, h2⟩ := hx i hi
      obtain ⟨_, hlen, hcl⟩ := World.cells?_some h1
      obtain ⟨t, rfl, hp⟩ := hcell _ _ _ h2
      refine ⟨t, hp, fun k u hu => ?_⟩
      have hk5 : k < R.k := by have := (List.getElem?_eq_some_iff.1 hu).1; rw [R.len] at this; exact this
      rw [hcl k hk5]
      exact hu
    obtain ⟨T, hT⟩ := choose_lt each
    by_cases h0 : ln = 0
    · subst h0
      exact ⟨[], .inl ⟨rfl, some a, cp, rfl, fun h => by cases h⟩, fun p n c e => by cases e; omega, fun x hx => by cases hx⟩
    · have hk0 := R.k0
      obtain ⟨u0, hu0⟩ : ∃ u, (R.enc (T 0))[0]? = some u := ⟨_, List.getElem?_eq_getElem (by rw [R.len]; exact hk0)⟩
      have c00 := (hT 0 (by omega)).2 0 _ hu0
      have hspot : a.spot = none := by
        rw [add_add] at c00
        unfold World.cell? at c00
        split at c00
        · split at c00
          · cases c00
          · rename_i hn
            simp [Addr.add] at hn
            exact hn
        · cases c00
      obtain ⟨b, off, spot⟩ := a
      simp only at hspot
      subst hspot
      have hbl : b < w.heap.size := World.block_lt_of_cell? _ _ (by rw [add_add, Nat.add_zero, Addr.add_lit] at c00; exact c00)
      refine ⟨(List.range ln).map T, .inr ⟨by simp [h0], b, off, cp, by simp, hbl, ?_⟩, fun p n c e => by cases e; omega, fun x hx => ?_⟩
      · intro j hj i u hu
        have hj' : j < ln := by simpa using hj
        have hg : ((List.range ln).map T)[j]! = T j := by simp [hj']
        rw [hg] at hu
        have := (hT j (by omega)).2 i u hu
        rw [add_add, Addr.add_lit, ← Nat.add_assoc] at this
        exact this
      · obtain ⟨j, hj, rfl⟩ := List.mem_map.1 hx
        exact (hT j (by have := List.mem_range.1 hj; omega)).1
set_option maxRecDepth 100000 in
theorem arr_cells {n : Nat} {v0 v1 v2 v3 : Value} {x : DataW H × List MemPlace} (h : DataW.trod enc Try.prog w base sp held n 37 [v0, v1, v2, v3] = some x) : ∃ c0 c1 c2 c3 : Int, v0 = .int .i64 c0 ∧ v1 = .int .i64 c1 ∧ v2 = .int .i64 c2 ∧ v3 = .int .i64 c3 := by
  obtain ⟨zs, k, _, _, hz, hzl, hg⟩ := DataW.trod_array Try.underlying37 h
  match zs, hzl with
  | [z0, z1, z2, z3], _ =>
    have a0 := hg 0 (by decide)
    have a1 := hg 1 (by decide)
    have a2 := hg 2 (by decide)
    have a3 := hg 3 (by decide)
    simp only [hint_size] at a0 a1 a2 a3
    simp at a0 a1 a2 a3
    obtain ⟨c0, b0, _, _⟩ := DataW.trod_int Try.underlying3 a0
    obtain ⟨c1, b1, _, _⟩ := DataW.trod_int Try.underlying3 a1
    obtain ⟨c2, b2, _, _⟩ := DataW.trod_int Try.underlying3 a2
    obtain ⟨c3, b3, _, _⟩ := DataW.trod_int Try.underlying3 a3
    have r1 : [v0] = [Value.int .i64 c0] := b0
    have r2 : [v1] = [Value.int .i64 c1] := b1
    have r3 : [v2] = [Value.int .i64 c2] := b2
    have r4 : [v3] = [Value.int .i64 c3] := b3
    exact ⟨c0, c1, c2, c3, (List.cons.inj r1).1, (List.cons.inj r2).1, (List.cons.inj r3).1, (List.cons.inj r4).1⟩
set_option maxRecDepth 100000 in
theorem open_hop_cells (n : Nat) (cs : List Value) (x : DataW H × List MemPlace) (h : DataW.trod enc Try.prog w base sp held n 39 cs = some x) : ∃ t : HV, cs = HV.enc t ∧ True := by
  obtain ⟨xs, m, _, _, hl, hxl, hf⟩ := DataW.trod_struct Try.underlying39 h
  rw [hop_size] at hl
  match cs, hl with
  | [v0, v1, v2, v3, v4, v5, v6, v7, v8, v9, v10], _ =>
    match xs, hxl with
    | [y0, y1, y2, y3, y4], _ =>
      have g0 := hf 0 ⟨ "From", 3, 0, false, "", "", 0⟩ rfl
      have g1 := hf 1 ⟨ "Keep", 3, 1, false, "", "", 8⟩ rfl
      have g2 := hf 2 ⟨ "Tail", 3, 2, false, "", "", 16⟩ rfl
      have g3 := hf 3 ⟨ "Add", 37, 3, false, "", "", 24⟩ rfl
      have g4 := hf 4 ⟨ "T", 37, 7, false, "", "", 56⟩ rfl
      dsimp only at g0 g1 g2 g3 g4
      rw [hint_size] at g0 g1 g2
      rw [harr_size] at g3 g4
      simp only [List.drop_zero, List.take_succ_cons, List.take_zero, List.drop_succ_cons, List.getElem?_cons_zero, List.getElem?_cons_succ] at g0 g1 g2 g3 g4
      obtain ⟨d0, e0, _, _⟩ := DataW.trod_int Try.underlying3 g0
      obtain ⟨d1, e1, _, _⟩ := DataW.trod_int Try.underlying3 g1
      obtain ⟨d2, e2, _, _⟩ := DataW.trod_int Try.underlying3 g2
      have r0 : [v0] = [Value.int .i64 d0] := e0
      have r1 : [v1] = [Value.int .i64 d1] := e1
      have r2 : [v2] = [Value.int .i64 d2] := e2
      obtain rfl := (List.cons.inj r0).1
      obtain rfl := (List.cons.inj r1).1
      obtain rfl := (List.cons.inj r2).1
      obtain ⟨a0, a1, a2, a3, rfl, rfl, rfl, rfl⟩ := arr_cells g3
      obtain ⟨b0, b1, b2, b3, rfl, rfl, rfl, rfl⟩ := arr_cells g4
      exact ⟨⟨d0, d1, d2, a0, a1, a2, a3, b0, b1, b2, b3⟩, rfl, trivial⟩
set_option maxRecDepth 100000 in
/-- an argument that is a slice of steps -/
theorem open_hops {r : Reach} {b0 : Nat} {v : Value} {d : DataW H} {ps : List MemPlace} (hval : Value.okWide Try.prog w r b0 34 v) (hd : DataW.Trod enc Try.prog w base sp held 34 v d ps) : ∃ xs : List HV, RHp.Is w v xs ∧ capH v := by
  obtain ⟨xs, h1, h2, _⟩ := open_rows RHp (fun _ => True) hop_size open_hop_cells hval hd
  exact ⟨xs, h1, h2⟩
end
end Go.Proofs.Ytedjbklejdcknaa
/- the program's Then on steps: the whole walk -/
namespace Go.Proofs.Ytedjbklejdcknaa
open Go.RowKit
set_option linter.unusedVariables false
set_option linter.unusedSimpArgs false
attribute [local go_sem ↓] loadH loadT storeH storeT
attribute [local simp] size_setRow
attribute [local go_sem] rowAt_head rowOf_alloc_at rowOf_alloc_past rowOf_drew rowOf_drewN rowOf_setRow_same rowOf_setRow_other rowOf_setCell_same rowOf_setCell_other size_setRow setRow_drew setRow_alloc_at setRow_alloc_past one_int one_bool cell_setRow_same cell_setRow_other frozen_setRow_same frozen_setRow_other
attribute [local go_sem ↓] run_imin

def HV.pre (R : HV) (i : Int) : HV := ⟨R.f, R.k, R.t, if 0 < i then R.a0 else 0, if 1 < i then R.a1 else 0, if 2 < i then R.a2 else 0, if 3 < i then R.a3 else 0, if R.k < i then R.b0 else 0, if R.k + 1 < i then R.b1 else 0, if R.k + 2 < i then R.b2 else 0, if R.k + 3 < i then R.b3 else 0⟩
/-- a step that has no numbers beyond its places -/
def HV.tidy (R : HV) : Prop := 0 ≤ R.k ∧ R.k ≤ 4 ∧ 0 ≤ R.t ∧ (R.k ≤ 0 → R.a0 = 0) ∧ (R.k ≤ 1 → R.a1 = 0) ∧ (R.k ≤ 2 → R.a2 = 0) ∧ (R.k ≤ 3 → R.a3 = 0) ∧ (R.t ≤ 0 → R.b0 = 0) ∧ (R.t ≤ 1 → R.b1 = 0) ∧ (R.t ≤ 2 → R.b2 = 0) ∧ (R.t ≤ 3 → R.b3 = 0)
theorem hv_eq {x y : HV} (h0 : x.f = y.f) (h1 : x.k = y.k) (h2 : x.t = y.t) (h3 : x.a0 = y.a0) (h4 : x.a1 = y.a1) (h5 : x.a2 = y.a2) (h6 : x.a3 = y.a3) (h7 : x.b0 = y.b0) (h8 : x.b1 = y.b1) (h9 : x.b2 = y.b2) (h10 : x.b3 = y.b3) : x = y := by
  cases x; cases y; simp only at *; subst h0; subst h1; subst h2; subst h3; subst h4; subst h5; subst h6; subst h7; subst h8; subst h9; subst h10; rfl
theorem pre_all {R : HV} (h : R.tidy) {i : Int} (hi : R.k + R.t ≤ i) : R.pre i = R := by
  obtain ⟨h0, h4, ht, a0, a1, a2, a3, b0, b1, b2, b3⟩ := h
  refine hv_eq rfl rfl rfl ?_ ?_ ?_ ?_ ?_ ?_ ?_ ?_ <;> simp only [HV.pre] <;> split <;> omega
theorem pre_none {R : HV} (h : R.tidy) : R.pre 0 = ⟨R.f, R.k, R.t, 0, 0, 0, 0, 0, 0, 0, 0⟩ := by
  obtain ⟨h0, _⟩ := h
  refine hv_eq rfl rfl rfl ?_ ?_ ?_ ?_ ?_ ?_ ?_ ?_ <;> simp only [HV.pre] <;> split <;> omega
/-- a number is laid at its cell -/
def HV.lay (h : HV) : Nat → Int → HV
  | 0, v => { h with a0 := v }
  | 1, v => { h with a1 := v }
  | 2, v => { h with a2 := v }
  | 3, v => { h with a3 := v }
  | 4, v => { h with b0 := v }
  | 5, v => { h with b1 := v }
  | 6, v => { h with b2 := v }
  | _, v => { h with b3 := v }
theorem set_lay (h : HV) (j : Nat) (v : Int) (hj : j < 8) : (hvRow h).setIfInBounds (3 + j) (.int .i64 v) = hvRow (h.lay j v) := by
  have : j = 0 ∨ j = 1 ∨ j = 2 ∨ j = 3 ∨ j = 4 ∨ j = 5 ∨ j = 6 ∨ j = 7 := by omega
  rcases this with rfl | rfl | rfl | rfl | rfl | rfl | rfl | rfl <;> rfl
theorem pre_kept {R : HV} (h : R.tidy) {j : Nat} {i : Int} (e : i = (j : Int)) (hj : i < R.k) : (hvRow (R.pre i)).setIfInBounds (3 + j) (.int .i64 (R.at i)) = hvRow (R.pre (i + 1)) := by
  subst e
  obtain ⟨h0, h4, ht, _⟩ := h
  have hat : R.at j = R.add j := by unfold HV.at; rw [if_pos hj]
  rw [hat, set_lay _ _ _ (by omega)]
  have : j = 0 ∨ j = 1 ∨ j = 2 ∨ j = 3 := by omega
  refine congrArg hvRow ?_
  rcases this with rfl | rfl | rfl | rfl
  all_goals
    refine hv_eq rfl rfl rfl ?_ ?_ ?_ ?_ ?_ ?_ ?_ ?_ <;> simp only [HV.lay, HV.pre, HV.add] <;> (repeat' split) <;> (first | rfl | (exfalso; omega) | omega)
theorem pre_new {R : HV} (h : R.tidy) {j : Nat} {i : Int} (e : i - R.k = (j : Int)) (hj : j < 4) : (hvRow (R.pre i)).setIfInBounds (7 + j) (.int .i64 (R.at i)) = hvRow (R.pre (i + 1)) := by
  obtain ⟨h0, h4, ht, z0, z1, z2, z3, _⟩ := h
  have hat : R.at i = R.tl j := by unfold HV.at; rw [if_neg (by omega), e]
  rw [hat, show 7 + j = 3 + (4 + j) by omega, set_lay _ _ _ (by omega)]
  have : j = 0 ∨ j = 1 ∨ j = 2 ∨ j = 3 := by omega
  refine congrArg hvRow ?_
  rcases this with rfl | rfl | rfl | rfl
  all_goals
    refine hv_eq rfl rfl rfl ?_ ?_ ?_ ?_ ?_ ?_ ?_ ?_ <;> simp only [HV.lay, HV.pre, HV.tl] <;> (repeat' split) <;> (first | rfl | (exfalso; omega) | omega)
end Go.Proofs.Ytedjbklejdcknaa
/- the program's Then on steps: the walk -/
namespace Go.Proofs.Ytedjbklejdcknaa
open Go.RowKit
set_option linter.unusedVariables false
set_option linter.unusedSimpArgs false
attribute [local go_sem ↓] loadH loadT storeH storeT
attribute [local simp] size_setRow
attribute [local go_sem] rowAt_head rowOf_alloc_at rowOf_alloc_past rowOf_drew rowOf_drewN rowOf_setRow_same rowOf_setRow_other rowOf_setCell_same rowOf_setCell_other size_setRow setRow_drew setRow_alloc_at setRow_alloc_past one_int one_bool cell_setRow_same cell_setRow_other frozen_setRow_same frozen_setRow_other
attribute [local go_sem ↓] run_imin

theorem tidy_then {a b : HV} (ha : a.right) (hb : b.right) : (thenH a b).tidy := by
  have sa := right_size ha; have sb := right_size hb
  have hm : 0 ≤ imin a.k b.k ∧ imin a.k b.k ≤ 4 ∧ imin a.k b.k ≤ b.k + b.t := by unfold imin; split <;> omega
  unfold thenH
  generalize imin a.k b.k = m at *
  generalize b.k + b.t = g at *
  obtain ⟨m0, m4, mg⟩ := hm
  refine ⟨m0, m4, by show 0 ≤ g - m; omega, ?_, ?_, ?_, ?_, ?_, ?_, ?_, ?_⟩ <;> simp only [thenR] <;> intro h <;> exact if_neg (by omega)
theorem nums_then {a b : HV} (ha : a.right) (hb : b.right) (i : Int) (h0 : 0 ≤ i) (hi : i < b.k + b.t) : (thenH a b).at i = if i < b.k then b.at i + a.at i else b.at i := by
  have sa := right_size ha; have sb := right_size hb
  have hm : 0 ≤ imin a.k b.k ∧ imin a.k b.k ≤ 4 ∧ imin a.k b.k ≤ b.k + b.t := by unfold imin; split <;> omega
  have h := at_then a.f (imin a.k b.k) (b.k + b.t) b.k (a.at 0) (a.at 1) (a.at 2) (a.at 3) (b.at 0) (b.at 1) (b.at 2) (b.at 3) hm.1 hm.2.1 hm.2.2 (by omega)
  have : i = 0 ∨ i = 1 ∨ i = 2 ∨ i = 3 := by omega
  rcases this with rfl | rfl | rfl | rfl
  · exact h.1 hi
  · exact h.2.1 hi
  · exact h.2.2.1 hi
  · exact h.2.2.2 hi
set_option maxRecDepth 100000 in
set_option maxHeartbeats 16000000 in
theorem jthen_no (a b : HV) (hy : (a.rightB && b.rightB && (a.k + a.t == b.f)) = false) (w : World) :
    Calls Try.prog 65 #[a.val, b.val] w (Ret (.tuple #[HV.zero.val, .bool false]) w) := by
  have HA : Hid (∀ W, Calls Try.prog 14 #[(HV.val a)] W (Ret (.bool a.rightB) W)) := fun W => jright_is rfl W
  have HB : Hid (∀ W, Calls Try.prog 14 #[(HV.val b)] W (Ret (.bool b.rightB) W)) := fun W => jright_is rfl W
  have GA : Hid (a.rightB = true → ∀ W, Calls Try.prog 29 #[(HV.val a)] W (Ret (.int .i64 (a.k + a.t)) W)) := fun h W => jgives_is a h rfl W
  have hcase : (a.rightB = false) ∨ (a.rightB = true ∧ b.rightB = false) ∨ (a.rightB = true ∧ b.rightB = true ∧ (a.k + a.t != b.f) = true) := by
    cases h1 : a.rightB
    · exact .inl rfl
    · cases h2 : b.rightB
      · exact .inr (.inl ⟨rfl, rfl⟩)
      · rw [h1, h2] at hy
        exact .inr (.inr ⟨rfl, rfl, by simpa using hy⟩)
  clear hy
  generalize a.rightB = ra at *
  generalize b.rightB = rb at *
  generalize a.k + a.t = ga at *
  go_enter Try.func65, Try.ntmps65
  go_wp2_with fail
  refine gen_world (fun W2 => Hid (T0 w W2 (hvRow a) (hvRow b) (hvRow HV.zero))) (Lib.hid (T0.start _ _ _ _ _ _)) ?_
  rintro w1 HT
  have N_p := HT.out.a
  have L_p := rowOf_lt N_p
  have D_p := Nat.ne_of_lt L_p
  have N_q := HT.out.b
  have L_q := rowOf_lt N_q
  have D_q := Nat.ne_of_lt L_q
  have N_r := HT.out.r
  have L_r := rowOf_lt N_r
  have D_r := Nat.ne_of_lt L_r
  refine wp_region_bx (by kernel_rfl) (by kernel_rfl) ?_
  have p_0 := bx_cell (rowOf_cell N_p 0 : _ = some (.int .i64 a.f))
  have p_1 := bx_cell (rowOf_cell N_p 1 : _ = some (.int .i64 a.k))
  have p_2 := bx_cell (rowOf_cell N_p 2 : _ = some (.int .i64 a.t))
  have p_3 := bx_cell (rowOf_cell N_p 3 : _ = some (.int .i64 a.a0))
  have p_4 := bx_cell (rowOf_cell N_p 4 : _ = some (.int .i64 a.a1))
  have p_5 := bx_cell (rowOf_cell N_p 5 : _ = some (.int .i64 a.a2))
  have p_6 := bx_cell (rowOf_cell N_p 6 : _ = some (.int .i64 a.a3))
  have p_7 := bx_cell (rowOf_cell N_p 7 : _ = some (.int .i64 a.b0))
  have p_8 := bx_cell (rowOf_cell N_p 8 : _ = some (.int .i64 a.b1))
  have p_9 := bx_cell (rowOf_cell N_p 9 : _ = some (.int .i64 a.b2))
  have p_10 := bx_cell (rowOf_cell N_p 10 : _ = some (.int .i64 a.b3))
  have q_0 := bx_cell (rowOf_cell N_q 0 : _ = some (.int .i64 b.f))
  have q_1 := bx_cell (rowOf_cell N_q 1 : _ = some (.int .i64 b.k))
  have q_2 := bx_cell (rowOf_cell N_q 2 : _ = some (.int .i64 b.t))
  have q_3 := bx_cell (rowOf_cell N_q 3 : _ = some (.int .i64 b.a0))
  have q_4 := bx_cell (rowOf_cell N_q 4 : _ = some (.int .i64 b.a1))
  have q_5 := bx_cell (rowOf_cell N_q 5 : _ = some (.int .i64 b.a2))
  have q_6 := bx_cell (rowOf_cell N_q 6 : _ = some (.int .i64 b.a3))
  have q_7 := bx_cell (rowOf_cell N_q 7 : _ = some (.int .i64 b.b0))
  have q_8 := bx_cell (rowOf_cell N_q 8 : _ = some (.int .i64 b.b1))
  have q_9 := bx_cell (rowOf_cell N_q 9 : _ = some (.int .i64 b.b2))
  have q_10 := bx_cell (rowOf_cell N_q 10 : _ = some (.int .i64 b.b3))
  clear N_p L_p D_p N_q L_q D_q N_r L_r D_r
  rcases hcase with h1 | ⟨h1, h2⟩ | ⟨h1, h2, h3⟩
  all_goals
    (try subst h1); (try subst h2)
    repeat (first | go_big_quiet_step (first | (with_reducible exact Calls.bx (HA.out _)) | (with_reducible exact Calls.bx (HB.out _)) | (with_reducible exact Calls.bx (GA.out rfl _))) | quiet_step (first | (with_reducible exact Calls.bx (HA.out _)) | (with_reducible exact Calls.bx (HB.out _)) | (with_reducible exact Calls.bx (GA.out rfl _))))
    refine wpQuiet_nil ?_
    intro _ hw'
    obtain ⟨g9, hw''⟩ := hw'
    subst hw''
    have hb2 := g9.h
    generalize g9.w = w2 at hb2 ⊢
    clear g9
    have HT2 := Lib.hid (HT.out.below hb2)
    clear hb2
    clear p_0 p_1 p_2 p_3 p_4 p_5 p_6 p_7 p_8 p_9 p_10 q_0 q_1 q_2 q_3 q_4 q_5 q_6 q_7 q_8 q_9 q_10
    have N_p := HT2.out.a
    have L_p := rowOf_lt N_p
    have D_p := Nat.ne_of_lt L_p
    have N_q := HT2.out.b
    have L_q := rowOf_lt N_q
    have D_q := Nat.ne_of_lt L_q
    have N_r := HT2.out.r
    have L_r := rowOf_lt N_r
    have D_r := Nat.ne_of_lt L_r
    go_wp2
    exact bodyPost_ret (v := .tuple #[HV.zero.val, .bool false]) (by simp [results, Try.results65, go_sem, N_r, L_r, D_r, HV.zero]) rfl ⟨rfl, by first | exact (HT2.out.setR _).B | exact HT2.out.B⟩
end Go.Proofs.Ytedjbklejdcknaa
