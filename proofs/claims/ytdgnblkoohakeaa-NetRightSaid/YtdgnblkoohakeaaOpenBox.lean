/- mailboxes, a message, steps as arguments -/
import Derived.Test.YtdgnblkoohakeaaOpenAny
import Derived.Test.YtdgnblkoohakeaaOpenNum
import Derived.Test.YtdgnblkoohakeaaUb
namespace Go.Proofs.Ytdgnblkoohakeaa
open Go.ChangeShapes Go.WideShapes Go.ChangeAt Go.RowKit Go.Deep
set_option linter.unusedVariables false
set_option linter.unusedSimpArgs false

theorem msg_sizeU : Try.prog.cellsOf 29 = 10 := by kernel_rfl
theorem box_sizeU : Try.prog.cellsOf 34 = 4 := by kernel_rfl
theorem time_sizeU : Try.prog.cellsOf 25 = 5 := by kernel_rfl
theorem rec_sizeU : Try.prog.cellsOf 27 = 2 := by kernel_rfl
theorem int_sizeU : Try.prog.cellsOf 3 = 1 := by kernel_rfl
theorem i64_sizeU : Try.prog.cellsOf 2 = 1 := by kernel_rfl
theorem arr_sizeU : Try.prog.cellsOf 23 = 4 := by kernel_rfl
theorem sl_sizeU : Try.prog.cellsOf 32 = 1 := by kernel_rfl
section
variable {H : Type} {enc : TypeId × Value → H} {w : World} {base : Nat} {sp : Nat → Bool} {held : Bool}
set_option maxRecDepth 100000 in
/-- a slice within an argument -/
theorem open_rowsU {α : Type} [Inhabited α] (R : RowKind α) (P : α → Prop) (hk : Try.prog.cellsOf R.tE = R.k)
    (hcell : ∀ (n : Nat) (cs : List Value) (x : DataW H × List MemPlace), DataW.trod enc Try.prog w base sp held n R.tE cs = some x → ∃ a : α, cs = R.enc a ∧ P a)
    {fuel : Nat} {cs : List Value} {x : DataW H × List MemPlace} (h : DataW.trod enc Try.prog w base sp held fuel R.tS cs = some x) : ∃ (p : Option Addr) (n c : Nat) (xs : List α), cs = [.slice p n c] ∧ R.Is w (.slice p n c) xs ∧ n ≤ c ∧ ∀ x ∈ xs, P x := by
  rcases open_slice R.under h with ⟨e, _⟩ | ⟨a, len, cap, m, n, D, Pl, e, hb, hl, hm, hmm, _, hx⟩
  · exact ⟨none, 0, 0, [], e, .inl ⟨rfl, none, 0, rfl, fun _ => rfl⟩, Nat.le_refl _, fun x hx => by cases hx⟩
  · have hlm : len ≤ m := by rw [hmm]; split <;> omega
    rw [hk] at hx
    have each : ∀ i, i < m → ∃ t : α, P t ∧ ∀ k u, (R.enc t)[k]? = some u → w.cell? ((a.add (i * R.k)).add k) = some u := by
      intro i hi
      obtain ⟨cs', h1, h2⟩ := hx i hi
      obtain ⟨_, hlen, hcl⟩ := World.cells?_some h1
      obtain ⟨t, rfl, hp⟩ := hcell _ _ _ h2
      refine ⟨t, hp, fun k u hu => ?_⟩
      have hk5 : k < R.k := by have := (List.getElem?_eq_some_iff.1 hu).1; rw [R.len] at this; exact this
      rw [hcl k hk5]
      exact hu
    obtain ⟨T, hT⟩ := choose_lt each
    by_cases h0 : len = 0
    · subst h0
      exact ⟨some a, 0, cap, [], e, .inl ⟨rfl, some a, cap, rfl, fun h => by cases h⟩, by omega, fun x hx => by cases hx⟩
    · have hk0 := R.k0
      obtain ⟨u0, hu0⟩ : ∃ u, (R.enc (T 0))[0]? = some u := ⟨_, List.getElem?_eq_getElem (by rw [R.len]; exact hk0)⟩
      have c00 := (hT 0 (by omega)).2 0 _ hu0
      have hspot : a.spot = none := by
        rw [add_add] at c00
        unfold World.cell? at c00
        split at c00
        · split at c00
          · cases c00
          · rename_i hn
            simp [Addr.add] at hn
            exact hn
        · cases c00
      obtain ⟨b, off, spot⟩ := a
      simp only at hspot
      subst hspot
      have hbl : b < w.heap.size := World.block_lt_of_cell? _ _ (by rw [add_add, Nat.add_zero, Addr.add_lit] at c00; exact c00)
      refine ⟨some ⟨b, off, none⟩, len, cap, (List.range len).map T, e, .inr ⟨by simp [h0], b, off, cap, by simp, hbl, ?_⟩, by omega, fun x hx => ?_⟩
      · intro j hj i u hu
        have hj' : j < len := by simpa using hj
        have hg : ((List.range len).map T)[j]! = T j := by simp [hj']
        rw [hg] at hu
        have := (hT j (by omega)).2 i u hu
        rw [add_add, Addr.add_lit, ← Nat.add_assoc] at this
        exact this
      · obtain ⟨j, hj, rfl⟩ := List.mem_map.1 hx
        exact (hT j (by have := List.mem_range.1 hj; omega)).1
set_option maxRecDepth 100000 in
theorem open_time_cellsU {n : Nat} {cs : List Value} {x : DataW H × List MemPlace} (h : DataW.trod enc Try.prog w base sp held n 25 cs = some x) : ∃ d c0 c1 c2 c3 : Int, cs = [.int .i64 d, .int .i64 c0, .int .i64 c1, .int .i64 c2, .int .i64 c3] := by
  obtain ⟨xs, m, _, _, hl, hxl, hf⟩ := DataW.trod_struct Try.underlying25 h
  rw [time_sizeU] at hl
  match cs, hl with
  | [v0, v1, v2, v3, v4], _ =>
    match xs, hxl with
    | [y0, y1], _ =>
      have g0 := hf 0 ⟨ "D", 3, 0, false, "", "", 0⟩ rfl
      have g1 := hf 1 ⟨ "C", 23, 1, false, "", "", 8⟩ rfl
      dsimp only at g0 g1
      rw [int_sizeU] at g0
      rw [arr_sizeU] at g1
      simp only [ List.drop_zero, List.take_succ_cons, List.take_zero, List.drop_succ_cons, List.getElem?_cons_zero, List.getElem?_cons_succ] at g0 g1
      obtain ⟨d, e0, _, _⟩ := DataW.trod_int Try.underlying3 g0
      obtain ⟨zs, k, _, _, hz, hzl, hg⟩ := DataW.trod_array Try.underlying23 g1
      match zs, hzl with
      | [z0, z1, z2, z3], _ =>
        have a0 := hg 0 (by decide)
        have a1 := hg 1 (by decide)
        have a2 := hg 2 (by decide)
        have a3 := hg 3 (by decide)
        simp only [int_sizeU] at a0 a1 a2 a3
        simp at a0 a1 a2 a3
        obtain ⟨c0, b0, _, _⟩ := DataW.trod_int Try.underlying3 a0
        obtain ⟨c1, b1, _, _⟩ := DataW.trod_int Try.underlying3 a1
        obtain ⟨c2, b2, _, _⟩ := DataW.trod_int Try.underlying3 a2
        obtain ⟨c3, b3, _, _⟩ := DataW.trod_int Try.underlying3 a3
        have r0 : [v0] = [Value.int .i64 d] := e0
        have r1 : [v1] = [Value.int .i64 c0] := b0
        have r2 : [v2] = [Value.int .i64 c1] := b1
        have r3 : [v3] = [Value.int .i64 c2] := b2
        have r4 : [v4] = [Value.int .i64 c3] := b3
        obtain rfl := (List.cons.inj r0).1
        obtain rfl := (List.cons.inj r1).1
        obtain rfl := (List.cons.inj r2).1
        obtain rfl := (List.cons.inj r3).1
        obtain rfl := (List.cons.inj r4).1
        exact ⟨d, c0, c1, c2, c3, rfl⟩
set_option maxRecDepth 100000 in
theorem open_rec_cellsU {n : Nat} {cs : List Value} {x : DataW H × List MemPlace} (h : DataW.trod enc Try.prog w base sp held n 27 cs = some x) : ∃ k v : Int, cs = [.int .i64 k, .int .i64 v] := by
  obtain ⟨xs, m, _, _, hl, hxl, hf⟩ := DataW.trod_struct Try.underlying27 h
  rw [rec_sizeU] at hl
  match cs, hl with
  | [v0, v1], _ =>
    match xs, hxl with
    | [y0, y1], _ =>
      have g0 := hf 0 ⟨ "K", 2, 0, false, "", "", 0⟩ rfl
      have g1 := hf 1 ⟨ "V", 2, 1, false, "", "", 8⟩ rfl
      dsimp only at g0 g1
      rw [i64_sizeU] at g0 g1
      simp only [List.drop_zero, List.take_succ_cons, List.take_zero, List.drop_succ_cons, List.getElem?_cons_zero, List.getElem?_cons_succ] at g0 g1
      obtain ⟨t, e0, _, _⟩ := DataW.trod_int Try.underlying2 g0
      obtain ⟨k, e1, _, _⟩ := DataW.trod_int Try.underlying2 g1
      refine ⟨t, k, ?_⟩
      have r : [v0, v1] = [v0] ++ [v1] := rfl
      rw [r, e0, e1]
      rfl
set_option maxRecDepth 100000 in
theorem open_msg_cellsU (n : Nat) (cs : List Value) (x : DataW H × List MemPlace) (h : DataW.trod enc Try.prog w base sp held n 29 cs = some x) : ∃ m : MV, cs = RM.enc m ∧ True := by
  obtain ⟨xs, m, _, _, hl, hxl, hf⟩ := DataW.trod_struct Try.underlying29 h
  rw [msg_sizeU] at hl
  match cs, hl with
  | [v0, v1, v2, v3, v4, v5, v6, v7, v8, v9], _ =>
    match xs, hxl with
    | [y0, y1, y2, y3, y4], _ =>
      have g0 := hf 0 ⟨ "Edge", 3, 0, false, "", "", 0⟩ rfl
      have g1 := hf 1 ⟨ "Time", 25, 1, false, "", "", 8⟩ rfl
      have g2 := hf 2 ⟨ "Rec", 27, 6, false, "", "", 48⟩ rfl
      have g3 := hf 3 ⟨ "N", 3, 8, false, "", "", 64⟩ rfl
      have g4 := hf 4 ⟨ "Colour", 3, 9, false, "", "", 72⟩ rfl
      dsimp only at g0 g1 g2 g3 g4
      rw [int_sizeU] at g0 g3 g4
      rw [time_sizeU] at g1
      rw [rec_sizeU] at g2
      simp only [List.drop_zero, List.take_succ_cons, List.take_zero, List.drop_succ_cons, List.getElem?_cons_zero, List.getElem?_cons_succ] at g0 g1 g2 g3 g4
      obtain ⟨e, e0, _, _⟩ := DataW.trod_int Try.underlying3 g0
      obtain ⟨d, c0, c1, c2, c3, e1⟩ := open_time_cellsU g1
      obtain ⟨k, v, e2⟩ := open_rec_cellsU g2
      obtain ⟨nn, e3, _, _⟩ := DataW.trod_int Try.underlying3 g3
      obtain ⟨cc, e4, _, _⟩ := DataW.trod_int Try.underlying3 g4
      refine ⟨⟨e, d, c0, c1, c2, c3, k, v, nn, cc⟩, ?_, trivial⟩
      have r : [v0, v1, v2, v3, v4, v5, v6, v7, v8, v9] = [v0] ++ ([v1, v2, v3, v4, v5] ++ ([v6, v7] ++ ([v8] ++ [v9]))) := rfl
      rw [r, e0, e1, e2, e3, e4]
      rfl
set_option maxRecDepth 100000 in
theorem open_box_cellsU (n : Nat) (cs : List Value) (x : DataW H × List MemPlace) (h : DataW.trod enc Try.prog w base sp held n 34 cs = some x) : ∃ y : BW, cs = RB4.enc y ∧ ∃ b : BV, isBx w y b := by
  obtain ⟨xs, m, _, _, hl, hxl, hf⟩ := DataW.trod_struct Try.underlying34 h
  rw [box_sizeU] at hl
  match cs, hl with
  | [v0, v1, v2, v3], _ =>
    match xs, hxl with
    | [y0, y1, y2, y3], _ =>
      have g0 := hf 0 ⟨ "Edge", 3, 0, false, "", "", 0⟩ rfl
      have g1 := hf 1 ⟨ "From", 3, 1, false, "", "", 8⟩ rfl
      have g2 := hf 2 ⟨ "To", 3, 2, false, "", "", 16⟩ rfl
      have g3 := hf 3 ⟨ "List", 32, 3, false, "", "", 24⟩ rfl
      dsimp only at g0 g1 g2 g3
      rw [int_sizeU] at g0 g1 g2
      rw [sl_sizeU] at g3
      simp only [List.drop_zero, List.take_succ_cons, List.take_zero, List.drop_succ_cons, List.getElem?_cons_zero, List.getElem?_cons_succ] at g0 g1 g2 g3
      obtain ⟨e, e0, _, _⟩ := DataW.trod_int Try.underlying3 g0
      obtain ⟨f, e1, _, _⟩ := DataW.trod_int Try.underlying3 g1
      obtain ⟨t, e2, _, _⟩ := DataW.trod_int Try.underlying3 g2
      obtain ⟨p, k, c, L, e3, hI, hkc, _⟩ := open_rowsU RM (fun _ => True) msg_sizeU open_msg_cellsU g3
      obtain ⟨p', c', es⟩ := hI.slice
      simp only [Value.slice.injEq] at es
      refine ⟨⟨e, f, t, p, k, c⟩, ?_, ⟨e, f, t, L⟩, ⟨rfl, rfl, rfl, es.2.1, hkc, hI⟩⟩
      have r : [v0, v1, v2, v3] = [v0] ++ ([v1] ++ ([v2] ++ [v3])) := rfl
      rw [r, e0, e1, e2, e3]
      rfl
theorem boxes_of {w : World} : ∀ (xs : List BW), (∀ x ∈ xs, ∃ b : BV, isBx w x b) → ∃ n : List BV, areBx w xs n
  | [], _ => ⟨[], rfl, fun i hi => absurd hi (by simp)⟩
  | x :: xs, h => by
    obtain ⟨b, h1⟩ := h x List.mem_cons_self
    obtain ⟨n, h3, h4⟩ := boxes_of xs fun y hy => h y (List.mem_cons_of_mem _ hy)
    refine ⟨b :: n, by simp [h3], fun i hi => ?_⟩
    cases i with
    | zero => exact h1
    | succ i =>
      have hi : i < n.length := by simpa using hi
      have := h4 i hi
      simpa using this
set_option maxRecDepth 100000 in
theorem open_boxes {r : Reach} {b0 : Nat} {v : Value} {d : DataW H} {ps : List MemPlace} (hval : Value.okWide Try.prog w r b0 22 v) (hd : DataW.Trod enc Try.prog w base sp held 22 v d ps) : ∃ n : List BV, IsBs w v n ∧ capOk v := by
  obtain ⟨xs, h1, h2, h3⟩ := open_rows RB4 (fun x => ∃ b : BV, isBx w x b) box_sizeU open_box_cellsU hval hd
  obtain ⟨n, h4⟩ := boxes_of xs h3
  exact ⟨n, ⟨xs, h1, h4⟩, h2⟩
end
theorem msg_cellsU : Try.prog.cellTypes Try.prog.depth 29 = some [3, 3, 3, 3, 3, 3, 2, 2, 3, 3] := by kernel_rfl
set_option maxRecDepth 100000 in
theorem open_msg {W : World} {r : Reach} {b : Nat} {v : Value} (h : Value.okWide Try.prog W r b 29 v) : ∃ m : MV, v = m.val := by
  unfold Value.okWide at h
  rw [Try.underlying29] at h
  obtain ⟨cs, rfl, hsz, ts, hts, _, hall⟩ := h
  rw [msg_cellsU] at hts
  obtain rfl := Option.some.inj hts
  rw [msg_sizeU] at hsz
  obtain ⟨l⟩ := cs
  match l, hsz with
  | [v0, v1, v2, v3, v4, v5, v6, v7, v8, v9], _ =>
    have g : ∀ (i : Nat) (v : Value), (#[v0, v1, v2, v3, v4, v5, v6, v7, v8, v9] : Array Value)[i]? = some v → ∃ n : Int, v = Value.int .i64 n := by
      intro i v hv
      obtain ⟨u, hu, hc⟩ := hall i v hv
      have hi : i < 10 := by have := (Array.getElem?_eq_some_iff.1 hv).1; simpa using this
      have hu3 : u = 3 ∨ u = 2 := by
        match i, hi, hu with
        | 0, _, hu => exact .inl (by simpa using hu.symm)
        | 1, _, hu => exact .inl (by simpa using hu.symm)
        | 2, _, hu => exact .inl (by simpa using hu.symm)
        | 3, _, hu => exact .inl (by simpa using hu.symm)
        | 4, _, hu => exact .inl (by simpa using hu.symm)
        | 5, _, hu => exact .inl (by simpa using hu.symm)
        | 6, _, hu => exact .inr (by simpa using hu.symm)
        | 7, _, hu => exact .inr (by simpa using hu.symm)
        | 8, _, hu => exact .inl (by simpa using hu.symm)
        | 9, _, hu => exact .inl (by simpa using hu.symm)
      rcases hu3 with rfl | rfl
      · obtain ⟨m, hm, _⟩ := cell_int Try.underlying3 hc
        exact ⟨m, hm⟩
      · obtain ⟨m, hm, _⟩ := cell_int Try.underlying2 hc
        exact ⟨m, hm⟩
    obtain ⟨x0, rfl⟩ := g 0 v0 rfl
    obtain ⟨x1, rfl⟩ := g 1 v1 rfl
    obtain ⟨x2, rfl⟩ := g 2 v2 rfl
    obtain ⟨x3, rfl⟩ := g 3 v3 rfl
    obtain ⟨x4, rfl⟩ := g 4 v4 rfl
    obtain ⟨x5, rfl⟩ := g 5 v5 rfl
    obtain ⟨x6, rfl⟩ := g 6 v6 rfl
    obtain ⟨x7, rfl⟩ := g 7 v7 rfl
    obtain ⟨x8, rfl⟩ := g 8 v8 rfl
    obtain ⟨x9, rfl⟩ := g 9 v9 rfl
    exact ⟨⟨x0, x1, x2, x3, x4, x5, x6, x7, x8, x9⟩, rfl⟩
/-! ### steps -/
structure PV5 where
  p : Bool
  e : Int
  f : Int
  t : Int
  i : Int
instance : Inhabited PV5 := ⟨⟨false, 0, 0, 0, 0⟩⟩
def RSp : RowKind PV5 where
  enc := fun x => [.bool x.p, .int .u8 x.e, .int .u8 x.f, .int .u8 x.t, .int .u8 x.i]
  k := 5
  k0 := by decide
  len := fun _ => rfl
  one := by
    intro c u hu
    simp at hu
    rcases hu with rfl | rfl | rfl | rfl | rfl <;> rfl
  tE := 47
  tS := 44
  zero := .agg #[.bool false, .int .u8 0, .int .u8 0, .int .u8 0, .int .u8 0]
  bytes := 5
  info := by kernel_rfl
  under := Try.underlying44
  zlen := rfl
  byt := by decide
theorem atSp {w : World} {b off : Nat} {xs : List PV5} (h : RSp.Row w b off xs) (j : Nat) (hj : j < xs.length) :
    w.cell? ⟨b, off + j * 5, none⟩ = some (.bool xs[j]!.p) ∧ w.cell? ⟨b, off + j * 5 + 1, none⟩ = some (.int .u8 xs[j]!.e) ∧ w.cell? ⟨b, off + j * 5 + 2, none⟩ = some (.int .u8 xs[j]!.f) ∧ w.cell? ⟨b, off + j * 5 + 3, none⟩ = some (.int .u8 xs[j]!.t) ∧ w.cell? ⟨b, off + j * 5 + 4, none⟩ = some (.int .u8 xs[j]!.i) :=
  ⟨h j hj 0 _ rfl, h j hj 1 _ rfl, h j hj 2 _ rfl, h j hj 3 _ rfl, h j hj 4 _ rfl⟩
theorem step_sizeU : Try.prog.cellsOf 47 = 5 := by kernel_rfl
theorem u8_sizeU : Try.prog.cellsOf 5 = 1 := by kernel_rfl
theorem bool_sizeU : Try.prog.cellsOf 4 = 1 := by kernel_rfl
section
variable {H : Type} {enc : TypeId × Value → H} {w : World} {base : Nat} {sp : Nat → Bool} {held : Bool}
set_option maxRecDepth 100000 in
theorem open_step_cellsU (n : Nat) (cs : List Value) (x : DataW H × List MemPlace) (h : DataW.trod enc Try.prog w base sp held n 47 cs = some x) : ∃ c : PV5, cs = RSp.enc c ∧ (0 ≤ c.e ∧ c.e ≤ 255) ∧ (0 ≤ c.f ∧ c.f ≤ 255) ∧ (0 ≤ c.t ∧ c.t ≤ 255) ∧ (0 ≤ c.i ∧ c.i ≤ 255) := by
  obtain ⟨xs, m, _, _, hl, hxl, hf⟩ := DataW.trod_struct Try.underlying47 h
  rw [step_sizeU] at hl
  match cs, hl with
  | [v0, v1, v2, v3, v4], _ =>
    match xs, hxl with
    | [y0, y1, y2, y3, y4], _ =>
      have g0 := hf 0 ⟨ "Put", 4, 0, false, "", "", 0⟩ rfl
      have g1 := hf 1 ⟨ "Edge", 5, 1, false, "", "", 1⟩ rfl
      have g2 := hf 2 ⟨ "From", 5, 2, false, "", "", 2⟩ rfl
      have g3 := hf 3 ⟨ "To", 5, 3, false, "", "", 3⟩ rfl
      have g4 := hf 4 ⟨ "I", 5, 4, false, "", "", 4⟩ rfl
      dsimp only at g0 g1 g2 g3 g4
      rw [bool_sizeU] at g0
      rw [u8_sizeU] at g1 g2 g3 g4
      simp only [List.drop_zero, List.take_succ_cons, List.take_zero, List.drop_succ_cons, List.getElem?_cons_zero, List.getElem?_cons_succ] at g0 g1 g2 g3 g4
      obtain ⟨t0, e0, _⟩ := DataW.trod_bool Try.underlying4 g0
      obtain ⟨t1, e1, _, w1⟩ := DataW.trod_int Try.underlying5 g1
      obtain ⟨t2, e2, _, w2⟩ := DataW.trod_int Try.underlying5 g2
      obtain ⟨t3, e3, _, w3⟩ := DataW.trod_int Try.underlying5 g3
      obtain ⟨t4, e4, _, w4⟩ := DataW.trod_int Try.underlying5 g4
      have h1 := Bool.and_eq_true_iff.1 w1
      have h2 := Bool.and_eq_true_iff.1 w2
      have h3 := Bool.and_eq_true_iff.1 w3
      have h4 := Bool.and_eq_true_iff.1 w4
      refine ⟨⟨t0, t1, t2, t3, t4⟩, ?_, ⟨of_decide_eq_true h1.1, of_decide_eq_true h1.2⟩, ⟨of_decide_eq_true h2.1, of_decide_eq_true h2.2⟩, ⟨of_decide_eq_true h3.1, of_decide_eq_true h3.2⟩, ⟨of_decide_eq_true h4.1, of_decide_eq_true h4.2⟩⟩
      have r : [v0, v1, v2, v3, v4] = [v0] ++ ([v1] ++ ([v2] ++ ([v3] ++ [v4]))) := rfl
      rw [r, e0, e1, e2, e3, e4]
      rfl
set_option maxRecDepth 100000 in
theorem open_steps {r : Reach} {b0 : Nat} {v : Value} {d : DataW H} {ps : List MemPlace} (hval : Value.okWide Try.prog w r b0 44 v) (hd : DataW.Trod enc Try.prog w base sp held 44 v d ps) : ∃ xs : List PV5, RSp.Is w v xs ∧ capOk v ∧ ∀ c ∈ xs, (0 ≤ c.e ∧ c.e ≤ 255) ∧ (0 ≤ c.f ∧ c.f ≤ 255) ∧ (0 ≤ c.t ∧ c.t ≤ 255) ∧ (0 ≤ c.i ∧ c.i ≤ 255) :=
  open_rows RSp _ step_sizeU open_step_cellsU hval hd
end
end Go.Proofs.Ytdgnblkoohakeaa
