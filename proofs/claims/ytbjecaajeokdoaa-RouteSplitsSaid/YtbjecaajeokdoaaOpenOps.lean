/- an operator, records and items as arguments, with the ranges of their numbers -/
import Derived.Test.YtbjecaajeokdoaaOpenBag
import Derived.Test.YtbjecaajeokdoaaOpenIns
namespace Go.Proofs.Ytbjecaajeokdoaa
open Go.ChangeShapes Go.WideShapes Go.ChangeAt Go.RowKit Go.Deep
set_option linter.unusedVariables false
set_option linter.unusedSimpArgs false

section
variable {H : Type} {enc : TypeId × Value → H} {w : World} {base : Nat} {sp : Nat → Bool} {held : Bool}
set_option maxRecDepth 100000 in
/-- a slice within an argument -/
theorem open_rowsO {α : Type} [Inhabited α] (R : RowKind α) (P : α → Prop) (hk : Try.prog.cellsOf R.tE = R.k)
    (hcell : ∀ (n : Nat) (cs : List Value) (x : DataW H × List MemPlace), DataW.trod enc Try.prog w base sp held n R.tE cs = some x → ∃ a : α, cs = R.enc a ∧ P a)
    {fuel : Nat} {cs : List Value} {x : DataW H × List MemPlace} (h : DataW.trod enc Try.prog w base sp held fuel R.tS cs = some x) : ∃ (p : Option Addr) (n c : Nat) (xs : List α), cs = [.slice p n c] ∧ R.Is w (.slice p n c) xs ∧ n ≤ c ∧ ∀ x ∈ xs, P x := by
  rcases open_slice R.under h with ⟨e, _⟩ | ⟨a, len, cap, m, n, D, Pl, e, hb, hl, hm, hmm, _, hx⟩
  · exact ⟨none, 0, 0, [], e, .inl ⟨rfl, none, 0, rfl, fun _ => rfl⟩, Nat.le_refl _, fun x hx => by cases hx⟩
  · have hlm : len ≤ m := by rw [hmm]; split <;> omega
    rw [hk] at hx
    have each : ∀ i, i < m → ∃ t : α, P t ∧ ∀ k u, (R.enc t)[k]? = some u → w.cell? ((a.add (i * R.k)).add k) = some u := by
      intro i hi
      obtain ⟨cs', h1, h2⟩ := hx i hi
      obtain ⟨_, hlen, hcl⟩ := World.cells?_some h1
      obtain ⟨t, rfl, hp⟩ := hcell _ _ _ h2
      refine ⟨t, hp, fun k u hu => ?_⟩
      have hk5 : k < R.k := by have := (List.getElem?_eq_some_iff.1 hu).1; rw [R.len] at this; exact this
      rw [hcl k hk5]
      exact hu
    obtain ⟨T, hT⟩ := choose_lt each
    by_cases h0 : len = 0
    · subst h0
      exact ⟨some a, 0, cap, [], e, .inl ⟨rfl, some a, cap, rfl, fun h => by cases h⟩, by omega, fun x hx => by cases hx⟩
    · have hk0 := R.k0
      obtain ⟨u0, hu0⟩ : ∃ u, (R.enc (T 0))[0]? = some u := ⟨_, List.getElem?_eq_getElem (by rw [R.len]; exact hk0)⟩
      have c00 := (hT 0 (by omega)).2 0 _ hu0
      have hspot : a.spot = none := by
        rw [add_add] at c00
        unfold World.cell? at c00
        split at c00
        · split at c00
          · cases c00
          · rename_i hn
            simp [Addr.add] at hn
            exact hn
        · cases c00
      obtain ⟨b, off, spot⟩ := a
      simp only at hspot
      subst hspot
      have hbl : b < w.heap.size := World.block_lt_of_cell? _ _ (by rw [add_add, Nat.add_zero, Addr.add_lit] at c00; exact c00)
      refine ⟨some ⟨b, off, none⟩, len, cap, (List.range len).map T, e, .inr ⟨by simp [h0], b, off, cap, by simp, hbl, ?_⟩, by omega, fun x hx => ?_⟩
      · intro j hj i u hu
        have hj' : j < len := by simpa using hj
        have hg : ((List.range len).map T)[j]! = T j := by simp [hj']
        rw [hg] at hu
        have := (hT j (by omega)).2 i u hu
        rw [add_add, Addr.add_lit, ← Nat.add_assoc] at this
        exact this
      · obtain ⟨j, hj, rfl⟩ := List.mem_map.1 hx
        exact (hT j (by have := List.mem_range.1 hj; omega)).1
set_option maxRecDepth 100000 in
theorem open_recQ_cells (n : Nat) (cs : List Value) (x : DataW H × List MemPlace) (h : DataW.trod enc Try.prog w base sp held n 29 cs = some x) : ∃ c : RV, cs = c.enc ∧ (inR c.k ∧ inR c.v) := by
  obtain ⟨xs, m, _, _, hl, hxl, hf⟩ := DataW.trod_struct Try.underlying29 h
  rw [rec_size] at hl
  match cs, hl with
  | [v0, v1], _ =>
    match xs, hxl with
    | [y0, y1], _ =>
      have g0 := hf 0 ⟨ "K", 2, 0, false, "", "", 0⟩ rfl
      have g1 := hf 1 ⟨ "V", 2, 1, false, "", "", 8⟩ rfl
      dsimp only at g0 g1
      rw [int64_size] at g0 g1
      simp only [List.drop_zero, List.take_succ_cons, List.take_zero, List.drop_succ_cons, List.getElem?_cons_zero, List.getElem?_cons_succ] at g0 g1
      obtain ⟨t, e0, _, hw0⟩ := DataW.trod_int Try.underlying2 g0
      obtain ⟨k, e1, _, hw1⟩ := DataW.trod_int Try.underlying2 g1
      have h0 := Bool.and_eq_true_iff.1 hw0
      have h1 := Bool.and_eq_true_iff.1 hw1
      refine ⟨⟨t, k⟩, ?_, ⟨of_decide_eq_true h0.1, of_decide_eq_true h0.2⟩, ⟨of_decide_eq_true h1.1, of_decide_eq_true h1.2⟩⟩
      have r : [v0, v1] = [v0] ++ [v1] := rfl
      rw [r, e0, e1]
      rfl
set_option maxRecDepth 100000 in
theorem open_itemQ_cells (n : Nat) (cs : List Value) (x : DataW H × List MemPlace) (h : DataW.trod enc Try.prog w base sp held n 31 cs = some x) : ∃ c : IV, cs = c.enc ∧ ((inR c.t.k ∧ inR c.t.v) ∧ inR c.n) := by
  obtain ⟨xs, m, _, _, hl, hxl, hf⟩ := DataW.trod_struct Try.underlying31 h
  rw [item_size] at hl
  match cs, hl with
  | [v0, v1, v2], _ =>
    match xs, hxl with
    | [y0, y1], _ =>
      have g0 := hf 0 ⟨ "Rec", 29, 0, false, "", "", 0⟩ rfl
      have g1 := hf 1 ⟨ "N", 3, 2, false, "", "", 16⟩ rfl
      dsimp only at g0 g1
      rw [rec_size] at g0
      rw [int_sizeI] at g1
      simp only [List.drop_zero, List.take_succ_cons, List.take_zero, List.drop_succ_cons, List.getElem?_cons_zero, List.getElem?_cons_succ] at g0 g1
      obtain ⟨t, e0, ht⟩ := open_recQ_cells _ _ _ g0
      obtain ⟨k, e1, _, hwf⟩ := DataW.trod_int Try.underlying3 g1
      have hh := Bool.and_eq_true_iff.1 hwf
      refine ⟨⟨t, k⟩, ?_, ht, of_decide_eq_true hh.1, of_decide_eq_true hh.2⟩
      have r : [v0, v1, v2] = [v0, v1] ++ [v2] := rfl
      rw [r, e0, e1]
      rfl
set_option maxRecDepth 100000 in
theorem open_itemsQ {r : Reach} {b0 : Nat} {v : Value} {d : DataW H} {ps : List MemPlace} (hval : Value.okWide Try.prog w r b0 25 v) (hd : DataW.Trod enc Try.prog w base sp held 25 v d ps) : ∃ xs : List IV, RI.Is w v xs ∧ capOk v ∧ ∀ x ∈ xs, (inR x.t.k ∧ inR x.t.v) ∧ inR x.n :=
  open_rows RI _ item_size open_itemQ_cells hval hd
end
end Go.Proofs.Ytbjecaajeokdoaa
