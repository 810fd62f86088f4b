/- an argument that is a slice of anything whose cells are told once; records and items as arguments -/
import Derived.Test.YtgmpgemgoplafaaG41
import Derived.Test.YtgmpgemgoplafaaG02
import Derived.Deep.Slices
import Derived.Test.YtgmpgemgoplafaaG03
import Derived.Test.YtgmpgemgoplafaaG07
namespace Go.Proofs.Ytgmpgemgoplafaa
open Go.ChangeShapes Go.WideShapes Go.ChangeAt Go.RowKit Go.Deep
set_option linter.unusedVariables false
set_option linter.unusedSimpArgs false

section
variable {H : Type} {enc : TypeId × Value → H} {w : World} {base : Nat} {sp : Nat → Bool} {held : Bool}
set_option maxRecDepth 100000 in
theorem open_rows {α : Type} [Inhabited α] (R : RowKind α) (P : α → Prop) (hk : Try.prog.cellsOf R.tE = R.k)
    (hcell : ∀ (n : Nat) (cs : List Value) (x : DataW H × List MemPlace), DataW.trod enc Try.prog w base sp held n R.tE cs = some x → ∃ a : α, cs = R.enc a ∧ P a)
    {r : Reach} {b0 : Nat} {v : Value} {d : DataW H} {ps : List MemPlace} (hval : Value.okWide Try.prog w r b0 R.tS v) (hd : DataW.Trod enc Try.prog w base sp held R.tS v d ps) : ∃ xs : List α, R.Is w v xs ∧ capOk v ∧ ∀ x ∈ xs, P x := by
  obtain ⟨fuel, h⟩ := hd
  obtain ⟨pa, ln, cp, rfl⟩ := okWide_slice R.under hval
  rcases open_slice R.under h with ⟨e, _⟩ | ⟨a, len, cap, m, n, D, Pl, e, hb, hl, hm, hmm, _, hx⟩
  · simp [Value.cells] at e
    obtain ⟨rfl, rfl, rfl⟩ := e
    exact ⟨[], .inl ⟨rfl, none, 0, rfl, fun _ => rfl⟩, fun p n c e => by cases e; omega, fun x hx => by cases hx⟩
  · simp [Value.cells] at e
    obtain ⟨rfl, rfl, rfl⟩ := e
    have hlm : ln ≤ m := by rw [hmm]; split <;> omega
    rw [hk] at hx
    have each : ∀ i, i < m → ∃ t : α, P t ∧ ∀ k u, (R.enc t)[k]? = some u → w.cell? ((a.add (i * R.k)).add k) = some u := by
      intro i hi
      obtain ⟨cs', h1, h2⟩ := hx i hi
      obtain ⟨_, hlen, hcl⟩ := World.cells?_some h1
      obtain ⟨t, rfl, hp⟩ := hcell _ _ _ h2
      refine ⟨t, hp, fun k u hu => ?_⟩
      have hk5 : k < R.k := by have := (List.getElem?_eq_some_iff.1 hu).1; rw [R.len] at this; exact this
      rw [hcl k hk5]
      exact hu
    obtain ⟨T, hT⟩ := choose_lt each
    by_cases h0 : ln = 0
    · subst h0
      exact ⟨[], .inl ⟨rfl, some a, cp, rfl, fun h => by cases h⟩, fun p n c e => by cases e; omega, fun x hx => by cases hx⟩
    · have hk0 := R.k0
      obtain ⟨u0, hu0⟩ : ∃ u, (R.enc (T 0))[0]? = some u := ⟨_, List.getElem?_eq_getElem (by rw [R.len]; exact hk0)⟩
      have c00 := (hT 0 (by omega)).2 0 _ hu0
      have hspot : a.spot = none := by
        rw [add_add] at c00
        unfold World.cell? at c00
        split at c00
        · split at c00
          · cases c00
          · rename_i hn
            simp [Addr.add] at hn
            exact hn
        · cases c00
      obtain ⟨b, off, spot⟩ := a
      simp only at hspot
      subst hspot
      have hbl : b < w.heap.size := World.block_lt_of_cell? _ _ (by rw [add_add, Nat.add_zero, Addr.add_lit] at c00; exact c00)
      refine ⟨(List.range ln).map T, .inr ⟨by simp [h0], b, off, cp, by simp, hbl, ?_⟩, fun p n c e => by cases e; omega, fun x hx => ?_⟩
      · intro j hj i u hu
        have hj' : j < ln := by simpa using hj
        have hg : ((List.range ln).map T)[j]! = T j := by simp [hj']
        rw [hg] at hu
        have := (hT j (by omega)).2 i u hu
        rw [add_add, Addr.add_lit, ← Nat.add_assoc] at this
        exact this
      · obtain ⟨j, hj, rfl⟩ := List.mem_map.1 hx
        exact (hT j (by have := List.mem_range.1 hj; omega)).1
end
end Go.Proofs.Ytgmpgemgoplafaa
/- records and items as arguments -/
namespace Go.Proofs.Ytgmpgemgoplafaa
open Go.ChangeShapes Go.WideShapes Go.ChangeAt Go.RowKit Go.Deep
set_option linter.unusedVariables false
set_option linter.unusedSimpArgs false

theorem rec_cells : Try.prog.cellTypes Try.prog.depth 41 = some [2, 2] := by kernel_rfl
theorem rec_size : Try.prog.cellsOf 41 = 2 := by kernel_rfl
theorem item_size : Try.prog.cellsOf 43 = 3 := by kernel_rfl
theorem int64_size : Try.prog.cellsOf 2 = 1 := by kernel_rfl
theorem int_sizeI : Try.prog.cellsOf 3 = 1 := by kernel_rfl
set_option maxRecDepth 100000 in
theorem open_rec {W : World} {r : Reach} {b : Nat} {v : Value} (h : Value.okWide Try.prog W r b 41 v) : ∃ x : RV, v = x.val := by
  unfold Value.okWide at h
  rw [Try.underlying41] at h
  obtain ⟨cs, rfl, hsz, ts, hts, _, hall⟩ := h
  rw [rec_cells] at hts
  obtain rfl := Option.some.inj hts
  rw [rec_size] at hsz
  obtain ⟨l⟩ := cs
  match l, hsz with
  | [v0, v1], _ =>
    have g : ∀ (i : Nat) (v : Value), (#[v0, v1] : Array Value)[i]? = some v → ∃ n : Int, v = Value.int .i64 n ∧ IntKind.i64.has n := by
      intro i v hv
      obtain ⟨u, hu, hc⟩ := hall i v hv
      have hi : i < 2 := by have := (Array.getElem?_eq_some_iff.1 hv).1; simpa using this
      have hu3 : u = 2 := by
        match i, hi, hu with
        | 0, _, hu => simpa using hu.symm
        | 1, _, hu => simpa using hu.symm
      subst hu3
      exact cell_int Try.underlying2 hc
    obtain ⟨d, rfl, h0⟩ := g 0 v0 rfl
    obtain ⟨c0, rfl, h1⟩ := g 1 v1 rfl
    exact ⟨⟨d, c0⟩, rfl⟩
section
variable {H : Type} {enc : TypeId × Value → H} {w : World} {base : Nat} {sp : Nat → Bool} {held : Bool}
set_option maxRecDepth 100000 in
theorem open_rec_cells (n : Nat) (cs : List Value) (x : DataW H × List MemPlace) (h : DataW.trod enc Try.prog w base sp held n 41 cs = some x) : ∃ c : RV, cs = c.enc ∧ True := by
  obtain ⟨xs, m, _, _, hl, hxl, hf⟩ := DataW.trod_struct Try.underlying41 h
  rw [rec_size] at hl
  match cs, hl with
  | [v0, v1], _ =>
    match xs, hxl with
    | [y0, y1], _ =>
      have g0 := hf 0 ⟨ "K", 2, 0, false, "", "", 0⟩ rfl
      have g1 := hf 1 ⟨ "V", 2, 1, false, "", "", 8⟩ rfl
      dsimp only at g0 g1
      rw [int64_size] at g0 g1
      simp only [List.drop_zero, List.take_succ_cons, List.take_zero, List.drop_succ_cons, List.getElem?_cons_zero, List.getElem?_cons_succ] at g0 g1
      obtain ⟨t, e0, _, _⟩ := DataW.trod_int Try.underlying2 g0
      obtain ⟨k, e1, _, _⟩ := DataW.trod_int Try.underlying2 g1
      refine ⟨⟨t, k⟩, ?_, trivial⟩
      have r : [v0, v1] = [v0] ++ [v1] := rfl
      rw [r, e0, e1]
      rfl
set_option maxRecDepth 100000 in
theorem open_item_cells (n : Nat) (cs : List Value) (x : DataW H × List MemPlace) (h : DataW.trod enc Try.prog w base sp held n 43 cs = some x) : ∃ c : IV, cs = c.enc ∧ (-9223372036854775808 ≤ c.n ∧ c.n ≤ 9223372036854775807) := by
  obtain ⟨xs, m, _, _, hl, hxl, hf⟩ := DataW.trod_struct Try.underlying43 h
  rw [item_size] at hl
  match cs, hl with
  | [v0, v1, v2], _ =>
    match xs, hxl with
    | [y0, y1], _ =>
      have g0 := hf 0 ⟨ "Rec", 41, 0, false, "", "", 0⟩ rfl
      have g1 := hf 1 ⟨ "N", 3, 2, false, "", "", 16⟩ rfl
      dsimp only at g0 g1
      rw [rec_size] at g0
      rw [int_sizeI] at g1
      simp only [List.drop_zero, List.take_succ_cons, List.take_zero, List.drop_succ_cons, List.getElem?_cons_zero, List.getElem?_cons_succ] at g0 g1
      obtain ⟨t, e0, _⟩ := open_rec_cells _ _ _ g0
      obtain ⟨k, e1, _, hwf⟩ := DataW.trod_int Try.underlying3 g1
      refine ⟨⟨t, k⟩, ?_, ?_⟩
      · have r : [v0, v1, v2] = [v0, v1] ++ [v2] := rfl
        rw [r, e0, e1]
        rfl
      · have hh := Bool.and_eq_true_iff.1 hwf
        exact ⟨of_decide_eq_true hh.1, of_decide_eq_true hh.2⟩
set_option maxRecDepth 100000 in
theorem open_items {r : Reach} {b0 : Nat} {v : Value} {d : DataW H} {ps : List MemPlace} (hval : Value.okWide Try.prog w r b0 28 v) (hd : DataW.Trod enc Try.prog w base sp held 28 v d ps) : ∃ xs : List IV, RI.Is w v xs ∧ capOk v ∧ ∀ x ∈ xs, -9223372036854775808 ≤ x.n ∧ x.n ≤ 9223372036854775807 :=
  open_rows RI _ item_size open_item_cells hval hd
set_option maxRecDepth 100000 in
theorem open_recs {r : Reach} {b0 : Nat} {v : Value} {d : DataW H} {ps : List MemPlace} (hval : Value.okWide Try.prog w r b0 25 v) (hd : DataW.Trod enc Try.prog w base sp held 25 v d ps) : ∃ xs : List RV, RR.Is w v xs ∧ capOk v := by
  obtain ⟨xs, h1, h2, _⟩ := open_rows RR (fun _ => True) rec_size open_rec_cells hval hd
  exact ⟨xs, h1, h2⟩
end
end Go.Proofs.Ytgmpgemgoplafaa
namespace Go.Proofs.Ytgmpgemgoplafaa
open Go.ChangeShapes Go.WideShapes Go.ChangeAt Go.RowKit
set_option linter.unusedVariables false
section
variable {P : Program}
theorem open_num {W : World} {r : Reach} {b : Nat} {t : TypeId} {k : IntKind} {v : Value} (ht : P.underlying t = some (.int k)) (h : Value.okWide P W r b t v) : ∃ n, v = .int k n ∧ k.has n := by
  unfold Value.okWide at h
  rw [ht] at h
  exact cell_int ht h
theorem open_flag {W : World} {r : Reach} {b : Nat} {t : TypeId} {v : Value} (ht : P.underlying t = some .bool) (h : Value.okWide P W r b t v) : ∃ c, v = .bool c := by
  unfold Value.okWide at h
  rw [ht] at h
  unfold Cell.okWide Cell.ok at h
  rw [ht] at h
  cases v <;> simp at h
  exact ⟨_, rfl⟩
end
end Go.Proofs.Ytgmpgemgoplafaa
/- instructions and records as arguments, with their bounds -/
namespace Go.Proofs.Ytgmpgemgoplafaa
open Go.ChangeShapes Go.WideShapes Go.ChangeAt Go.RowKit Go.Deep
set_option linter.unusedVariables false
set_option linter.unusedSimpArgs false

theorem rec2_cells : Try.prog.cellTypes Try.prog.depth 41 = some [2, 2] := by kernel_rfl
theorem rec2_size : Try.prog.cellsOf 41 = 2 := by kernel_rfl
theorem ins_size : Try.prog.cellsOf 119 = 2 := by kernel_rfl
theorem i64_size2 : Try.prog.cellsOf 2 = 1 := by kernel_rfl
theorem int_size2 : Try.prog.cellsOf 3 = 1 := by kernel_rfl
theorem has_inR {n : Int} (h : IntKind.i64.has n) : inR n := ⟨h.1, h.2⟩
set_option maxRecDepth 100000 in
theorem open_rec2 {W : World} {r : Reach} {b : Nat} {v : Value} (h : Value.okWide Try.prog W r b 41 v) : ∃ k n : Int, v = .agg #[.int .i64 k, .int .i64 n] ∧ inR k ∧ inR n := by
  unfold Value.okWide at h
  rw [Try.underlying41] at h
  obtain ⟨cs, rfl, hsz, ts, hts, _, hall⟩ := h
  rw [rec2_cells] at hts
  obtain rfl := Option.some.inj hts
  rw [rec2_size] at hsz
  obtain ⟨l⟩ := cs
  match l, hsz with
  | [v0, v1], _ =>
    have g : ∀ (i : Nat) (v : Value), (#[v0, v1] : Array Value)[i]? = some v → ∃ n : Int, v = Value.int .i64 n ∧ IntKind.i64.has n := by
      intro i v hv
      obtain ⟨u, hu, hc⟩ := hall i v hv
      have hi : i < 2 := by have := (Array.getElem?_eq_some_iff.1 hv).1; simpa using this
      have hu3 : u = 2 := by
        match i, hi, hu with
        | 0, _, hu => simpa using hu.symm
        | 1, _, hu => simpa using hu.symm
      subst hu3
      exact cell_int Try.underlying2 hc
    obtain ⟨d, rfl, h0⟩ := g 0 v0 rfl
    obtain ⟨c0, rfl, h1⟩ := g 1 v1 rfl
    exact ⟨d, c0, rfl, has_inR h0, has_inR h1⟩
section
variable {H : Type} {enc : TypeId × Value → H} {w : World} {base : Nat} {sp : Nat → Bool} {held : Bool}
set_option maxRecDepth 100000 in
theorem open_ins_cells (n : Nat) (cs : List Value) (x : DataW H × List MemPlace) (h : DataW.trod enc Try.prog w base sp held n 119 cs = some x) : ∃ c : NV, cs = c.enc ∧ inR c.n := by
  obtain ⟨xs, m, _, _, hl, hxl, hf⟩ := DataW.trod_struct Try.underlying119 h
  rw [ins_size] at hl
  match cs, hl with
  | [v0, v1], _ =>
    match xs, hxl with
    | [y0, y1], _ =>
      have g0 := hf 0 ⟨ "Op", 3, 0, false, "", "", 0⟩ rfl
      have g1 := hf 1 ⟨ "N", 2, 1, false, "", "", 8⟩ rfl
      dsimp only at g0 g1
      rw [int_size2] at g0
      rw [i64_size2] at g1
      simp only [List.drop_zero, List.take_succ_cons, List.take_zero, List.drop_succ_cons, List.getElem?_cons_zero, List.getElem?_cons_succ] at g0 g1
      obtain ⟨t, e0, _, _⟩ := DataW.trod_int Try.underlying3 g0
      obtain ⟨k, e1, _, hwf⟩ := DataW.trod_int Try.underlying2 g1
      refine ⟨⟨t, k⟩, ?_, ?_⟩
      · have r : [v0, v1] = [v0] ++ [v1] := rfl
        rw [r, e0, e1]
        rfl
      · have hh := Bool.and_eq_true_iff.1 hwf
        exact ⟨of_decide_eq_true hh.1, of_decide_eq_true hh.2⟩
set_option maxRecDepth 100000 in
theorem open_inss {r : Reach} {b0 : Nat} {v : Value} {d : DataW H} {ps : List MemPlace} (hval : Value.okWide Try.prog w r b0 22 v) (hd : DataW.Trod enc Try.prog w base sp held 22 v d ps) : ∃ xs : List NV, RC.Is w v xs ∧ capOk v ∧ ∀ x ∈ xs, inR x.n :=
  open_rows RC _ ins_size open_ins_cells hval hd
end
end Go.Proofs.Ytgmpgemgoplafaa
