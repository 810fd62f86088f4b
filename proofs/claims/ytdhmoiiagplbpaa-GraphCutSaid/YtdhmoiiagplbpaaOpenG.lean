/- a graph as an argument -/
import Derived.Test.YtdhmoiiagplbpaaOpenAny
import Derived.Test.YtdhmoiiagplbpaaOpenNum
import Derived.Test.YtdhmoiiagplbpaaOpenBytes
import Derived.Test.YtdhmoiiagplbpaaVz
namespace Go.Proofs.Ytdhmoiiagplbpaa
open Go.ChangeShapes Go.WideShapes Go.ChangeAt Go.RowKit Go.Deep
set_option linter.unusedVariables false
set_option linter.unusedSimpArgs false

theorem ins_sizeG : Try.prog.cellsOf 56 = 2 := by kernel_rfl
theorem node_size : Try.prog.cellsOf 46 = 4 := by kernel_rfl
theorem edge_size : Try.prog.cellsOf 58 = 4 := by kernel_rfl
theorem graph_size : Try.prog.cellsOf 26 = 4 := by kernel_rfl
theorem i64_sizeG : Try.prog.cellsOf 2 = 1 := by kernel_rfl
theorem int_sizeG : Try.prog.cellsOf 3 = 1 := by kernel_rfl
theorem bool_sizeG : Try.prog.cellsOf 4 = 1 := by kernel_rfl
theorem sl_sizeI : Try.prog.cellsOf 44 = 1 := by kernel_rfl
theorem sl_sizeN : Try.prog.cellsOf 22 = 1 := by kernel_rfl
theorem sl_sizeW : Try.prog.cellsOf 23 = 1 := by kernel_rfl
theorem sl_sizeE : Try.prog.cellsOf 24 = 1 := by kernel_rfl
theorem has_inRG {n : Int} (h : IntKind.i64.has n) : inR n := ⟨h.1, h.2⟩
section
variable {H : Type} {enc : TypeId × Value → H} {w : World} {base : Nat} {sp : Nat → Bool} {held : Bool}
set_option maxRecDepth 100000 in
/-- a slice within an argument -/
theorem open_rowsN {α : Type} [Inhabited α] (R : RowKind α) (P : α → Prop) (hk : Try.prog.cellsOf R.tE = R.k)
    (hcell : ∀ (n : Nat) (cs : List Value) (x : DataW H × List MemPlace), DataW.trod enc Try.prog w base sp held n R.tE cs = some x → ∃ a : α, cs = R.enc a ∧ P a)
    {fuel : Nat} {cs : List Value} {x : DataW H × List MemPlace} (h : DataW.trod enc Try.prog w base sp held fuel R.tS cs = some x) : ∃ (p : Option Addr) (n c : Nat) (xs : List α), cs = [.slice p n c] ∧ R.Is w (.slice p n c) xs ∧ n ≤ c ∧ ∀ x ∈ xs, P x := by
  rcases open_slice R.under h with ⟨e, _⟩ | ⟨a, len, cap, m, n, D, Pl, e, hb, hl, hm, hmm, _, hx⟩
  · exact ⟨none, 0, 0, [], e, .inl ⟨rfl, none, 0, rfl, fun _ => rfl⟩, Nat.le_refl _, fun x hx => by cases hx⟩
  · have hlm : len ≤ m := by rw [hmm]; split <;> omega
    rw [hk] at hx
    have each : ∀ i, i < m → ∃ t : α, P t ∧ ∀ k u, (R.enc t)[k]? = some u → w.cell? ((a.add (i * R.k)).add k) = some u := by
      intro i hi
      obtain ⟨cs', h1, h2⟩ := hx i hi
      obtain ⟨_, hlen, hcl⟩ := World.cells?_some h1
      obtain ⟨t, rfl, hp⟩ := hcell _ _ _ h2
      refine ⟨t, hp, fun k u hu => ?_⟩
      have hk5 : k < R.k := by have := (List.getElem?_eq_some_iff.1 hu).1; rw [R.len] at this; exact this
      rw [hcl k hk5]
      exact hu
    obtain ⟨T, hT⟩ := choose_lt each
    by_cases h0 : len = 0
    · subst h0
      exact ⟨some a, 0, cap, [], e, .inl ⟨rfl, some a, cap, rfl, fun h => by cases h⟩, by omega, fun x hx => by cases hx⟩
    · have hk0 := R.k0
      obtain ⟨u0, hu0⟩ : ∃ u, (R.enc (T 0))[0]? = some u := ⟨_, List.getElem?_eq_getElem (by rw [R.len]; exact hk0)⟩
      have c00 := (hT 0 (by omega)).2 0 _ hu0
      have hspot : a.spot = none := by
        rw [add_add] at c00
        unfold World.cell? at c00
        split at c00
        · split at c00
          · cases c00
          · rename_i hn
            simp [Addr.add] at hn
            exact hn
        · cases c00
      obtain ⟨b, off, spot⟩ := a
      simp only at hspot
      subst hspot
      have hbl : b < w.heap.size := World.block_lt_of_cell? _ _ (by rw [add_add, Nat.add_zero, Addr.add_lit] at c00; exact c00)
      refine ⟨some ⟨b, off, none⟩, len, cap, (List.range len).map T, e, .inr ⟨by simp [h0], b, off, cap, by simp, hbl, ?_⟩, by omega, fun x hx => ?_⟩
      · intro j hj i u hu
        have hj' : j < len := by simpa using hj
        have hg : ((List.range len).map T)[j]! = T j := by simp [hj']
        rw [hg] at hu
        have := (hT j (by omega)).2 i u hu
        rw [add_add, Addr.add_lit, ← Nat.add_assoc] at this
        exact this
      · obtain ⟨j, hj, rfl⟩ := List.mem_map.1 hx
        exact (hT j (by have := List.mem_range.1 hj; omega)).1
set_option maxRecDepth 100000 in
theorem open_ins_cellsG (n : Nat) (cs : List Value) (x : DataW H × List MemPlace) (h : DataW.trod enc Try.prog w base sp held n 56 cs = some x) : ∃ c : NV, cs = RC.enc c ∧ inR c.n := by
  obtain ⟨xs, m, _, _, hl, hxl, hf⟩ := DataW.trod_struct Try.underlying56 h
  rw [ins_sizeG] at hl
  match cs, hl with
  | [v0, v1], _ =>
    match xs, hxl with
    | [y0, y1], _ =>
      have g0 := hf 0 ⟨ "Op", 3, 0, false, "", "", 0⟩ rfl
      have g1 := hf 1 ⟨ "N", 2, 1, false, "", "", 8⟩ rfl
      dsimp only at g0 g1
      rw [int_sizeG] at g0
      rw [i64_sizeG] at g1
      simp only [List.drop_zero, List.take_succ_cons, List.take_zero, List.drop_succ_cons, List.getElem?_cons_zero, List.getElem?_cons_succ] at g0 g1
      obtain ⟨t, e0, _, _⟩ := DataW.trod_int Try.underlying3 g0
      obtain ⟨k, e1, _, hwf⟩ := DataW.trod_int Try.underlying2 g1
      refine ⟨⟨t, k⟩, ?_, ?_⟩
      · have r : [v0, v1] = [v0] ++ [v1] := rfl
        rw [r, e0, e1]
        rfl
      · have hh := Bool.and_eq_true_iff.1 hwf
        exact ⟨of_decide_eq_true hh.1, of_decide_eq_true hh.2⟩
theorem open_int_cells (n : Nat) (cs : List Value) (x : DataW H × List MemPlace) (h : DataW.trod enc Try.prog w base sp held n 3 cs = some x) : ∃ c : Int, cs = RN.enc c ∧ True := by
  obtain ⟨k, e1, _, hwf⟩ := DataW.trod_int Try.underlying3 h
  exact ⟨k, e1, trivial⟩
set_option maxRecDepth 100000 in
theorem open_edge_cells (n : Nat) (cs : List Value) (x : DataW H × List MemPlace) (h : DataW.trod enc Try.prog w base sp held n 58 cs = some x) : ∃ c : GE, cs = RE.enc c ∧ True := by
  obtain ⟨xs, m, _, _, hl, hxl, hf⟩ := DataW.trod_struct Try.underlying58 h
  rw [edge_size] at hl
  match cs, hl with
  | [v0, v1, v2, v3], _ =>
    match xs, hxl with
    | [y0, y1, y2, y3], _ =>
      have g0 := hf 0 ⟨ "From", 3, 0, false, "", "", 0⟩ rfl
      have g1 := hf 1 ⟨ "To", 3, 1, false, "", "", 8⟩ rfl
      have g2 := hf 2 ⟨ "Port", 3, 2, false, "", "", 16⟩ rfl
      have g3 := hf 3 ⟨ "Exchange", 4, 3, false, "", "", 24⟩ rfl
      dsimp only at g0 g1 g2 g3
      rw [int_sizeG] at g0 g1 g2
      rw [bool_sizeG] at g3
      simp only [List.drop_zero, List.take_succ_cons, List.take_zero, List.drop_succ_cons, List.getElem?_cons_zero, List.getElem?_cons_succ] at g0 g1 g2 g3
      obtain ⟨t0, e0, _, _⟩ := DataW.trod_int Try.underlying3 g0
      obtain ⟨t1, e1, _, _⟩ := DataW.trod_int Try.underlying3 g1
      obtain ⟨t2, e2, _, _⟩ := DataW.trod_int Try.underlying3 g2
      obtain ⟨t3, e3, _⟩ := DataW.trod_bool Try.underlying4 g3
      refine ⟨⟨t0, t1, t2, t3⟩, ?_, trivial⟩
      have r : [v0, v1, v2, v3] = [v0] ++ ([v1] ++ ([v2] ++ [v3])) := rfl
      rw [r, e0, e1, e2, e3]
      rfl
set_option maxRecDepth 100000 in
theorem open_node_cells (n : Nat) (cs : List Value) (x : DataW H × List MemPlace) (h : DataW.trod enc Try.prog w base sp held n 46 cs = some x) : ∃ c : NW, cs = RW.enc c ∧ ∃ g : GN, isN w c g ∧ okN g := by
  obtain ⟨xs, m, _, _, hl, hxl, hf⟩ := DataW.trod_struct Try.underlying46 h
  rw [node_size] at hl
  match cs, hl with
  | [v0, v1, v2, v3], _ =>
    match xs, hxl with
    | [y0, y1, y2, y3], _ =>
      have g0 := hf 0 ⟨ "Kind", 3, 0, false, "", "", 0⟩ rfl
      have g1 := hf 1 ⟨ "Scope", 3, 1, false, "", "", 8⟩ rfl
      have g2 := hf 2 ⟨ "Arg", 2, 2, false, "", "", 16⟩ rfl
      have g3 := hf 3 ⟨ "Prog", 44, 3, false, "", "", 24⟩ rfl
      dsimp only at g0 g1 g2 g3
      rw [int_sizeG] at g0 g1
      rw [i64_sizeG] at g2
      rw [sl_sizeI] at g3
      simp only [List.drop_zero, List.take_succ_cons, List.take_zero, List.drop_succ_cons, List.getElem?_cons_zero, List.getElem?_cons_succ] at g0 g1 g2 g3
      obtain ⟨t0, e0, _, _⟩ := DataW.trod_int Try.underlying3 g0
      obtain ⟨t1, e1, _, _⟩ := DataW.trod_int Try.underlying3 g1
      obtain ⟨t2, e2, _, hwf⟩ := DataW.trod_int Try.underlying2 g2
      obtain ⟨p, k, c, L, e3, hI, _, hL⟩ := open_rowsN RC (fun c => inR c.n) ins_sizeG open_ins_cellsG g3
      have hh := Bool.and_eq_true_iff.1 hwf
      refine ⟨⟨t0, t1, t2, p, k, c⟩, ?_, ⟨t0, t1, t2, L⟩, ⟨rfl, rfl, rfl, hI⟩, ⟨of_decide_eq_true hh.1, of_decide_eq_true hh.2⟩, hL⟩
      have r : [v0, v1, v2, v3] = [v0] ++ ([v1] ++ ([v2] ++ [v3])) := rfl
      rw [r, e0, e1, e2, e3]
      rfl
theorem nodes_of : ∀ (xs : List NW), (∀ x ∈ xs, ∃ g : GN, isN w x g ∧ okN g) → ∃ ns : List GN, areN w xs ns ∧ ∀ g ∈ ns, okN g
  | [], _ => ⟨[], ⟨rfl, fun i hi => absurd hi (by simp)⟩, fun g hg => by cases hg⟩
  | x :: xs, h => by
    obtain ⟨g, h1, h2⟩ := h x (List.mem_cons_self ..)
    obtain ⟨ns, ⟨h3, h4⟩, h5⟩ := nodes_of xs fun y hy => h y (List.mem_cons_of_mem _ hy)
    refine ⟨g :: ns, ⟨by simp [h3], fun i hi => ?_⟩, fun y hy => ?_⟩
    · cases i with
      | zero => exact h1
      | succ i =>
        have hi : i < ns.length := by simpa using hi
        have := h4 i hi
        simpa using this
    · rcases List.mem_cons.1 hy with rfl | hy
      · exact h2
      · exact h5 y hy
set_option maxRecDepth 100000 in
theorem open_graph {r : Reach} {b0 : Nat} {v : Value} {d : DataW H} {ps : List MemPlace} (hval : Value.okWide Try.prog w r b0 26 v) (hd : DataW.Trod enc Try.prog w base sp held 26 v d ps) : ∃ g : GV, IsG w v g ∧ roomG v ∧ okG g := by
  obtain ⟨fuel, h⟩ := hd
  obtain ⟨cs, rfl, hsz⟩ := okWide_struct Try.underlying26 hval
  obtain ⟨xs, m, _, _, hl, hxl, hf⟩ := DataW.trod_struct Try.underlying26 h
  rw [graph_size] at hsz
  obtain ⟨l⟩ := cs
  match l, hsz with
  | [v0, v1, v2, v3], _ =>
    match xs, hxl with
    | [y0, y1, y2, y3], _ =>
      have g0 := hf 0 ⟨ "Parent", 22, 0, false, "", "", 0⟩ rfl
      have g1 := hf 1 ⟨ "Bound", 22, 1, false, "", "", 24⟩ rfl
      have g2 := hf 2 ⟨ "Nodes", 23, 2, false, "", "", 48⟩ rfl
      have g3 := hf 3 ⟨ "Edges", 24, 3, false, "", "", 72⟩ rfl
      dsimp only at g0 g1 g2 g3
      rw [sl_sizeN] at g0 g1
      rw [sl_sizeW] at g2
      rw [sl_sizeE] at g3
      simp only [Value.cells, List.drop_zero, List.take_succ_cons, List.take_zero, List.drop_succ_cons, List.getElem?_cons_zero, List.getElem?_cons_succ] at g0 g1 g2 g3
      obtain ⟨p0, n0, c0, L0, e0, i0, k0, _⟩ := open_rowsN RN (fun _ => True) int_sizeG open_int_cells g0
      obtain ⟨p1, n1, c1, L1, e1, i1, k1, _⟩ := open_rowsN RN (fun _ => True) int_sizeG open_int_cells g1
      obtain ⟨p2, n2, c2, L2, e2, i2, _, q2⟩ := open_rowsN RW (fun c => ∃ g : GN, isN w c g ∧ okN g) node_size open_node_cells g2
      obtain ⟨p3, n3, c3, L3, e3, i3, _, _⟩ := open_rowsN RE (fun _ => True) edge_size open_edge_cells g3
      obtain ⟨ns, hns, hok⟩ := nodes_of L2 q2
      obtain rfl := (List.cons.inj e0).1
      obtain rfl := (List.cons.inj e1).1
      obtain rfl := (List.cons.inj e2).1
      obtain rfl := (List.cons.inj e3).1
      refine ⟨⟨L0, L1, ns, L3⟩, ⟨_, _, _, _, rfl, i0, i1, ⟨L2, i2, hns⟩, i3⟩, ⟨_, _, _, _, rfl, ?_, ?_⟩, hok⟩
      · intro p n c e
        cases e
        exact k0
      · intro p n c e
        cases e
        exact k1
end
end Go.Proofs.Ytdhmoiiagplbpaa
