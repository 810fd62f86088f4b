/- a graph as an argument, with room for its nodes and edges; written by gen/og.py -/
import Derived.Test.YtjaahmgokiobjaaGreatG01
import Derived.Test.YtjaahmgokiobjaaGreatG15
import Derived.Deep.Slices
namespace Go.Proofs.YtjaahmgokiobjaaGreat
open Go.ChangeShapes Go.WideShapes Go.ChangeAt Go.RowKit Go.Deep
set_option linter.unusedVariables false
set_option linter.unusedSimpArgs false

theorem ins_sizeG : Tryz.prog.cellsOf 112 = 2 := by kernel_rfl
theorem node_size : Tryz.prog.cellsOf 42 = 4 := by kernel_rfl
theorem edge_size : Tryz.prog.cellsOf 44 = 4 := by kernel_rfl
theorem graph_size : Tryz.prog.cellsOf 26 = 4 := by kernel_rfl
theorem i64_sizeG : Tryz.prog.cellsOf 2 = 1 := by kernel_rfl
theorem int_sizeG : Tryz.prog.cellsOf 3 = 1 := by kernel_rfl
theorem bool_sizeG : Tryz.prog.cellsOf 4 = 1 := by kernel_rfl
theorem sl_sizeI : Tryz.prog.cellsOf 40 = 1 := by kernel_rfl
theorem sl_sizeN : Tryz.prog.cellsOf 22 = 1 := by kernel_rfl
theorem sl_sizeW : Tryz.prog.cellsOf 23 = 1 := by kernel_rfl
theorem sl_sizeE : Tryz.prog.cellsOf 24 = 1 := by kernel_rfl
theorem has_inRG {n : Int} (h : IntKind.i64.has n) : inR n := ⟨h.1, h.2⟩
section
variable {H : Type} {enc : TypeId × Value → H} {w : World} {base : Nat} {sp : Nat → Bool} {held : Bool}
set_option maxRecDepth 100000 in
/-- a slice within an argument -/
theorem open_rowsN {α : Type} [Inhabited α] (R : RowKind α) (P : α → Prop) (hk : Tryz.prog.cellsOf R.tE = R.k)
    (hcell : ∀ (n : Nat) (cs : List Value) (x : DataW H × List MemPlace), DataW.trod enc Tryz.prog w base sp held n R.tE cs = some x → ∃ a : α, cs = R.enc a ∧ P a)
    {fuel : Nat} {cs : List Value} {x : DataW H × List MemPlace} (h : DataW.trod enc Tryz.prog w base sp held fuel R.tS cs = some x) : ∃ (p : Option Addr) (n c : Nat) (xs : List α), cs = [.slice p n c] ∧ R.Is w (.slice p n c) xs ∧ n ≤ c ∧ ∀ x ∈ xs, P x := by
  rcases open_slice R.under h with ⟨e, _⟩ | ⟨a, len, cap, m, n, D, Pl, e, hb, hl, hm, hmm, _, hx⟩
  · exact ⟨none, 0, 0, [], e, .inl ⟨rfl, none, 0, rfl, fun _ => rfl⟩, Nat.le_refl _, fun x hx => by cases hx⟩
  · have hlm : len ≤ m := by rw [hmm]; split <;> omega
    rw [hk] at hx
    have each : ∀ i, i < m → ∃ t : α, P t ∧ ∀ k u, (R.enc t)[k]? = some u → w.cell? ((a.add (i * R.k)).add k) = some u := by
      intro i hi
      obtain ⟨cs', h1, h2⟩ := hx i hi
      obtain ⟨_, hlen, hcl⟩ := World.cells?_some h1
      obtain ⟨t, rfl, hp⟩ := hcell _ _ _ h2
      refine ⟨t, hp, fun k u hu => ?_⟩
      have hk5 : k < R.k := by have := (List.getElem?_eq_some_iff.1 hu).1; rw [R.len] at this; exact this
      rw [hcl k hk5]
      exact hu
    obtain ⟨T, hT⟩ := choose_lt each
    by_cases h0 : len = 0
    · subst h0
      exact ⟨some a, 0, cap, [], e, .inl ⟨rfl, some a, cap, rfl, fun h => by cases h⟩, by omega, fun x hx => by cases hx⟩
    · have hk0 := R.k0
      obtain ⟨u0, hu0⟩ : ∃ u, (R.enc (T 0))[0]? = some u := ⟨_, List.getElem?_eq_getElem (by rw [R.len]; exact hk0)⟩
      have c00 := (hT 0 (by omega)).2 0 _ hu0
      have hspot : a.spot = none := by
        rw [add_add] at c00
        unfold World.cell? at c00
        split at c00
        · split at c00
          · cases c00
          · rename_i hn
            simp [Addr.add] at hn
            exact hn
        · cases c00
      obtain ⟨b, off, spot⟩ := a
      simp only at hspot
      subst hspot
      have hbl : b < w.heap.size := World.block_lt_of_cell? _ _ (by rw [add_add, Nat.add_zero, Addr.add_lit] at c00; exact c00)
      refine ⟨some ⟨b, off, none⟩, len, cap, (List.range len).map T, e, .inr ⟨by simp [h0], b, off, cap, by simp, hbl, ?_⟩, by omega, fun x hx => ?_⟩
      · intro j hj i u hu
        have hj' : j < len := by simpa using hj
        have hg : ((List.range len).map T)[j]! = T j := by simp [hj']
        rw [hg] at hu
        have := (hT j (by omega)).2 i u hu
        rw [add_add, Addr.add_lit, ← Nat.add_assoc] at this
        exact this
      · obtain ⟨j, hj, rfl⟩ := List.mem_map.1 hx
        exact (hT j (by have := List.mem_range.1 hj; omega)).1
set_option maxRecDepth 100000 in
theorem open_ins_cellsG (n : Nat) (cs : List Value) (x : DataW H × List MemPlace) (h : DataW.trod enc Tryz.prog w base sp held n 112 cs = some x) : ∃ c : NV, cs = RC.enc c ∧ True := by
  obtain ⟨xs, m, _, _, hl, hxl, hf⟩ := DataW.trod_struct Tryz.underlying112 h
  rw [ins_sizeG] at hl
  match cs, hl with
  | [v0, v1], _ =>
    match xs, hxl with
    | [y0, y1], _ =>
      have g0 := hf 0 ⟨ "Op", 3, 0, false, "", "", 0⟩ rfl
      have g1 := hf 1 ⟨ "N", 2, 1, false, "", "", 8⟩ rfl
      dsimp only at g0 g1
      rw [int_sizeG] at g0
      rw [i64_sizeG] at g1
      simp only [List.drop_zero, List.take_succ_cons, List.take_zero, List.drop_succ_cons, List.getElem?_cons_zero, List.getElem?_cons_succ] at g0 g1
      obtain ⟨t, e0, _, _⟩ := DataW.trod_int Tryz.underlying3 g0
      obtain ⟨k, e1, _, hwf⟩ := DataW.trod_int Tryz.underlying2 g1
      refine ⟨⟨t, k⟩, ?_, ?_⟩
      · have r : [v0, v1] = [v0] ++ [v1] := rfl
        rw [r, e0, e1]
        rfl
      · trivial
theorem open_int_cells (n : Nat) (cs : List Value) (x : DataW H × List MemPlace) (h : DataW.trod enc Tryz.prog w base sp held n 3 cs = some x) : ∃ c : Int, cs = RN.enc c ∧ True := by
  obtain ⟨k, e1, _, hwf⟩ := DataW.trod_int Tryz.underlying3 h
  exact ⟨k, e1, trivial⟩
set_option maxRecDepth 100000 in
theorem open_edge_cells (n : Nat) (cs : List Value) (x : DataW H × List MemPlace) (h : DataW.trod enc Tryz.prog w base sp held n 44 cs = some x) : ∃ c : GE, cs = RE.enc c ∧ True := by
  obtain ⟨xs, m, _, _, hl, hxl, hf⟩ := DataW.trod_struct Tryz.underlying44 h
  rw [edge_size] at hl
  match cs, hl with
  | [v0, v1, v2, v3], _ =>
    match xs, hxl with
    | [y0, y1, y2, y3], _ =>
      have g0 := hf 0 ⟨ "From", 3, 0, false, "", "", 0⟩ rfl
      have g1 := hf 1 ⟨ "To", 3, 1, false, "", "", 8⟩ rfl
      have g2 := hf 2 ⟨ "Port", 3, 2, false, "", "", 16⟩ rfl
      have g3 := hf 3 ⟨ "Exchange", 4, 3, false, "", "", 24⟩ rfl
      dsimp only at g0 g1 g2 g3
      rw [int_sizeG] at g0 g1 g2
      rw [bool_sizeG] at g3
      simp only [List.drop_zero, List.take_succ_cons, List.take_zero, List.drop_succ_cons, List.getElem?_cons_zero, List.getElem?_cons_succ] at g0 g1 g2 g3
      obtain ⟨t0, e0, _, _⟩ := DataW.trod_int Tryz.underlying3 g0
      obtain ⟨t1, e1, _, _⟩ := DataW.trod_int Tryz.underlying3 g1
      obtain ⟨t2, e2, _, _⟩ := DataW.trod_int Tryz.underlying3 g2
      obtain ⟨t3, e3, _⟩ := DataW.trod_bool Tryz.underlying4 g3
      refine ⟨⟨t0, t1, t2, t3⟩, ?_, trivial⟩
      have r : [v0, v1, v2, v3] = [v0] ++ ([v1] ++ ([v2] ++ [v3])) := rfl
      rw [r, e0, e1, e2, e3]
      rfl
set_option maxRecDepth 100000 in
theorem open_node_cells (n : Nat) (cs : List Value) (x : DataW H × List MemPlace) (h : DataW.trod enc Tryz.prog w base sp held n 42 cs = some x) : ∃ c : NW, cs = RW.enc c ∧ ∃ g : GN, isN w c g := by
  obtain ⟨xs, m, _, _, hl, hxl, hf⟩ := DataW.trod_struct Tryz.underlying42 h
  rw [node_size] at hl
  match cs, hl with
  | [v0, v1, v2, v3], _ =>
    match xs, hxl with
    | [y0, y1, y2, y3], _ =>
      have g0 := hf 0 ⟨ "Kind", 3, 0, false, "", "", 0⟩ rfl
      have g1 := hf 1 ⟨ "Scope", 3, 1, false, "", "", 8⟩ rfl
      have g2 := hf 2 ⟨ "Arg", 2, 2, false, "", "", 16⟩ rfl
      have g3 := hf 3 ⟨ "Prog", 40, 3, false, "", "", 24⟩ rfl
      dsimp only at g0 g1 g2 g3
      rw [int_sizeG] at g0 g1
      rw [i64_sizeG] at g2
      rw [sl_sizeI] at g3
      simp only [List.drop_zero, List.take_succ_cons, List.take_zero, List.drop_succ_cons, List.getElem?_cons_zero, List.getElem?_cons_succ] at g0 g1 g2 g3
      obtain ⟨t0, e0, _, _⟩ := DataW.trod_int Tryz.underlying3 g0
      obtain ⟨t1, e1, _, _⟩ := DataW.trod_int Tryz.underlying3 g1
      obtain ⟨t2, e2, _, hwf⟩ := DataW.trod_int Tryz.underlying2 g2
      obtain ⟨p, k, c, L, e3, hI, _, hL⟩ := open_rowsN RC (fun _ => True) ins_sizeG open_ins_cellsG g3
      refine ⟨⟨t0, t1, t2, p, k, c⟩, ?_, ⟨t0, t1, t2, L⟩, ⟨rfl, rfl, rfl, hI⟩⟩
      have r : [v0, v1, v2, v3] = [v0] ++ ([v1] ++ ([v2] ++ [v3])) := rfl
      rw [r, e0, e1, e2, e3]
      rfl
theorem nodes_of : ∀ (xs : List NW), (∀ x ∈ xs, ∃ g : GN, isN w x g) → ∃ ns : List GN, areN w xs ns
  | [], _ => ⟨[], rfl, fun i hi => absurd hi (by simp)⟩
  | x :: xs, h => by
    obtain ⟨g, h1⟩ := h x (List.mem_cons_self ..)
    obtain ⟨ns, h3, h4⟩ := nodes_of xs fun y hy => h y (List.mem_cons_of_mem _ hy)
    refine ⟨g :: ns, by simp [h3], fun i hi => ?_⟩
    cases i with
    | zero => exact h1
    | succ i =>
      have hi : i < ns.length := by simpa using hi
      have := h4 i hi
      simpa using this
set_option maxRecDepth 100000 in
theorem open_graph {r : Reach} {b0 : Nat} {v : Value} {d : DataW H} {ps : List MemPlace} (hval : Value.okWide Tryz.prog w r b0 26 v) (hd : DataW.Trod enc Tryz.prog w base sp held 26 v d ps) : ∃ g : GV, IsG w v g ∧ capsG v := by
  obtain ⟨fuel, h⟩ := hd
  obtain ⟨cs, rfl, hsz⟩ := okWide_struct Tryz.underlying26 hval
  obtain ⟨xs, m, _, _, hl, hxl, hf⟩ := DataW.trod_struct Tryz.underlying26 h
  rw [graph_size] at hsz
  obtain ⟨l⟩ := cs
  match l, hsz with
  | [v0, v1, v2, v3], _ =>
    match xs, hxl with
    | [y0, y1, y2, y3], _ =>
      have g0 := hf 0 ⟨ "Parent", 22, 0, false, "", "", 0⟩ rfl
      have g1 := hf 1 ⟨ "Bound", 22, 1, false, "", "", 24⟩ rfl
      have g2 := hf 2 ⟨ "Nodes", 23, 2, false, "", "", 48⟩ rfl
      have g3 := hf 3 ⟨ "Edges", 24, 3, false, "", "", 72⟩ rfl
      dsimp only at g0 g1 g2 g3
      rw [sl_sizeN] at g0 g1
      rw [sl_sizeW] at g2
      rw [sl_sizeE] at g3
      simp only [Value.cells, List.drop_zero, List.take_succ_cons, List.take_zero, List.drop_succ_cons, List.getElem?_cons_zero, List.getElem?_cons_succ] at g0 g1 g2 g3
      obtain ⟨p0, n0, c0, L0, e0, i0, k0, _⟩ := open_rowsN RN (fun _ => True) int_sizeG open_int_cells g0
      obtain ⟨p1, n1, c1, L1, e1, i1, k1, _⟩ := open_rowsN RN (fun _ => True) int_sizeG open_int_cells g1
      obtain ⟨p2, n2, c2, L2, e2, i2, k2, q2⟩ := open_rowsN RW (fun c => ∃ g : GN, isN w c g) node_size open_node_cells g2
      obtain ⟨p3, n3, c3, L3, e3, i3, k3, _⟩ := open_rowsN RE (fun _ => True) edge_size open_edge_cells g3
      obtain ⟨ns, hns⟩ := nodes_of L2 q2
      obtain rfl := (List.cons.inj e0).1
      obtain rfl := (List.cons.inj e1).1
      obtain rfl := (List.cons.inj e2).1
      obtain rfl := (List.cons.inj e3).1
      exact ⟨⟨L0, L1, ns, L3⟩, ⟨_, _, _, _, rfl, i0, i1, ⟨L2, i2, hns⟩, i3⟩, ⟨_, _, _, _, _, _, _, _, _, _, _, _, rfl, k2, k3⟩⟩
end
end Go.Proofs.YtjaahmgokiobjaaGreat
namespace Go.Proofs.YtjaahmgokiobjaaGreat
open Go.ChangeShapes Go.WideShapes Go.ChangeAt Go.RowKit
set_option linter.unusedVariables false

theorem time_cells : Tryz.prog.cellTypes Tryz.prog.depth 29 = some [3, 3, 3, 3, 3] := by kernel_rfl
theorem time_size : Tryz.prog.cellsOf 29 = 5 := by kernel_rfl
set_option maxRecDepth 100000 in
theorem open_time {W : World} {r : Reach} {b : Nat} {v : Value} (h : Value.okWide Tryz.prog W r b 29 v) :
    ∃ d c0 c1 c2 c3 : Int, v = .agg #[.int .i64 d, .int .i64 c0, .int .i64 c1, .int .i64 c2, .int .i64 c3] ∧ IntKind.i64.has d ∧ IntKind.i64.has c0 ∧ IntKind.i64.has c1 ∧ IntKind.i64.has c2 ∧ IntKind.i64.has c3 := by
  unfold Value.okWide at h
  rw [Tryz.underlying29] at h
  obtain ⟨cs, rfl, hsz, ts, hts, _, hall⟩ := h
  rw [time_cells] at hts
  obtain rfl := Option.some.inj hts
  rw [time_size] at hsz
  obtain ⟨l⟩ := cs
  match l, hsz with
  | [v0, v1, v2, v3, v4], _ =>
    have g : ∀ (i : Nat) (v : Value), (#[v0, v1, v2, v3, v4] : Array Value)[i]? = some v → ∃ n : Int, v = Value.int .i64 n ∧ IntKind.i64.has n := by
      intro i v hv
      obtain ⟨u, hu, hc⟩ := hall i v hv
      have hi : i < 5 := by have := (Array.getElem?_eq_some_iff.1 hv).1; simpa using this
      have hu3 : u = 3 := by
        match i, hi, hu with
        | 0, _, hu => simpa using hu.symm
        | 1, _, hu => simpa using hu.symm
        | 2, _, hu => simpa using hu.symm
        | 3, _, hu => simpa using hu.symm
        | 4, _, hu => simpa using hu.symm
      subst hu3
      exact cell_int Tryz.underlying3 hc
    obtain ⟨d, rfl, h0⟩ := g 0 v0 rfl
    obtain ⟨c0, rfl, h1⟩ := g 1 v1 rfl
    obtain ⟨c1, rfl, h2⟩ := g 2 v2 rfl
    obtain ⟨c2, rfl, h3⟩ := g 3 v3 rfl
    obtain ⟨c3, rfl, h4⟩ := g 4 v4 rfl
    exact ⟨d, c0, c1, c2, c3, rfl, h0, h1, h2, h3, h4⟩
end Go.Proofs.YtjaahmgokiobjaaGreat
namespace Go.Proofs.YtjaahmgokiobjaaGreat
open Go.RowKit
set_option linter.unusedVariables false
set_option linter.unusedSimpArgs false
attribute [local go_sem] ix4_0 ix4_1 ix4_2 ix4_3
attribute [local go_sem ↓] run_imax run_imin

def stepV (ok : Bool) (d c0 c1 c2 c3 : Int) : Value :=
  .tuple #[.agg #[.int .i64 (gate ok d), .int .i64 (gate ok c0), .int .i64 (gate ok c1), .int .i64 (gate ok c2), .int .i64 (gate ok c3)], .bool ok]
/-- of a right timestamp: its coordinates' numbers -/
theorem right_of {d c0 c1 c2 c3 : Int} (h : rightB d c0 c1 c2 c3 = true) : rightP d c0 c1 c2 c3 := of_decide_eq_true h
def enterB (d c0 c1 c2 c3 : Int) : Bool := rightB d c0 c1 c2 c3 && !(d == 4)
def leaveB (d c0 c1 c2 c3 : Int) : Bool := rightB d c0 c1 c2 c3 && !(d == 1)
/-- the number of the last coordinate -/
def lastOf (d c0 c1 c2 c3 : Int) : Int := if d = 1 then c0 else if d = 2 then c1 else if d = 3 then c2 else c3
def nextB (d c0 c1 c2 c3 : Int) : Bool := rightB d c0 c1 c2 c3 && !(lastOf d c0 c1 c2 c3 == greatestS d (d - 1))
def leftV (d c0 c1 c2 c3 : Int) : Value := stepV (leaveB d c0 c1 c2 c3) (d - 1) (if d = 1 then 0 else c0) (if d = 2 then 0 else c1) (if d = 3 then 0 else c2) (if d = 4 then 0 else c3)
def nextV (d c0 c1 c2 c3 : Int) : Value := stepV (nextB d c0 c1 c2 c3) d (if d = 1 then c0 + 1 else c0) (if d = 2 then c1 + 1 else c1) (if d = 3 then c2 + 1 else c2) (if d = 4 then c3 + 1 else c3)
end Go.Proofs.YtjaahmgokiobjaaGreat
namespace Go.Proofs.YtjaahmgokiobjaaGreat
open Go.RowKit
set_option linter.unusedVariables false
set_option linter.unusedSimpArgs false
attribute [local go_sem ↓] run_imax run_imin

def lexB (d c0 c1 c2 c3 e0 x0 x1 x2 x3 : Int) : Bool :=
  if 0 < imin d e0 ∧ c0 ≠ x0 then decide (c0 < x0) else if 1 < imin d e0 ∧ c1 ≠ x1 then decide (c1 < x1) else if 2 < imin d e0 ∧ c2 ≠ x2 then decide (c2 < x2) else if 3 < imin d e0 ∧ c3 ≠ x3 then decide (c3 < x3) else decide (d < e0)
def lessB (d c0 c1 c2 c3 e0 x0 x1 x2 x3 : Int) : Bool := rightB d c0 c1 c2 c3 && rightB e0 x0 x1 x2 x3 && lexB d c0 c1 c2 c3 e0 x0 x1 x2 x3
theorem imin_le (d e : Int) (h : d ≤ 4) : imin d e ≤ 4 := by unfold imin; split <;> omega

set_option maxHeartbeats 4000000 in
theorem less_any (d c0 c1 c2 c3 e0 x0 x1 x2 x3 : Int) (w : World) :
    Calls Tryz.prog 102 #[.agg #[.int .i64 d, .int .i64 c0, .int .i64 c1, .int .i64 c2, .int .i64 c3], .agg #[.int .i64 e0, .int .i64 x0, .int .i64 x1, .int .i64 x2, .int .i64 x3]] w (Ret (.bool (lessB d c0 c1 c2 c3 e0 x0 x1 x2 x3)) w) := by
  cases hp : rightB d c0 c1 c2 c3
  · have he : lessB d c0 c1 c2 c3 e0 x0 x1 x2 x3 = false := by simp [lessB, hp]
    rw [he]; clear he
    go_enter Tryz.func102, Tryz.ntmps102
    go_wp2_with fail
    refine (right_any _ _ _ _ _ _).mono ?_
    rintro e w1 ⟨rfl, hb1⟩
    have hz := hb1.size
    have hB := bcall (B := w.heap.size) (a := w) (by go_grown) hb1 (by go_size)
    have hP := ((Own5.new w (.int .i64 d) (.int .i64 c0) (.int .i64 c1) (.int .i64 c2) (.int .i64 c3) 29).alloc _ (by go_size)).below hb1 (by go_size)
    have hA := (Own5.new _ (.int .i64 e0) (.int .i64 x0) (.int .i64 x1) (.int .i64 x2) (.int .i64 x3) 29).below hb1 (by go_size)
    obtain ⟨p0, p1, p2, p3, p4, q0, q1, q2, q3, q4⟩ := hP
    obtain ⟨a0, a1, a2, a3, a4, b0, b1, b2, b3, b4⟩ := hA
    simp only [World.size_alloc] at *
    clear hb1
    go_wp2
    go_returns
    exact ⟨rfl, by repeat' (first | (with_reducible refine below_drewN ?_ _) | go_grown)⟩
  · cases hp2 : rightB e0 x0 x1 x2 x3
    · have he : lessB d c0 c1 c2 c3 e0 x0 x1 x2 x3 = false := by simp [lessB, hp2]
      rw [he]; clear he
      go_enter Tryz.func102, Tryz.ntmps102
      go_wp2_with fail
      refine (right_any _ _ _ _ _ _).mono ?_
      rintro e w1 ⟨rfl, hb1⟩
      have hz := hb1.size
      have hB := bcall (B := w.heap.size) (a := w) (by go_grown) hb1 (by go_size)
      have hP := ((Own5.new w (.int .i64 d) (.int .i64 c0) (.int .i64 c1) (.int .i64 c2) (.int .i64 c3) 29).alloc _ (by go_size)).below hb1 (by go_size)
      have hA := (Own5.new _ (.int .i64 e0) (.int .i64 x0) (.int .i64 x1) (.int .i64 x2) (.int .i64 x3) 29).below hb1 (by go_size)
      obtain ⟨p0, p1, p2, p3, p4, q0, q1, q2, q3, q4⟩ := hP
      obtain ⟨a0, a1, a2, a3, a4, b0, b1, b2, b3, b4⟩ := hA
      simp only [World.size_alloc] at *
      clear hb1
      go_wp2_with fail
      refine (right_any _ _ _ _ _ _).mono ?_
      rintro e w2 ⟨rfl, hb2⟩
      have hB2 := bcall hB hb2 hB.size
      have hP2 := (Own5.mk p0 p1 p2 p3 p4 q0 q1 q2 q3 q4).below hb2 (by omega)
      have hA2 := (Own5.mk a0 a1 a2 a3 a4 b0 b1 b2 b3 b4).below hb2 (by omega)
      clear p0 p1 p2 p3 p4 q0 q1 q2 q3 q4 a0 a1 a2 a3 a4 b0 b1 b2 b3 b4 hb2 hB hz
      obtain ⟨p0, p1, p2, p3, p4, q0, q1, q2, q3, q4⟩ := hP2
      obtain ⟨a0, a1, a2, a3, a4, b0, b1, b2, b3, b4⟩ := hA2
      go_wp2
      go_returns
      exact ⟨rfl, by repeat' (first | (with_reducible refine below_drewN ?_ _) | go_grown)⟩
    · have he : lessB d c0 c1 c2 c3 e0 x0 x1 x2 x3 = lexB d c0 c1 c2 c3 e0 x0 x1 x2 x3 := by simp [lessB, hp2, hp]
      rw [he]; clear he
      have hm : imin d e0 ≤ 4 := imin_le d e0 (right_of hp).2.1
      go_enter Tryz.func102, Tryz.ntmps102
      go_wp2_with fail
      refine (right_any _ _ _ _ _ _).mono ?_
      rintro e w1 ⟨rfl, hb1⟩
      have hz := hb1.size
      have hB := bcall (B := w.heap.size) (a := w) (by go_grown) hb1 (by go_size)
      have hP := ((Own5.new w (.int .i64 d) (.int .i64 c0) (.int .i64 c1) (.int .i64 c2) (.int .i64 c3) 29).alloc _ (by go_size)).below hb1 (by go_size)
      have hA := (Own5.new _ (.int .i64 e0) (.int .i64 x0) (.int .i64 x1) (.int .i64 x2) (.int .i64 x3) 29).below hb1 (by go_size)
      obtain ⟨p0, p1, p2, p3, p4, q0, q1, q2, q3, q4⟩ := hP
      obtain ⟨a0, a1, a2, a3, a4, b0, b1, b2, b3, b4⟩ := hA
      simp only [World.size_alloc] at *
      clear hb1
      go_wp2_with fail
      refine (right_any _ _ _ _ _ _).mono ?_
      rintro e w2 ⟨rfl, hb2⟩
      have hB2 := bcall hB hb2 hB.size
      have hP2 := (Own5.mk p0 p1 p2 p3 p4 q0 q1 q2 q3 q4).below hb2 (by omega)
      have hA2 := (Own5.mk a0 a1 a2 a3 a4 b0 b1 b2 b3 b4).below hb2 (by omega)
      clear p0 p1 p2 p3 p4 q0 q1 q2 q3 q4 a0 a1 a2 a3 a4 b0 b1 b2 b3 b4 hb2 hB hz
      obtain ⟨p0, p1, p2, p3, p4, q0, q1, q2, q3, q4⟩ := hP2
      obtain ⟨a0, a1, a2, a3, a4, b0, b1, b2, b3, b4⟩ := hA2
      go_wp2
      refine wp_loop_rounds 5 ?_
      by_cases hk0 : 0 < imin d e0
      · by_cases he0 : c0 = x0
        · have hn0 : (c0 != x0) = false := by simp [he0]
          have He0 := Lib.hid he0; clear he0
          rw [rounds_succ]; go_wp2
          go_quiet (fail)
          go_wp2
          by_cases hk1 : 1 < imin d e0
          · by_cases he1 : c1 = x1
            · have hn1 : (c1 != x1) = false := by simp [he1]
              have He1 := Lib.hid he1; clear he1
              rw [rounds_succ]; go_wp2
              go_quiet (fail)
              go_wp2
              by_cases hk2 : 2 < imin d e0
              · by_cases he2 : c2 = x2
                · have hn2 : (c2 != x2) = false := by simp [he2]
                  have He2 := Lib.hid he2; clear he2
                  rw [rounds_succ]; go_wp2
                  go_quiet (fail)
                  go_wp2
                  by_cases hk3 : 3 < imin d e0
                  · by_cases he3 : c3 = x3
                    · have hn3 : (c3 != x3) = false := by simp [he3]
                      have He3 := Lib.hid he3; clear he3
                      rw [rounds_succ]; go_wp2
                      go_quiet (fail)
                      go_wp2
                      rw [rounds_succ]; go_wp2
                      go_returns
                      exact ⟨ret_bool (by unfold lexB; rw [if_neg (fun h => h.2 (by simpa using hn0)), if_neg (fun h => h.2 (by simpa using hn1)), if_neg (fun h => h.2 (by simpa using hn2)), if_neg (fun h => h.2 (by simpa using hn3))]), by repeat' (first | (with_reducible refine below_drewN ?_ _) | go_grown)⟩
                    · have hn3 : (c3 != x3) = true := by simp [he3]
                      rw [rounds_succ]; go_wp2
                      go_quiet (fail)
                      go_wp2
                      go_quiet (fail)
                      go_wp2
                      go_returns
                      exact ⟨ret_bool (by unfold lexB; rw [if_neg (fun h => h.2 (by simpa using hn0)), if_neg (fun h => h.2 (by simpa using hn1)), if_neg (fun h => h.2 (by simpa using hn2)), if_pos ⟨hk3, by simpa using hn3⟩]), by repeat' (first | (with_reducible refine below_drewN ?_ _) | go_grown)⟩
                  · rw [rounds_succ]; go_wp2
                    go_returns
                    exact ⟨ret_bool (by unfold lexB; rw [if_neg (fun h => h.2 (by simpa using hn0)), if_neg (fun h => h.2 (by simpa using hn1)), if_neg (fun h => h.2 (by simpa using hn2)), if_neg (fun h => absurd h.1 (by omega))]), by repeat' (first | (with_reducible refine below_drewN ?_ _) | go_grown)⟩
                · have hn2 : (c2 != x2) = true := by simp [he2]
                  rw [rounds_succ]; go_wp2
                  go_quiet (fail)
                  go_wp2
                  go_quiet (fail)
                  go_wp2
                  go_returns
                  exact ⟨ret_bool (by unfold lexB; rw [if_neg (fun h => h.2 (by simpa using hn0)), if_neg (fun h => h.2 (by simpa using hn1)), if_pos ⟨hk2, by simpa using hn2⟩]), by repeat' (first | (with_reducible refine below_drewN ?_ _) | go_grown)⟩
              · rw [rounds_succ]; go_wp2
                go_returns
                exact ⟨ret_bool (by unfold lexB; rw [if_neg (fun h => h.2 (by simpa using hn0)), if_neg (fun h => h.2 (by simpa using hn1)), if_neg (fun h => absurd h.1 (by omega)), if_neg (fun h => absurd h.1 (by omega))]), by repeat' (first | (with_reducible refine below_drewN ?_ _) | go_grown)⟩
            · have hn1 : (c1 != x1) = true := by simp [he1]
              rw [rounds_succ]; go_wp2
              go_quiet (fail)
              go_wp2
              go_quiet (fail)
              go_wp2
              go_returns
              exact ⟨ret_bool (by unfold lexB; rw [if_neg (fun h => h.2 (by simpa using hn0)), if_pos ⟨hk1, by simpa using hn1⟩]), by repeat' (first | (with_reducible refine below_drewN ?_ _) | go_grown)⟩
          · rw [rounds_succ]; go_wp2
            go_returns
            exact ⟨ret_bool (by unfold lexB; rw [if_neg (fun h => h.2 (by simpa using hn0)), if_neg (fun h => absurd h.1 (by omega)), if_neg (fun h => absurd h.1 (by omega)), if_neg (fun h => absurd h.1 (by omega))]), by repeat' (first | (with_reducible refine below_drewN ?_ _) | go_grown)⟩
        · have hn0 : (c0 != x0) = true := by simp [he0]
          rw [rounds_succ]; go_wp2
          go_quiet (fail)
          go_wp2
          go_quiet (fail)
          go_wp2
          go_returns
          exact ⟨ret_bool (by unfold lexB; rw [if_pos ⟨hk0, by simpa using hn0⟩]), by repeat' (first | (with_reducible refine below_drewN ?_ _) | go_grown)⟩
      · rw [rounds_succ]; go_wp2
        go_returns
        exact ⟨ret_bool (by unfold lexB; rw [if_neg (fun h => absurd h.1 (by omega)), if_neg (fun h => absurd h.1 (by omega)), if_neg (fun h => absurd h.1 (by omega)), if_neg (fun h => absurd h.1 (by omega))]), by repeat' (first | (with_reducible refine below_drewN ?_ _) | go_grown)⟩
end Go.Proofs.YtjaahmgokiobjaaGreat
