/- an argument that is a slice of anything whose cells are told once; records and items as arguments -/
import Derived.Test.YtjaahmgokiobjaaGreatG01
import Derived.Test.YtjaahmgokiobjaaGreatG06
import Derived.Test.YtjaahmgokiobjaaGreatG17
import Derived.Deep.Slices
import Derived.Test.YtjaahmgokiobjaaGreatG16
import Derived.Test.YtjaahmgokiobjaaGreatG14
import Derived.Test.YtjaahmgokiobjaaGreatG15
namespace Go.Proofs.YtjaahmgokiobjaaGreat
open Go.ChangeShapes Go.WideShapes Go.ChangeAt Go.RowKit Go.Deep
set_option linter.unusedVariables false
set_option linter.unusedSimpArgs false

section
variable {H : Type} {enc : TypeId × Value → H} {w : World} {base : Nat} {sp : Nat → Bool} {held : Bool}
set_option maxRecDepth 100000 in
theorem open_rows {α : Type} [Inhabited α] (R : RowKind α) (P : α → Prop) (hk : Tryz.prog.cellsOf R.tE = R.k)
    (hcell : ∀ (n : Nat) (cs : List Value) (x : DataW H × List MemPlace), DataW.trod enc Tryz.prog w base sp held n R.tE cs = some x → ∃ a : α, cs = R.enc a ∧ P a)
    {r : Reach} {b0 : Nat} {v : Value} {d : DataW H} {ps : List MemPlace} (hval : Value.okWide Tryz.prog w r b0 R.tS v) (hd : DataW.Trod enc Tryz.prog w base sp held R.tS v d ps) : ∃ xs : List α, R.Is w v xs ∧ capOk v ∧ ∀ x ∈ xs, P x := by
  obtain ⟨fuel, h⟩ := hd
  obtain ⟨pa, ln, cp, rfl⟩ := okWide_slice R.under hval
  rcases open_slice R.under h with ⟨e, _⟩ | ⟨a, len, cap, m, n, D, Pl, e, hb, hl, hm, hmm, _, hx⟩
  · simp [Value.cells] at e
    obtain ⟨rfl, rfl, rfl⟩ := e
    exact ⟨[], .inl ⟨rfl, none, 0, rfl, fun _ => rfl⟩, fun p n c e => by cases e; omega, fun x hx => by cases hx⟩
  · simp [Value.cells] at e
    obtain ⟨rfl, rfl, rfl⟩ := e
    have hlm : ln ≤ m := by rw [hmm]; split <;> omega
    rw [hk] at hx
    have each : ∀ i, i < m → ∃ t : α, P t ∧ ∀ k u, (R.enc t)[k]? = some u → w.cell? ((a.add (i * R.k)).add k) = some u := by
      intro i hi
      obtain ⟨cs', h1, h2⟩ := hx i hi
      obtain ⟨_, hlen, hcl⟩ := World.cells?_some h1
      obtain ⟨t, rfl, hp⟩ := hcell _ _ _ h2
      refine ⟨t, hp, fun k u hu => ?_⟩
      have hk5 : k < R.k := by have := (List.getElem?_eq_some_iff.1 hu).1; rw [R.len] at this; exact this
      rw [hcl k hk5]
      exact hu
    obtain ⟨T, hT⟩ := choose_lt each
    by_cases h0 : ln = 0
    · subst h0
      exact ⟨[], .inl ⟨rfl, some a, cp, rfl, fun h => by cases h⟩, fun p n c e => by cases e; omega, fun x hx => by cases hx⟩
    · have hk0 := R.k0
      obtain ⟨u0, hu0⟩ : ∃ u, (R.enc (T 0))[0]? = some u := ⟨_, List.getElem?_eq_getElem (by rw [R.len]; exact hk0)⟩
      have c00 := (hT 0 (by omega)).2 0 _ hu0
      have hspot : a.spot = none := by
        rw [add_add] at c00
        unfold World.cell? at c00
        split at c00
        · split at c00
          · cases c00
          · rename_i hn
            simp [Addr.add] at hn
            exact hn
        · cases c00
      obtain ⟨b, off, spot⟩ := a
      simp only at hspot
      subst hspot
      have hbl : b < w.heap.size := World.block_lt_of_cell? _ _ (by rw [add_add, Nat.add_zero, Addr.add_lit] at c00; exact c00)
      refine ⟨(List.range ln).map T, .inr ⟨by simp [h0], b, off, cp, by simp, hbl, ?_⟩, fun p n c e => by cases e; omega, fun x hx => ?_⟩
      · intro j hj i u hu
        have hj' : j < ln := by simpa using hj
        have hg : ((List.range ln).map T)[j]! = T j := by simp [hj']
        rw [hg] at hu
        have := (hT j (by omega)).2 i u hu
        rw [add_add, Addr.add_lit, ← Nat.add_assoc] at this
        exact this
      · obtain ⟨j, hj, rfl⟩ := List.mem_map.1 hx
        exact (hT j (by have := List.mem_range.1 hj; omega)).1
end
end Go.Proofs.YtjaahmgokiobjaaGreat
namespace Go.Proofs.YtjaahmgokiobjaaGreat
open Go.ChangeShapes Go.WideShapes Go.ChangeAt Go.RowKit Go.Deep
set_option linter.unusedVariables false
set_option linter.unusedSimpArgs false

theorem int_size : Tryz.prog.cellsOf 3 = 1 := by kernel_rfl
theorem arr_size : Tryz.prog.cellsOf 27 = 4 := by kernel_rfl
section
variable {H : Type} {enc : TypeId × Value → H} {w : World} {base : Nat} {sp : Nat → Bool} {held : Bool}
set_option maxRecDepth 100000 in
theorem open_time_cells {n : Nat} {cs : List Value} {x : DataW H × List MemPlace} (h : DataW.trod enc Tryz.prog w base sp held n 29 cs = some x) : ∃ t : TV, cs = t.enc := by
  obtain ⟨xs, m, _, _, hl, hxl, hf⟩ := DataW.trod_struct Tryz.underlying29 h
  rw [time_size] at hl
  match cs, hl with
  | [v0, v1, v2, v3, v4], _ =>
    match xs, hxl with
    | [y0, y1], _ =>
      have g0 := hf 0 ⟨ "D", 3, 0, false, "", "", 0⟩ rfl
      have g1 := hf 1 ⟨ "C", 27, 1, false, "", "", 8⟩ rfl
      dsimp only at g0 g1
      rw [int_size] at g0
      rw [arr_size] at g1
      simp only [ List.drop_zero, List.take_succ_cons, List.take_zero, List.drop_succ_cons, List.getElem?_cons_zero, List.getElem?_cons_succ] at g0 g1
      obtain ⟨d, e0, _, _⟩ := DataW.trod_int Tryz.underlying3 g0
      obtain ⟨zs, k, _, _, hz, hzl, hg⟩ := DataW.trod_array Tryz.underlying27 g1
      match zs, hzl with
      | [z0, z1, z2, z3], _ =>
        have a0 := hg 0 (by decide)
        have a1 := hg 1 (by decide)
        have a2 := hg 2 (by decide)
        have a3 := hg 3 (by decide)
        simp only [int_size] at a0 a1 a2 a3
        simp at a0 a1 a2 a3
        obtain ⟨c0, b0, _, _⟩ := DataW.trod_int Tryz.underlying3 a0
        obtain ⟨c1, b1, _, _⟩ := DataW.trod_int Tryz.underlying3 a1
        obtain ⟨c2, b2, _, _⟩ := DataW.trod_int Tryz.underlying3 a2
        obtain ⟨c3, b3, _, _⟩ := DataW.trod_int Tryz.underlying3 a3
        have r0 : [v0] = [Value.int .i64 d] := e0
        have r1 : [v1] = [Value.int .i64 c0] := b0
        have r2 : [v2] = [Value.int .i64 c1] := b1
        have r3 : [v3] = [Value.int .i64 c2] := b2
        have r4 : [v4] = [Value.int .i64 c3] := b3
        obtain rfl := (List.cons.inj r0).1
        obtain rfl := (List.cons.inj r1).1
        obtain rfl := (List.cons.inj r2).1
        obtain rfl := (List.cons.inj r3).1
        obtain rfl := (List.cons.inj r4).1
        exact ⟨⟨d, c0, c1, c2, c3⟩, rfl⟩
set_option maxRecDepth 100000 in
/-- an argument that is a slice of timestamps -/
theorem open_times {r : Reach} {b0 : Nat} {v : Value} {d : DataW H} {ps : List MemPlace} (hval : Value.okWide Tryz.prog w r b0 33 v) (hd : DataW.Trod enc Tryz.prog w base sp held 33 v d ps) : ∃ xs : List TV, IsT w v xs ∧ capOk v := by
  obtain ⟨fuel, h⟩ := hd
  obtain ⟨pa, ln, cp, rfl⟩ := okWide_slice Tryz.underlying33 hval
  rcases open_slice Tryz.underlying33 h with ⟨e, _⟩ | ⟨a, len, cap, m, n, D, Pl, e, hb, hl, hm, hmm, _, hx⟩
  · simp [Value.cells] at e
    obtain ⟨rfl, rfl, rfl⟩ := e
    exact ⟨[], .inl ⟨rfl, none, 0, rfl, fun _ => rfl⟩, fun p n c e => by cases e; omega⟩
  · simp [Value.cells] at e
    obtain ⟨rfl, rfl, rfl⟩ := e
    have hlm : ln ≤ m := by rw [hmm]; split <;> omega
    rw [time_size] at hx
    have each : ∀ i, i < m → ∃ t : TV, ∀ k u, t.enc[k]? = some u → w.cell? ((a.add (i * 5)).add k) = some u := by
      intro i hi
      obtain ⟨cs', h1, h2⟩ := hx i hi
      obtain ⟨_, hlen, hcell⟩ := World.cells?_some h1
      obtain ⟨t, rfl⟩ := open_time_cells h2
      refine ⟨t, fun k u hu => ?_⟩
      have hk : k < 5 := by have := (List.getElem?_eq_some_iff.1 hu).1; rw [enc_len] at this; exact this
      rw [hcell k hk]
      exact hu
    obtain ⟨T, hT⟩ := choose_lt each
    by_cases h0 : ln = 0
    · subst h0
      exact ⟨[], .inl ⟨rfl, some a, cp, rfl, fun h => by cases h⟩, fun p n c e => by cases e; omega⟩
    · have c00 := hT 0 (by omega) 0 _ rfl
      have hspot : a.spot = none := by
        rw [add_add] at c00
        unfold World.cell? at c00
        split at c00
        · split at c00
          · cases c00
          · rename_i hn
            simp [Addr.add] at hn
            exact hn
        · cases c00
      obtain ⟨b, off, spot⟩ := a
      simp only at hspot
      subst hspot
      have hbl : b < w.heap.size := World.block_lt_of_cell? _ _ (by rw [add_add, Nat.add_zero, Addr.add_lit] at c00; exact c00)
      refine ⟨(List.range ln).map T, .inr ⟨by simp [h0], b, off, cp, by simp, hbl, ?_⟩, fun p n c e => by cases e; omega⟩
      intro j hj i u hu
      have hj' : j < ln := by simpa using hj
      have hg : ((List.range ln).map T)[j]! = T j := by simp [hj']
      rw [hg] at hu
      have := hT j (by omega) i u hu
      rw [add_add, Addr.add_lit, ← Nat.add_assoc] at this
      exact this
end
end Go.Proofs.YtjaahmgokiobjaaGreat
/- plain: what the program's Check asks is what the document's asks -/
namespace Go.Proofs.YtjaahmgokiobjaaGreat
open Go.RowKit
set_option linter.unusedVariables false
set_option linter.unusedSimpArgs false

theorem sub_len {α : Type} [BEq α] [LawfulBEq α] : ∀ (A B : List α), A.Nodup → (∀ x ∈ A, x ∈ B) → A.length ≤ B.length
  | [], _, _, _ => Nat.zero_le _
  | a :: A, B, h, hs => by
    have ha : a ∈ B := hs a (List.mem_cons_self ..)
    have hn := List.nodup_cons.1 h
    have := sub_len A (B.erase a) hn.2 fun x hx => by
      have hne : x ≠ a := fun e => hn.1 (e ▸ hx)
      exact (List.mem_erase_of_ne hne).2 (hs x (List.mem_cons_of_mem _ hx))
    have hl := List.length_erase_of_mem ha
    have hp : 0 < B.length := List.length_pos_of_mem ha
    simp only [List.length_cons]
    omega
theorem node_ok {g : GV} {n : Nat} (h : nodeE g n = 0) : 0 ≤ g.nodes[n]!.scope ∧ g.nodes[n]!.scope < (g.parent.length : Int) := by
  unfold nodeE nodeV at h
  split at h
  · simp at h
  split at h
  · simp at h
  omega
theorem node_kind {g : GV} {n : Nat} (h : nodeE g n = 0) : 1 ≤ g.nodes[n]!.kind ∧ g.nodes[n]!.kind ≤ 15 := by
  unfold nodeE nodeV at h
  split at h
  · simp at h
  omega
theorem edge_ok {g : GV} {i : Nat} (h : edgeE g i = 0) : 0 ≤ g.edges[i]!.src ∧ g.edges[i]!.src < (g.nodes.length : Int) ∧ 0 ≤ g.edges[i]!.dst ∧ g.edges[i]!.dst < (g.nodes.length : Int) ∧ 0 ≤ g.edges[i]!.port ∧ g.edges[i]!.port < portsG g.nodes[g.edges[i]!.dst.toNat]!.kind ∧ takenG g i = false := by
  unfold edgeE edgeV at h
  split at h
  · simp at h
  split at h
  · simp at h
  split at h
  · simp at h
  split at h
  · simp at h
  split at h
  · simp at h
  rename_i a b c d e
  have : takenG g i = false := by simpa using e
  exact ⟨by omega, by omega, by omega, by omega, by omega, by omega, this⟩
/-- does one of the edges lead to the port? -/
def hasG (l : List GE) (n p : Int) : Bool := (List.range l.length).any fun j => decide (l[j]!.dst = n) && decide (l[j]!.port = p)
/-- each port of an operator has an edge -/
def fullE (g : GV) (n : Nat) : Prop := ∀ p : Nat, (p : Int) < portsG g.nodes[n]!.kind → hasG g.edges n p = true
/-- the ports to which edges lead -/
def portsOf (g : GV) (n : Nat) : List Nat := ((List.range g.edges.length).filter fun i => decide (g.edges[i]!.dst = (n : Int))).map fun i => g.edges[i]!.port.toNat
theorem portsOf_len (g : GV) (n : Nat) : (portsOf g n).length = (List.range g.edges.length).countP fun i => decide (g.edges[i]!.dst = (n : Int)) := by
  unfold portsOf
  rw [List.length_map, List.countP_eq_length_filter]
theorem nodup_map_range {f : Nat → Nat} {p : Nat → Bool} : ∀ n : Nat, (∀ i j, i < j → j < n → p i = true → p j = true → f i ≠ f j) → (((List.range n).filter p).map f).Nodup
  | 0, _ => List.nodup_nil
  | n + 1, h => by
    rw [List.range_succ, List.filter_append, List.map_append]
    have ih := nodup_map_range n fun i j hi hj => h i j hi (by omega)
    by_cases hp : p n = true
    · rw [show List.filter p [n] = [n] by simp [hp]]
      rw [List.map_singleton, List.nodup_append]
      refine ⟨ih, by simp, ?_⟩
      intro a ha b hb
      obtain ⟨i, hi, rfl⟩ := List.mem_map.1 ha
      have hi' := List.mem_filter.1 hi
      rw [List.mem_singleton.1 hb]
      exact h i n (List.mem_range.1 hi'.1) (Nat.lt_succ_self _) hi'.2 hp
    · rw [show List.filter p [n] = [] by simp [hp]]
      simpa using ih
theorem open_full {g : GV} (he : ∀ i, i < g.edges.length → edgeE g i = 0) (n : Nat) : openE g n = 0 ↔ fullE g n := by
  have hin : ∀ p ∈ portsOf g n, (p : Int) < portsG g.nodes[n]!.kind := fun p hp => by
    obtain ⟨i, hi, rfl⟩ := List.mem_map.1 hp
    have hi' := List.mem_filter.1 hi
    have q := edge_ok (he i (List.mem_range.1 hi'.1))
    have hd : g.edges[i]!.dst = (n : Int) := of_decide_eq_true hi'.2
    rw [hd, Int.toNat_natCast] at q
    omega
  have hnd : (portsOf g n).Nodup := nodup_map_range _ fun i j hij hj hi1 hj1 e => by
    have q1 := edge_ok (he i (by omega))
    have q2 := edge_ok (he j hj)
    have hd1 : g.edges[i]!.dst = (n : Int) := of_decide_eq_true hi1
    have hd2 : g.edges[j]!.dst = (n : Int) := of_decide_eq_true hj1
    have ht := q2.2.2.2.2.2.2
    unfold takenG at ht
    rw [List.any_eq_false] at ht
    have := ht i (List.mem_range.2 hij)
    have hpe : g.edges[i]!.port = g.edges[j]!.port := by omega
    rw [hd1, hd2, hpe] at this
    simp at this
  have hmem : ∀ p : Nat, hasG g.edges n p = true ↔ p ∈ portsOf g n := fun p => by
    unfold hasG portsOf
    rw [List.any_eq_true, List.mem_map]
    constructor
    · rintro ⟨i, h1, h2⟩
      rw [Bool.and_eq_true, decide_eq_true_eq, decide_eq_true_eq] at h2
      refine ⟨i, List.mem_filter.2 ⟨h1, decide_eq_true h2.1⟩, ?_⟩
      rw [h2.2]; simp
    · rintro ⟨i, h1, h2⟩
      have h1' := List.mem_filter.1 h1
      have hi := List.mem_range.1 h1'.1
      have q := edge_ok (he i hi)
      refine ⟨i, List.mem_range.2 hi, ?_⟩
      rw [Bool.and_eq_true, decide_eq_true_eq, decide_eq_true_eq]
      exact ⟨of_decide_eq_true h1'.2, by omega⟩
  have hk : 0 ≤ portsG g.nodes[n]!.kind := by unfold portsG; split; omega; split <;> omega
  obtain ⟨m, hm⟩ : ∃ m : Nat, portsG g.nodes[n]!.kind = (m : Int) := ⟨(portsG g.nodes[n]!.kind).toNat, by omega⟩
  unfold openE fullE
  rw [← portsOf_len, hm]
  rw [hm] at hin
  constructor
  · intro h p hp
    rw [hmem]
    refine Classical.byContradiction fun hno => ?_
    have := sub_len (p :: portsOf g n) (List.range m) (List.nodup_cons.2 ⟨hno, hnd⟩) fun x hx => by
      rw [List.mem_range]
      rcases List.mem_cons.1 hx with rfl | hx
      · omega
      · have := hin x hx; omega
    rw [List.length_cons, List.length_range] at this
    rw [if_pos (by omega)] at h
    simp at h
  · intro h
    have := sub_len (List.range m) (portsOf g n) List.nodup_range fun x hx => by
      rw [← hmem]
      exact h x (by have := List.mem_range.1 hx; omega)
    rw [List.length_range] at this
    rw [if_neg (by omega)]
/-- what both ask -/
def runS (g : GV) : Prop := (¬ (g.parent.length = 0 ∨ 8 < g.parent.length ∨ g.parent.length ≠ g.bound.length)) ∧ ∀ s, s < g.parent.length → scopeE g s = 0
def runN (g : GV) : Prop := (¬ (g.nodes.length = 0 ∨ 32 < g.nodes.length ∨ 64 < g.edges.length)) ∧ ∀ n, n < g.nodes.length → nodeE g n = 0
def runE (g : GV) : Prop := ∀ i, i < g.edges.length → edgeE g i = 0
def runPt (g : GV) : Prop := ∀ n, n < g.nodes.length → fullE g n
def runG (g : GV) : Prop := runS g ∧ runN g ∧ runE g ∧ runPt g
theorem firstE_zero {f : Nat → Int} {n : Nat} (h : ∀ i, i < n → f i = 0) : firstE f n = none := by
  unfold firstE
  rw [Option.map_eq_none_iff, List.find?_eq_none]
  intro x hx
  simpa using h x (List.mem_range.1 hx)
theorem runG_check {g : GV} (h : runG g) : checkG g = (0, 0) := by
  obtain ⟨⟨s1, s2⟩, ⟨n1, n2⟩, e, p⟩ := h
  unfold checkG
  rw [if_neg s1, firstE_zero s2]
  simp only
  rw [if_neg n1, firstE_zero n2]
  simp only
  rw [firstE_zero e]
  simp only
  rw [firstE_zero fun n hn => (open_full e n).2 (p n hn)]
theorem runG_may {g : GV} (h : runG g) : May g := checkG_may (by rw [runG_check h])
theorem runS_tree {g : GV} (h : runS g) : Tree g := by
  have S := h.2
  refine ⟨fun h0 => ?_, fun s h0 hs => ?_, fun s h0 hs => ?_⟩
  · have q := S 0 h0
    unfold scopeE at q
    split at q
    · rename_i c; rcases c with c | c
      · exact c.2.1
      · omega
    · simp at q
  · have q := S s hs
    unfold scopeE at q
    split at q
    · rename_i c; rcases c with c | c
      · omega
      · exact ⟨c.2.1, c.2.2.1⟩
    · simp at q
  · obtain ⟨k, rfl⟩ : ∃ k : Nat, s = (k : Int) := ⟨s.toNat, by omega⟩
    have q := S k (by omega)
    unfold scopeE at q
    split at q
    · rename_i c; rcases c with c | c
      · obtain ⟨rfl, hp, _⟩ := c
        have hm : chainL g.parent 10 (-1) = [] := by unfold chainL; rw [if_neg (by omega)]
        have := chain_up (P := g.parent) (s := 0) (by omega) (by omega) (by show (chainL g.parent 10 (g.parent[0]!)).length ≤ 9; rw [hp, hm]; simp)
        have e : g.parent[(0 : Int).toNat]! = -1 := hp
        rw [e, hm] at this
        show (chainL g.parent 10 0).length ≤ 4
        rw [this]
        simp
      · exact c.2.2.2.2.2
    · simp at q
end Go.Proofs.YtjaahmgokiobjaaGreat
