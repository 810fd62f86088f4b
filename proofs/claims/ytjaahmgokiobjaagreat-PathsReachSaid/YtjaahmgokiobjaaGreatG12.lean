/- a graph that is read, opened; the document's Place, Level, Step -/
import Derived.Test.YtjaahmgokiobjaaGreatG11
import Derived.Test.YtjaahmgokiobjaaGreatG08
import Derived.Deep.RegionHeldLaw
import Derived.Deep.Cut
import Derived.Test.YtjaahmgokiobjaaGreatG05
namespace Go.Proofs.YtjaahmgokiobjaaGreat
open Go.RowKit
set_option linter.unusedVariables false
set_option linter.unusedSimpArgs false

/-- what lies in a graph's lists -/
structure GO (w : World) (g : GV) (p1 p2 p3 p4 : Option Addr) : Prop where
  par : ∀ W, Below w.heap.size w W → ∀ j, j < g.parent.length → ∃ b off, p1 = some ⟨b, off, none⟩ ∧ W.cell? ⟨b, off + j, none⟩ = some (.int .i64 g.parent[j]!)
  bnd : ∀ W, Below w.heap.size w W → ∀ j, j < g.bound.length → ∃ b off, p2 = some ⟨b, off, none⟩ ∧ W.cell? ⟨b, off + j, none⟩ = some (.int .i64 g.bound[j]!)
  nod : ∀ j, j < g.nodes.length → ∃ b off p c, p3 = some ⟨b, off, none⟩ ∧ RC.Is w (.slice p g.nodes[j]!.prog.length c) g.nodes[j]!.prog ∧ ∀ W, Below w.heap.size w W →
    W.cell? ⟨b, off + j * 4, none⟩ = some (.int .i64 g.nodes[j]!.kind) ∧ W.cell? ⟨b, off + j * 4 + 1, none⟩ = some (.int .i64 g.nodes[j]!.scope) ∧ W.cell? ⟨b, off + j * 4 + 2, none⟩ = some (.int .i64 g.nodes[j]!.arg) ∧ W.cell? ⟨b, off + j * 4 + 3, none⟩ = some (.slice p g.nodes[j]!.prog.length c)
  edg : ∀ j, j < g.edges.length → ∃ b off, p4 = some ⟨b, off, none⟩ ∧ ∀ W, Below w.heap.size w W →
    W.cell? ⟨b, off + j * 4, none⟩ = some (.int .i64 g.edges[j]!.src) ∧ W.cell? ⟨b, off + j * 4 + 1, none⟩ = some (.int .i64 g.edges[j]!.dst) ∧ W.cell? ⟨b, off + j * 4 + 2, none⟩ = some (.int .i64 g.edges[j]!.port) ∧ W.cell? ⟨b, off + j * 4 + 3, none⟩ = some (.bool g.edges[j]!.ex)
theorem GO.below {w W : World} {g : GV} {p1 p2 p3 p4 : Option Addr} (h : GO w g p1 p2 p3 p4) (hb : Below w.heap.size w W) : GO W g p1 p2 p3 p4 where
  par W2 h2 := h.par W2 (hb.trans (h2.mono hb.size))
  bnd W2 h2 := h.bnd W2 (hb.trans (h2.mono hb.size))
  nod j hj := by
    obtain ⟨b, off, p, c, e, hi, hc⟩ := h.nod j hj
    exact ⟨b, off, p, c, e, hi.below hb, fun W2 h2 => hc W2 (hb.trans (h2.mono hb.size))⟩
  edg j hj := by
    obtain ⟨b, off, e, hc⟩ := h.edg j hj
    exact ⟨b, off, e, fun W2 h2 => hc W2 (hb.trans (h2.mono hb.size))⟩
theorem IsG.go {w : World} {v : Value} {g : GV} (h : IsG w v g) : ∃ p1 c1 p2 c2 p3 c3 p4 c4, v = .agg #[.slice p1 g.parent.length c1, .slice p2 g.bound.length c2, .slice p3 g.nodes.length c3, .slice p4 g.edges.length c4] ∧ GO w g p1 p2 p3 p4 := by
  obtain ⟨pv, bv, nv, ev, rfl, h1, h2, ⟨xs, h3, h3n, h3a⟩, h4⟩ := h
  obtain ⟨p1, c1, rfl, o1⟩ := RowKind.Is.opened h1
  obtain ⟨p2, c2, rfl, o2⟩ := RowKind.Is.opened h2
  obtain ⟨p3, c3, rfl, o3⟩ := RowKind.Is.opened h3
  obtain ⟨p4, c4, rfl, o4⟩ := RowKind.Is.opened h4
  refine ⟨p1, c1, p2, c2, p3, c3, p4, c4, by rw [h3n], ?_, ?_, ?_, ?_⟩
  · intro W hW j hj
    obtain ⟨b, off, e, hb, hr⟩ := o1 j hj
    exact ⟨b, off, e, atN (hr.below hW hb) j hj⟩
  · intro W hW j hj
    obtain ⟨b, off, e, hb, hr⟩ := o2 j hj
    exact ⟨b, off, e, atN (hr.below hW hb) j hj⟩
  · intro j hj
    obtain ⟨b, off, e, hb, hr⟩ := o3 j (by omega)
    have q := h3a j hj
    have hn := q.len
    obtain ⟨k1, k2, k3, k4⟩ := q
    refine ⟨b, off, xs[j]!.p, xs[j]!.c, e, by rw [← hn]; exact k4, fun W hW => ?_⟩
    have a := atW (hr.below hW hb) j (by omega)
    rw [k1, k2, k3, hn] at a
    exact a
  · intro j hj
    obtain ⟨b, off, e, hb, hr⟩ := o4 j hj
    exact ⟨b, off, e, fun W hW => atE (hr.below hW hb) j hj⟩

/-- the scope in which an operator takes, or gives -/
def placeG (g : GV) (n : Nat) (gives : Bool) : Int := if (g.nodes[n]!.kind = 10 ∧ gives = false) ∨ (g.nodes[n]!.kind = 11 ∧ gives = true) then g.parent[g.nodes[n]!.scope.toNat]! else g.nodes[n]!.scope
set_option maxRecDepth 100000 in
set_option maxHeartbeats 8000000 in
theorem rplace_any (g : GV) (v : Value) (n : Nat) (gives : Bool) (w : World) (h : IsG w v g) (hn : n < g.nodes.length) (hs : 0 ≤ g.nodes[n]!.scope ∧ g.nodes[n]!.scope < (g.parent.length : Int)) :
    Calls Tryz.prog 53 #[v, .int .i64 (n : Int), .bool gives] w (Ret (.int .i64 (placeG g n gives)) w) := by
  obtain ⟨p1, c1, p2, c2, p3, c3, p4, c4, rfl, G⟩ := h.go
  clear h
  obtain ⟨s, hsn⟩ : ∃ s : Nat, g.nodes[n]!.scope = (s : Int) := ⟨g.nodes[n]!.scope.toNat, by omega⟩
  obtain ⟨b, off, p, c, rfl, _, hc⟩ := G.nod n hn
  obtain ⟨b2, off2, rfl, _⟩ := G.par w (Below.refl _ _) s (by omega)
  have HP : Hid (∀ W, Below w.heap.size w W → W.cell? ⟨b2, off2 + s, none⟩ = some (.int .i64 g.parent[s]!)) := fun W hW => by
    obtain ⟨b', off', e, hc'⟩ := G.par W hW s (by omega)
    simp only [Option.some.injEq, Addr.mk.injEq] at e
    obtain ⟨rfl, rfl, _⟩ := e
    exact hc'
  have HV : Hid (placeG g n gives = if (g.nodes[n]!.kind = 10 ∧ gives = false) ∨ (g.nodes[n]!.kind = 11 ∧ gives = true) then g.parent[s]! else (s : Int)) := by
    show placeG g n gives = _
    unfold placeG
    rw [hsn]
    rfl
  have hsl : (s : Int) < (g.parent.length : Int) := by omega
  have hnl : (n : Int) < (g.nodes.length : Int) := by omega
  clear G hs hn
  rw [hsn] at hc
  clear hsn
  generalize placeG g n gives = V at *
  generalize g.nodes[n]!.kind = k at *
  generalize g.nodes[n]!.arg = ar at *
  generalize g.nodes[n]!.prog.length = pl at *
  generalize g.parent[s]! = ps at *
  generalize g.parent.length = n1 at *
  generalize g.bound.length = n2 at *
  generalize g.nodes.length = n3 at *
  generalize g.edges.length = n4 at *
  have HC := Lib.hid hc
  clear hc
  have HB0 := Lib.hid ((Below.refl w.heap.size w).alloc (Nat.le_refl _) (.cells #[.slice (some ⟨b2, off2, none⟩) n1 c1, .slice p2 n2 c2, .slice (some ⟨b, off, none⟩) n3 c3, .slice p4 n4 c4] 26))
  obtain ⟨e0, e1, e2, e3⟩ := HC.out _ HB0.out
  have e4 := HP.out _ HB0.out
  have hb1 : b < (w.alloc (.cells #[.slice (some ⟨b2, off2, none⟩) n1 c1, .slice p2 n2 c2, .slice (some ⟨b, off, none⟩) n3 c3, .slice p4 n4 c4] 26)).heap.size := World.block_lt_of_cell? _ _ e0
  have hb0 : b < w.heap.size := World.block_lt_of_cell? _ _ (HC.out _ (Below.refl _ _)).1
  have hb2 : b2 < w.heap.size := World.block_lt_of_cell? _ _ (HP.out _ (Below.refl _ _))
  have h10 : k = 10 ∨ k = 11 ∨ ((k == 10) = false ∧ (k == 11) = false) := by
    by_cases q : k = 10
    · exact .inl q
    · by_cases r : k = 11
      · exact .inr (.inl r)
      · exact .inr (.inr ⟨by simpa using q, by simpa using r⟩)
  clear HC HP HB0
  rcases h10 with rfl | rfl | ⟨k1, k2⟩
  · cases gives
    all_goals
      go_enter Tryz.func53, Tryz.ntmps53
      go_wp2
      go_returns
      refine ⟨ret_int ?_, by go_grown⟩
      rw [HV.out]
      simp
  · cases gives
    all_goals
      go_enter Tryz.func53, Tryz.ntmps53
      go_wp2
      go_returns
      refine ⟨ret_int ?_, by go_grown⟩
      rw [HV.out]
      simp
  · have HV2 : Hid (V = (s : Int)) := by
      show V = _
      rw [HV.out, if_neg]
      intro q
      rcases q with q | q
      · rw [q.1] at k1; cases k1
      · rw [q.1] at k2; cases k2
    clear HV
    go_enter Tryz.func53, Tryz.ntmps53
    go_wp2
    all_goals go_returns
    all_goals refine ⟨ret_int ?_, by go_grown⟩
    all_goals exact HV2.out.symm
/-- at which depth an operator takes, or gives -/
def levelG (g : GV) (n : Nat) (gives : Bool) : Nat := (chainL g.parent 10 (placeG g n gives)).length
def scopeOk (g : GV) (n : Nat) : Prop := 0 ≤ g.nodes[n]!.scope ∧ g.nodes[n]!.scope < (g.parent.length : Int)
end Go.Proofs.YtjaahmgokiobjaaGreat
/- the document's Step of an edge -/
namespace Go.Proofs.YtjaahmgokiobjaaGreat
open Go.RowKit
set_option linter.unusedVariables false
set_option linter.unusedSimpArgs false
attribute [local go_sem ↓] loadH loadT storeH storeT
attribute [local simp] size_setRow
attribute [local go_sem] rowAt_head rowOf_alloc_at rowOf_alloc_past rowOf_drew rowOf_drewN rowOf_setRow_same rowOf_setRow_other rowOf_setCell_same rowOf_setCell_other size_setRow setRow_drew setRow_alloc_at setRow_alloc_past one_int one_bool cell_setRow_same cell_setRow_other frozen_setRow_same frozen_setRow_other

/-- what leads out of an operator of a kind that takes at a depth -/
def stepH (d kind : Int) : HV :=
  if kind = 10 then ⟨d, d, 1, 0, 0, 0, 0, 0, 0, 0, 0⟩ else if kind = 11 then ⟨d, d - 1, 0, 0, 0, 0, 0, 0, 0, 0, 0⟩
  else if kind = 12 then ⟨d, d, 0, if d = 1 then 1 else 0, if d = 2 then 1 else 0, if d = 3 then 1 else 0, if d = 4 then 1 else 0, 0, 0, 0, 0⟩
  else ⟨d, d, 0, 0, 0, 0, 0, 0, 0, 0, 0⟩
abbrev GE.val (e : GE) : Value := .agg #[.int .i64 e.src, .int .i64 e.dst, .int .i64 e.port, .bool e.ex]
def stepG (g : GV) (e : GE) : HV := stepH (levelG g e.src.toNat false) g.nodes[e.src.toNat]!.kind
end Go.Proofs.YtjaahmgokiobjaaGreat
/- plain: graphs that may run, as nets of steps; how long lists of lowest steps may be -/
namespace Go.Proofs.YtjaahmgokiobjaaGreat
open Go.RowKit
set_option linter.unusedVariables false
set_option linter.unusedSimpArgs false

/-- the number that a right step with small numbers has among all -/
def cH (x : HV) (j : Nat) : Nat := if (j : Int) < x.k + x.t then (x.at j).toNat else 0
def codeH (x : HV) : Nat := ((((x.k.toNat * 5 + x.t.toNat) * 130 + cH x 0) * 130 + cH x 1) * 130 + cH x 2) * 130 + cH x 3
theorem cH_lt {x : HV} (h : ∀ j : Nat, (j : Int) < x.k + x.t → x.at j ≤ 129) (j : Nat) : cH x j < 130 := by
  unfold cH
  split
  · rename_i hj
    have := h j hj
    omega
  · omega
theorem codeH_lt {x : HV} (hr : x.rightB = true) (h : ∀ j : Nat, (j : Int) < x.k + x.t → x.at j ≤ 129) : codeH x < 7140250000 := by
  have s := right_size (shape_of hr)
  have a0 := cH_lt h 0; have a1 := cH_lt h 1; have a2 := cH_lt h 2; have a3 := cH_lt h 3
  have k4 : x.k.toNat ≤ 4 := by omega
  have t4 : x.t.toNat ≤ 4 := by omega
  unfold codeH
  omega
theorem codeH_inj {x y : HV} (hx : x.rightB = true) (hy : y.rightB = true) (hf : x.f = y.f) (bx : ∀ j : Nat, (j : Int) < x.k + x.t → x.at j ≤ 129) (by' : ∀ j : Nat, (j : Int) < y.k + y.t → y.at j ≤ 129) (h : codeH x = codeH y) : x = y := by
  have sx := right_size (shape_of hx); have sy := right_size (shape_of hy)
  have a0 := cH_lt bx 0; have a1 := cH_lt bx 1; have a2 := cH_lt bx 2; have a3 := cH_lt bx 3
  have b0 := cH_lt by' 0; have b1 := cH_lt by' 1; have b2 := cH_lt by' 2; have b3 := cH_lt by' 3
  have t4 : x.t.toNat ≤ 4 := by omega
  have u4 : y.t.toNat ≤ 4 := by omega
  unfold codeH at h
  have e3 : cH x 3 = cH y 3 := by omega
  have e2 : cH x 2 = cH y 2 := by omega
  have e1 : cH x 1 = cH y 1 := by omega
  have e0 : cH x 0 = cH y 0 := by omega
  have ek : x.k.toNat = y.k.toNat := by omega
  have et : x.t.toNat = y.t.toNat := by omega
  have hk : x.k = y.k := by omega
  have ht : x.t = y.t := by omega
  have key : ∀ j : Nat, cH x j = cH y j → (j : Int) < x.k + x.t → x.at j = y.at j := fun j e hj => by
    unfold cH at e
    rw [if_pos hj, if_pos (by omega)] at e
    have := at_bound (shape_of hx) j; have := at_bound (shape_of hy) j
    omega
  exact hv_ext (shape_of hx) (shape_of hy) hf hk ht (key 0 e0) (key 1 e1) (key 2 e2) (key 3 e3)
theorem few_steps {l : List HV} {f : Int} (hn : l.Nodup) (h : ∀ x ∈ l, x.rightB = true ∧ x.f = f ∧ ∀ j : Nat, (j : Int) < x.k + x.t → x.at j ≤ 129) : l.length ≤ 7140250000 := by
  have hm : (l.map codeH).Nodup := by
    unfold List.Nodup
    rw [List.pairwise_map]
    refine List.Pairwise.imp_of_mem (R := fun a b => a ≠ b) ?_ hn
    intro a b ha hb hab e
    exact hab (codeH_inj (h a ha).1 (h b hb).1 ((h a ha).2.1.trans (h b hb).2.1.symm) (h a ha).2.2 (h b hb).2.2 e)
  have := nodup_len (m := List.range 7140250000) hm (fun c hc => by
    obtain ⟨x, hx, rfl⟩ := List.mem_map.1 hc
    exact List.mem_range.2 (codeH_lt (h x hx).1 (h x hx).2.2))
  rw [List.length_map, List.length_range] at this
  exact this
/-- the lists behind few rounds are not too long -/
theorem Rounds.few {E : List NE} {D : Nat → Int} {N n : Nat} {h0 : HV} (F : Fine E D N) (h0r : h0.rightB = true) (h0d : h0.k + h0.t = D n) (h0z : ∀ j : Nat, (j : Int) < h0.k + h0.t → h0.at j ≤ 0) {r : Nat} (hr : r ≤ 129) {row : List (List HV)} (R : Rounds E D N n h0 r row) (m : Nat) : List.length row[m]! ≤ 7140250000 := by
  by_cases hm : m < N
  · have L := R.least m hm
    refine few_steps (f := h0.f) L.nodup fun x hx => ?_
    obtain ⟨es, hE, hl, q⟩ := L.mem x hx
    have o := run_ok F hE h0r h0d q
    have b := run_bound F (c := 0) hE h0r h0d (Int.le_refl _) h0z q
    exact ⟨o.1, o.2.2, fun j hj => by have := b j hj; omega⟩
  · rw [getElem!_neg row m (by rw [R.len]; exact hm)]
    exact Nat.zero_le _

/-- a graph's edges as steps -/
def netE (g : GV) : List NE := g.edges.map fun e => ⟨e.src.toNat, e.dst.toNat, stepG g e⟩
def depthG (g : GV) (v : Nat) : Int := (levelG g v false : Int)
def sameG (g : GV) (n : Nat) : HV := ⟨depthG g n, depthG g n, 0, 0, 0, 0, 0, 0, 0, 0, 0⟩
/-- what a graph that may run has, as far as ways ask for it -/
structure Runs (g : GV) : Prop where
  nodes : g.nodes.length ≤ 32
  edges : g.edges.length ≤ 64
  parent : g.parent.length ≤ 8
  scope : ∀ v, v < g.nodes.length → scopeOk g v
  ends : ∀ i, i < g.edges.length → 0 ≤ g.edges[i]!.src ∧ g.edges[i]!.src.toNat < g.nodes.length ∧ 0 ≤ g.edges[i]!.dst ∧ g.edges[i]!.dst.toNat < g.nodes.length
  depth : ∀ v, v < g.nodes.length → 1 ≤ levelG g v false ∧ levelG g v false ≤ 4
  fine : Fine (netE g) (depthG g) g.nodes.length
theorem sameG_right {g : GV} (R : Runs g) {n : Nat} (hn : n < g.nodes.length) : (sameG g n).rightB = true := by
  have d := R.depth n hn
  have key : ∀ d : Int, 1 ≤ d → d ≤ 4 → HV.right ⟨d, d, 0, 0, 0, 0, 0, 0, 0, 0, 0⟩ := fun d h1 h4 => by
    unfold HV.right HV.shape fitsP
    simp
    omega
  exact decide_eq_true (key _ (by unfold depthG; omega) (by unfold depthG; omega))
theorem sameG_gives (g : GV) (n : Nat) : (sameG g n).k + (sameG g n).t = depthG g n := by show depthG g n + 0 = _; omega
theorem sameG_zero (g : GV) (n : Nat) (j : Nat) (hj : (j : Int) < (sameG g n).k + (sameG g n).t) : (sameG g n).at j ≤ 0 := by
  have h : (j : Int) < (sameG g n).k := by
    have := sameG_gives g n
    have : (sameG g n).k = depthG g n := rfl
    omega
  unfold HV.at
  rw [if_pos h]
  unfold HV.add
  simp only [sameG]
  repeat' split
  all_goals omega
end Go.Proofs.YtjaahmgokiobjaaGreat
/- plain: what the document's Check asks gives what ways ask for (Runs) -/
namespace Go.Proofs.YtjaahmgokiobjaaGreat
open Go.RowKit
set_option linter.unusedVariables false
set_option linter.unusedSimpArgs false

theorem chainL_more (P : List Int) : ∀ (f : Nat) (x : Int), (chainL P (f + 1) x).length ≤ f → chainL P f x = chainL P (f + 1) x
  | 0, x, h => by
    have : chainL P (0 + 1) x = [] := List.length_eq_zero_iff.1 (Nat.le_zero.1 h)
    rw [this]; rfl
  | f + 1, x, h => by
    unfold chainL
    by_cases hx : 0 ≤ x ∧ x < (P.length : Int)
    · rw [if_pos hx, if_pos hx]
      have h2 : (chainL P (f + 1) P[x.toNat]!).length ≤ f := by
        have e : chainL P (f + 1 + 1) x = chainL P (f + 1) P[x.toNat]! ++ [x] := by
          show (if _ then _ else _) = _
          rw [if_pos hx]
        rw [e] at h
        simp only [List.length_append, List.length_singleton] at h
        omega
      rw [chainL_more P f _ h2]
    · rw [if_neg hx, if_neg hx]
/-- a scope's chain is one longer than its parent's -/
theorem chain_up {P : List Int} {s : Int} (h0 : 0 ≤ s) (h1 : s < (P.length : Int)) (hl : (chainL P 10 P[s.toNat]!).length ≤ 9) : (chainL P 10 s).length = (chainL P 10 P[s.toNat]!).length + 1 := by
  have e : chainL P 10 s = chainL P 9 P[s.toNat]! ++ [s] := by
    show (if _ then _ else _) = _
    rw [if_pos ⟨h0, h1⟩]
  rw [e, chainL_more P 9 _ hl]
  simp
theorem chain_pos {P : List Int} {s : Int} (h0 : 0 ≤ s) (h1 : s < (P.length : Int)) : 1 ≤ (chainL P 10 s).length := by
  have e : chainL P 10 s = chainL P 9 P[s.toNat]! ++ [s] := by
    show (if _ then _ else _) = _
    rw [if_pos ⟨h0, h1⟩]
  rw [e]
  simp
/-- what the document's Check asks of a graph that may run, as far as ways ask for it -/
structure May (g : GV) : Prop where
  parent : g.parent.length ≤ 8
  chain : ∀ s : Int, 0 ≤ s → s < (g.parent.length : Int) → (chainL g.parent 10 s).length ≤ 4
  up : ∀ s : Int, 0 < s → s < (g.parent.length : Int) → 0 ≤ g.parent[s.toNat]! ∧ g.parent[s.toNat]! < (g.parent.length : Int)
  nodes : g.nodes.length ≤ 32
  edges : g.edges.length ≤ 64
  scope : ∀ v, v < g.nodes.length → scopeOk g v
  inner : ∀ v, v < g.nodes.length → (g.nodes[v]!.kind = 10 ∨ g.nodes[v]!.kind = 11 ∨ g.nodes[v]!.kind = 12) → g.nodes[v]!.scope ≠ 0
  ends : ∀ i, i < g.edges.length → 0 ≤ g.edges[i]!.src ∧ g.edges[i]!.src.toNat < g.nodes.length ∧ 0 ≤ g.edges[i]!.dst ∧ g.edges[i]!.dst.toNat < g.nodes.length
  place : ∀ i, i < g.edges.length → placeG g g.edges[i]!.src.toNat true = placeG g g.edges[i]!.dst.toNat false
namespace May
variable {g : GV} (M : May g)
include M
theorem inScope (v : Nat) (hv : v < g.nodes.length) (b : Bool) : 0 ≤ placeG g v b ∧ placeG g v b < (g.parent.length : Int) := by
  have s := M.scope v hv
  unfold placeG
  split
  · rename_i h
    have hne := M.inner v hv (by rcases h with h | h; exact .inl h.1; exact .inr (.inl h.1))
    exact M.up _ (by have := s.1; unfold scopeOk at s; omega) s.2
  · exact s
theorem level (v : Nat) (hv : v < g.nodes.length) (b : Bool) : 1 ≤ levelG g v b ∧ levelG g v b ≤ 4 := by
  have p := M.inScope v hv b
  exact ⟨chain_pos p.1 p.2, M.chain _ p.1 p.2⟩
/-- at which depth an operator gives -/
theorem gives (v : Nat) (hv : v < g.nodes.length) : (levelG g v true : Int) = if g.nodes[v]!.kind = 10 then (levelG g v false : Int) + 1 else if g.nodes[v]!.kind = 11 then (levelG g v false : Int) - 1 else (levelG g v false : Int) := by
  have s := M.scope v hv
  unfold levelG
  by_cases h10 : g.nodes[v]!.kind = 10
  · have hne := M.inner v hv (.inl h10)
    have hs : 0 < g.nodes[v]!.scope := by have := s.1; omega
    have hu := M.up _ hs s.2
    have e1 : placeG g v true = g.nodes[v]!.scope := by unfold placeG; rw [if_neg (by rw [h10]; simp)]
    have e2 : placeG g v false = g.parent[g.nodes[v]!.scope.toNat]! := by unfold placeG; rw [if_pos (.inl ⟨h10, rfl⟩)]
    rw [e1, e2, if_pos h10]
    have := chain_up s.1 s.2 (Nat.le_trans (M.chain _ hu.1 hu.2) (by decide))
    omega
  · rw [if_neg h10]
    by_cases h11 : g.nodes[v]!.kind = 11
    · have hne := M.inner v hv (.inr (.inl h11))
      have hs : 0 < g.nodes[v]!.scope := by have := s.1; omega
      have hu := M.up _ hs s.2
      have e1 : placeG g v true = g.parent[g.nodes[v]!.scope.toNat]! := by unfold placeG; rw [if_pos (.inr ⟨h11, rfl⟩)]
      have e2 : placeG g v false = g.nodes[v]!.scope := by unfold placeG; rw [if_neg (by rw [h11]; simp)]
      rw [e1, e2, if_pos h11]
      have := chain_up s.1 s.2 (Nat.le_trans (M.chain _ hu.1 hu.2) (by decide))
      omega
    · rw [if_neg h11]
      have e1 : placeG g v true = g.nodes[v]!.scope := by unfold placeG; rw [if_neg (fun q => by rcases q with q | q; exact h10 q.1; exact h11 q.1)]
      have e2 : placeG g v false = g.nodes[v]!.scope := by unfold placeG; rw [if_neg (fun q => by rcases q with q | q; exact h10 q.1; exact h11 q.1)]
      rw [e1, e2]
theorem step_facts (v : Nat) (hv : v < g.nodes.length) : (stepH (levelG g v false) g.nodes[v]!.kind).rightB = true ∧ (stepH (levelG g v false) g.nodes[v]!.kind).f = (levelG g v false : Int) ∧
    (stepH (levelG g v false) g.nodes[v]!.kind).k + (stepH (levelG g v false) g.nodes[v]!.kind).t = (levelG g v true : Int) ∧
    ((levelG g v false : Int) ≤ (stepH (levelG g v false) g.nodes[v]!.kind).k ∨ (levelG g v true : Int) ≤ (stepH (levelG g v false) g.nodes[v]!.kind).k) ∧
    ∀ j : Nat, (j : Int) < 4 → (stepH (levelG g v false) g.nodes[v]!.kind).at j ≤ 1 := by
  have l1 := M.level v hv false
  have l2 := M.level v hv true
  have hg := M.gives v hv
  generalize levelG g v false = d at *
  generalize levelG g v true = e at *
  generalize g.nodes[v]!.kind = k at *
  have hd : d = 1 ∨ d = 2 ∨ d = 3 ∨ d = 4 := by omega
  have four : ∀ (x : HV), (x.at 0 ≤ 1 ∧ x.at 1 ≤ 1 ∧ x.at 2 ≤ 1 ∧ x.at 3 ≤ 1) → ∀ j : Nat, (j : Int) < 4 → x.at j ≤ 1 := fun x h j hj => by
    have : j = 0 ∨ j = 1 ∨ j = 2 ∨ j = 3 := by omega
    rcases this with rfl | rfl | rfl | rfl
    · exact h.1
    · exact h.2.1
    · exact h.2.2.1
    · exact h.2.2.2
  unfold stepH
  by_cases h10 : k = 10
  · rw [if_pos h10] at hg ⊢
    rcases hd with rfl | rfl | rfl | rfl
    all_goals first | (exfalso; omega) | skip
    all_goals exact ⟨by decide, rfl, by first | (rw [hg]; done) | (rw [hg]; rfl), .inl (by decide), four _ (by decide)⟩
  · rw [if_neg h10] at hg ⊢
    by_cases h11 : k = 11
    · rw [if_pos h11] at hg ⊢
      rcases hd with rfl | rfl | rfl | rfl
      all_goals first | (exfalso; omega) | skip
      all_goals exact ⟨by decide, rfl, by first | (rw [hg]; done) | (rw [hg]; rfl), .inr (by rw [hg]; decide), four _ (by decide)⟩
    · rw [if_neg h11] at hg ⊢
      by_cases h12 : k = 12
      · rw [if_pos h12]
        rcases hd with rfl | rfl | rfl | rfl
        all_goals exact ⟨by decide, rfl, by first | (rw [hg]; done) | (rw [hg]; rfl), .inl (by decide), four _ (by decide)⟩
      · rw [if_neg h12]
        rcases hd with rfl | rfl | rfl | rfl
        all_goals exact ⟨by decide, rfl, by first | (rw [hg]; done) | (rw [hg]; rfl), .inl (by decide), four _ (by decide)⟩
theorem runs : Runs g := by
  have hdep : ∀ i, i < g.edges.length → (levelG g g.edges[i]!.src.toNat true : Int) = depthG g g.edges[i]!.dst.toNat := fun i hi => by
    unfold depthG levelG
    rw [M.place i hi]
  have hmem : ∀ a ∈ netE g, ∃ i, i < g.edges.length ∧ a = ⟨g.edges[i]!.src.toNat, g.edges[i]!.dst.toNat, stepG g g.edges[i]!⟩ := fun a ha => by
    obtain ⟨e, he, rfl⟩ := List.mem_map.1 ha
    obtain ⟨i, hi, rfl⟩ := List.mem_iff_getElem.1 he
    exact ⟨i, hi, by rw [getElem!_pos g.edges i hi]⟩
  refine ⟨M.nodes, M.edges, M.parent, M.scope, M.ends, fun v hv => M.level v hv false, ?_, ?_, ?_, ?_, ?_, ?_⟩
  · intro a ha
    obtain ⟨i, hi, rfl⟩ := hmem a ha
    exact ⟨(M.ends i hi).2.1, (M.ends i hi).2.2.2⟩
  · intro a ha
    obtain ⟨i, hi, rfl⟩ := hmem a ha
    exact (M.step_facts _ (M.ends i hi).2.1).1
  · intro a ha
    obtain ⟨i, hi, rfl⟩ := hmem a ha
    have f := M.step_facts _ (M.ends i hi).2.1
    exact ⟨f.2.1, by rw [← hdep i hi]; exact f.2.2.1⟩
  · intro a ha
    obtain ⟨i, hi, rfl⟩ := hmem a ha
    have f := M.step_facts _ (M.ends i hi).2.1
    have := f.2.2.2.1
    rw [hdep i hi] at this
    exact this
  · intro a ha j hj
    obtain ⟨i, hi, rfl⟩ := hmem a ha
    have f := M.step_facts _ (M.ends i hi).2.1
    refine f.2.2.2.2 j ?_
    have := (M.level _ (M.ends i hi).2.2.2 false).2
    have : (j : Int) < depthG g g.edges[i]!.dst.toNat := hj
    unfold depthG at this
    omega
  · intro v hv
    have := M.level v hv false
    unfold depthG
    omega
end May
end Go.Proofs.YtjaahmgokiobjaaGreat
/- the document's Ports and follows -/
namespace Go.Proofs.YtjaahmgokiobjaaGreat
open Go.RowKit
set_option linter.unusedVariables false
set_option linter.unusedSimpArgs false

def portsG (k : Int) : Int := if k = 5 ∨ k = 9 then 2 else if 2 ≤ k ∧ k ≤ 15 then 1 else 0
set_option maxRecDepth 100000 in
theorem ports_ix (k : Int) (h1 : 1 ≤ k) (h2 : k ≤ 15) (W : World) : (Instr.index 93 (.agg #[.int .i64 0, .int .i64 0, .int .i64 1, .int .i64 1, .int .i64 1, .int .i64 2, .int .i64 1, .int .i64 1, .int .i64 1, .int .i64 2, .int .i64 1, .int .i64 1, .int .i64 1, .int .i64 1, .int .i64 1, .int .i64 1]) (.int .i64 k)).run Tryz.prog W = .ok (.int .i64 (portsG k)) W := by
  have hk : k = 1 ∨ k = 2 ∨ k = 3 ∨ k = 4 ∨ k = 5 ∨ k = 6 ∨ k = 7 ∨ k = 8 ∨ k = 9 ∨ k = 10 ∨ k = 11 ∨ k = 12 ∨ k = 13 ∨ k = 14 ∨ k = 15 := by omega
  rcases hk with rfl | rfl | rfl | rfl | rfl | rfl | rfl | rfl | rfl | rfl | rfl | rfl | rfl | rfl | rfl
  all_goals exact rfl
set_option maxRecDepth 100000 in
set_option maxHeartbeats 8000000 in
theorem rports_any (k : Int) (w : World) : Calls Tryz.prog 28 #[.int .i64 k] w (Ret (.int .i64 (portsG k)) w) := by
  by_cases h1 : k < 1
  · rw [show portsG k = 0 by unfold portsG; rw [if_neg (by omega), if_neg (by omega)]]
    go_enter Tryz.func28, Tryz.ntmps28
    go_wp2
    go_returns
    exact ⟨rfl, Below.refl _ _⟩
  · by_cases h2 : k > 15
    · rw [show portsG k = 0 by unfold portsG; rw [if_neg (by omega), if_neg (by omega)]]
      go_enter Tryz.func28, Tryz.ntmps28
      go_wp2
      go_returns
      exact ⟨rfl, Below.refl _ _⟩
    · have ix := ports_ix k (by omega) (by omega)
      generalize portsG k = p at *
      go_enter Tryz.func28, Tryz.ntmps28
      go_wp2
      go_returns
      exact ⟨rfl, Below.refl _ _⟩
end Go.Proofs.YtjaahmgokiobjaaGreat
