/- lists of lists of steps in memory: read (IsHH), and of the call's own (OHH) -/
import Derived.Test.YtedjbklejdcknaaG13
import Derived.Test.YtedjbklejdcknaaG28
import Derived.Test.YtedjbklejdcknaaG34
namespace Go.Proofs.Ytedjbklejdcknaa
open Go.RowKit
set_option linter.unusedVariables false
set_option linter.unusedSimpArgs false

/-- a slice as it lies in a cell -/
structure SV where
  p : Option Addr
  n : Nat
  c : Nat
instance : Inhabited SV := ⟨⟨none, 0, 0⟩⟩
abbrev SV.val (s : SV) : Value := .slice s.p s.n s.c
def RS : RowKind SV where
  enc := fun s => [s.val]
  k := 1
  k0 := by decide
  len := fun _ => rfl
  one := by
    intro c u hu
    simp at hu
    subst hu
    rfl
  tE := 34
  tS := 31
  zero := .slice none 0 0
  bytes := 24
  info := by kernel_rfl
  under := Try.underlying31
  zlen := rfl
  byt := by decide
/-- v is a list of these lists -/
def IsHH (w : World) (v : Value) (rows : List (List HV)) : Prop := ∃ svs : List SV, RS.Is w v svs ∧ svs.length = rows.length ∧ ∀ m, m < rows.length → RHp.Is w svs[m]!.val rows[m]!
theorem IsHH.below {w w' : World} {v : Value} {rows : List (List HV)} (h : IsHH w v rows) (hb : Below w.heap.size w w') : IsHH w' v rows := by
  obtain ⟨svs, h1, h2, h3⟩ := h
  exact ⟨svs, h1.below hb, h2, fun m hm => (h3 m hm).below hb⟩
theorem atS {w : World} {b off : Nat} {xs : List SV} (h : RS.Row w b off xs) (j : Nat) (hj : j < xs.length) : w.cell? ⟨b, off + j, none⟩ = some xs[j]!.val := by
  have := h j hj 0 _ rfl
  rw [show off + j * RS.k + 0 = off + j from by show off + j * 1 + 0 = _; omega] at this
  exact this
theorem IsHH.opened {w : World} {v : Value} {rows : List (List HV)} (h : IsHH w v rows) : ∃ p c, v = .slice p rows.length c ∧ ∀ m, m < rows.length → ∃ b off q d, p = some ⟨b, off, none⟩ ∧ RHp.Is w (.slice q (List.length rows[m]!) d) rows[m]! ∧ ∀ W, Below w.heap.size w W → W.cell? ⟨b, off + m, none⟩ = some (.slice q (List.length rows[m]!) d) := by
  obtain ⟨svs, h1, h2, h3⟩ := h
  obtain ⟨p, c, rfl, ho⟩ := RowKind.Is.opened h1
  refine ⟨p, c, by rw [h2], fun m hm => ?_⟩
  obtain ⟨b, off, e, hb, hr⟩ := ho m (by omega)
  have hi := h3 m hm
  obtain ⟨q, d, hs⟩ := hi.slice
  rw [hs] at hi
  exact ⟨b, off, q, d, e, hi, fun W hW => by rw [← hs]; exact atS (hr.below hW hb) m (by omega)⟩
def svCells (l : List SV) : Array Value := (l.map SV.val).toArray
/-- a list of lists of the call's own, from block B on, no two of them in one block -/
structure OHH (B : Nat) (W : World) (blk : Nat) (svs : List SV) (rows : List (List HV)) : Prop where
  lo : B ≤ blk
  heap : W.heap[blk]? = some (.cells (svCells svs) 34 (0, 0))
  len : svs.length = rows.length
  own : ∀ m, m < svs.length → RHp.Own B W svs[m]!.val rows[m]!
  ne : ∀ m, m < svs.length → svs[m]!.val.ownBlock ≠ some blk
  sep : ∀ m m', m < svs.length → m' < svs.length → m ≠ m' → ∀ k, svs[m]!.val.ownBlock = some k → svs[m']!.val.ownBlock ≠ some k
theorem RowKind.Own.keepJ {α : Type} {R : RowKind α} {B : Nat} {w w' : World} {v : Value} {xs : List α} (h : R.Own B w v xs) (hk : ∀ l, v.ownBlock = some l → w'.heap[l]? = w.heap[l]?) : R.Own B w' v xs := by
  obtain ⟨h1, h2⟩ := h
  refine ⟨h1, ?_⟩
  rcases h2 with h2 | ⟨g, cap, cur, e, hB, hg, rest⟩
  · exact .inl h2
  · exact .inr ⟨g, cap, cur, e, hB, (hk g (by rw [e]; rfl)).trans hg, rest⟩
namespace OHH
variable {B : Nat} {W W' : World} {blk : Nat} {svs : List SV} {rows : List (List HV)}
theorem lt (h : OHH B W blk svs rows) : blk < W.heap.size := (Array.getElem?_eq_some_iff.1 h.heap).1
theorem below (h : OHH B W blk svs rows) (hb : Below W.heap.size W W') : OHH B W' blk svs rows :=
  ⟨h.lo, (hb.block blk h.lt).trans h.heap, h.len, fun m hm => (h.own m hm).below hb, h.ne, h.sep⟩
theorem cell (h : OHH B W blk svs rows) (m : Nat) (hm : m < svs.length) : W.cell? ⟨blk, m, none⟩ = some svs[m]!.val := by
  unfold World.cell?
  rw [h.heap]
  simp only [svCells]
  rw [getElem!_pos svs m hm]
  simp [hm]
theorem frozen (h : OHH B W blk svs rows) (m : Nat) : W.frozen? ⟨blk, m, none⟩ = false := by
  unfold World.frozen?
  rw [h.heap]
  simp
theorem set_cells (svs : List SV) (m : Nat) (s : SV) : (svCells svs).setIfInBounds m s.val = svCells (svs.set m s) := by
  unfold svCells
  rw [List.map_set]
  simp
/-- one of the lists has grown, or was made anew, and is laid in its place -/
theorem put (h : OHH B W blk svs rows) (hB : B ≤ W.heap.size) {m : Nat} (hm : m < svs.length) {s : SV} {ys : List HV} (hsz : W.heap.size ≤ W'.heap.size) (hW : ∀ l, l < W.heap.size → svs[m]!.val.ownBlock ≠ some l → W'.heap[l]? = W.heap[l]?)
    (ho : RHp.Own B W' s.val ys) (hn : StaysOrNew W svs[m]!.val s.val) : OHH B (W'.setCell ⟨blk, m, none⟩ s.val) blk (svs.set m s) (rows.set m ys) := by
  have hbl := h.lt
  have hblk : W'.heap[blk]? = W.heap[blk]? := hW blk hbl (h.ne m hm)
  have hnew : ∀ k, s.val.ownBlock = some k → k ≠ blk := fun k hk e => by
    subst e
    rcases hn with hn | hn
    · exact h.ne m hm (hn.symm.trans hk)
    · have := hn k hk
      omega
  have hothers : ∀ (k : Nat), k ≠ blk → (W'.setCell ⟨blk, m, none⟩ s.val).heap[k]? = W'.heap[k]? := fun k hk => Below.heap_setCell W' ⟨blk, m, none⟩ s.val k hk
  have hg : ∀ j, (svs.set m s)[j]! = if m = j then s else svs[j]! := fun j => by
    by_cases e : m = j
    · subst e
      rw [if_pos rfl, getElem!_pos _ m (by rw [List.length_set]; exact hm), List.getElem_set_self]
    · rw [if_neg e]
      by_cases hj : j < svs.length
      · rw [getElem!_pos _ j (by rw [List.length_set]; exact hj), getElem!_pos svs j hj, List.getElem_set_ne e]
      · rw [getElem!_neg _ j (by rw [List.length_set]; exact hj), getElem!_neg svs j hj]
  have hr : ∀ j, (rows.set m ys)[j]! = if m = j then ys else rows[j]! := fun j => by
    have hm' : m < rows.length := by rw [← h.len]; exact hm
    by_cases e : m = j
    · subst e
      rw [if_pos rfl, getElem!_pos _ m (by rw [List.length_set]; exact hm'), List.getElem_set_self]
    · rw [if_neg e]
      by_cases hj : j < rows.length
      · rw [getElem!_pos _ j (by rw [List.length_set]; exact hj), getElem!_pos rows j hj, List.getElem_set_ne e]
      · rw [getElem!_neg _ j (by rw [List.length_set]; exact hj), getElem!_neg rows j hj]
  refine ⟨h.lo, ?_, by rw [List.length_set, List.length_set]; exact h.len, fun j hj => ?_, fun j hj => ?_, fun i j hi hj hij k hk => ?_⟩
  · rw [← set_cells]
    simp only [World.setCell, Array.getElem?_modify, if_true]
    rw [hblk, h.heap]
    rfl
  · rw [List.length_set] at hj
    rw [hg, hr]
    split
    · exact RowKind.Own.keepJ ho fun l hl => hothers l (hnew l hl)
    · rename_i hne
      have o := h.own j hj
      refine RowKind.Own.keepJ o fun l hl => ?_
      have hlt := (o.lt l hl).2
      have h1 : l ≠ blk := fun e => h.ne j hj (e ▸ hl)
      rw [hothers l h1]
      exact hW l hlt (fun e => h.sep m j hm hj hne l e hl)
  · rw [List.length_set] at hj
    rw [hg]
    split
    · intro e
      exact hnew blk e rfl
    · exact h.ne j hj
  · rw [List.length_set] at hi hj
    rw [hg] at hk ⊢
    split at hk
    · rename_i e1
      subst e1
      rw [if_neg hij]
      rcases hn with hn | hn
      · exact h.sep m j hm hj hij k (hn.symm.trans hk)
      · intro e
        have := hn k hk
        have := ((h.own j hj).lt k e).2
        omega
    · rename_i e1
      split
      · rename_i e2
        subst e2
        intro e
        rcases hn with hn | hn
        · exact h.sep i m hi hm hij k hk (hn.symm.trans e)
        · have := hn k e
          have := ((h.own i hi).lt k hk).2
          omega
      · exact h.sep i j hi hj hij k hk
theorem get (h : OHH B W blk svs rows) (m : Nat) (hm : m < svs.length) : svs[m]!.n = List.length rows[m]! := by
  obtain ⟨p, c, e⟩ := (h.own m hm).is.slice
  simp only [SV.val, Value.slice.injEq] at e
  exact e.2.1
/-- it may be read -/
theorem is (h : OHH B W blk svs rows) {n : Nat} (hn : n = rows.length) : IsHH W (.slice (some ⟨blk, 0, none⟩) n n) rows := by
  subst hn
  refine ⟨svs, ?_, h.len, fun m hm => (h.own m (by rw [h.len]; exact hm)).is⟩
  by_cases e : svs = []
  · subst e
    have : rows.length = 0 := h.len.symm
    rw [this]
    exact .inl ⟨rfl, _, _, rfl, fun q => by cases q⟩
  · refine .inr ⟨e, blk, 0, rows.length, by rw [h.len], h.lt, fun j hj i u hu => ?_⟩
    have hi : i = 0 := by
      have := (List.getElem?_eq_some_iff.1 hu).1
      have q : (RS.enc svs[j]!).length = 1 := rfl
      omega
    subst hi
    have hu' : u = svs[j]!.val := by simpa [RS] using hu.symm
    subst hu'
    rw [show 0 + j * RS.k + 0 = j from by show 0 + j * 1 + 0 = j; omega]
    exact h.cell j hj
/-- made: all are empty -/
theorem made (W : World) (n : Nat) : OHH W.heap.size (W.alloc (.cells (svCells (List.replicate n ⟨none, 0, 0⟩)) 34)) W.heap.size (List.replicate n ⟨none, 0, 0⟩) (List.replicate n []) := by
  have hg : ∀ m, m < n → (List.replicate n (⟨none, 0, 0⟩ : SV))[m]! = ⟨none, 0, 0⟩ := fun m hm => by rw [getElem!_pos _ m (by rw [List.length_replicate]; exact hm), List.getElem_replicate]
  have hr : ∀ m, m < n → (List.replicate n ([] : List HV))[m]! = [] := fun m hm => by rw [getElem!_pos _ m (by rw [List.length_replicate]; exact hm), List.getElem_replicate]
  refine ⟨Nat.le_refl _, heap_alloc_new W _, by rw [List.length_replicate, List.length_replicate], fun m hm => ?_, fun m hm => ?_, fun m m' hm hm' _ k hk => ?_⟩
  · rw [List.length_replicate] at hm
    rw [hg m hm, hr m hm]
    exact RowKind.Own.nil _ _ _
  · rw [List.length_replicate] at hm
    rw [hg m hm]
    intro e
    cases e
  · rw [List.length_replicate] at hm
    rw [hg m hm] at hk
    cases hk
end OHH
theorem made_cells (n : Nat) : madeCells #[.slice none 0 0] (n * 1) = svCells (List.replicate n ⟨none, 0, 0⟩) := by
  unfold madeCells svCells
  rw [List.map_replicate, Nat.mul_one]
  apply Array.ext
  · simp
  · intro i h1 h2
    simp [Nat.mod_one]
theorem make_hh (n : Nat) (hn : n ≤ 1000000) (W : World) : (Instr.makeSlice 31 (.int .i64 (n : Int)) (.int .i64 (n : Int))).run Try.prog W = .ok (.slice (some ⟨W.heap.size, 0, none⟩) n n) (W.alloc (.cells (svCells (List.replicate n ⟨none, 0, 0⟩)) 34)) := by
  have h := run_make_rows (P := Try.prog) (t := RS.tS) RS.under RS.info RS.byt n hn W
  have h : (Instr.makeSlice 31 (.int .i64 (n : Int)) (.int .i64 (n : Int))).run Try.prog W = .ok (.slice (some ⟨W.heap.size, 0, none⟩) n n) (W.alloc (.cells (madeCells #[.slice none 0 0] (n * 1)) 34)) := h
  rw [made_cells] at h
  exact h
end Go.Proofs.Ytedjbklejdcknaa
