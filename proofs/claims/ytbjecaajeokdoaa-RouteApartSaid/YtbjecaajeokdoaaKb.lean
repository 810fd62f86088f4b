/- lists of lists of items in memory: read (IsII), and of the call's own (OII) -/
import Derived.Test.YtbjecaajeokdoaaBa
import Derived.Test.YtbjecaajeokdoaaRowBlock
import Derived.Test.YtbjecaajeokdoaaRowSet
import Derived.Test.YtbjecaajeokdoaaRowAny
namespace Go.Proofs.Ytbjecaajeokdoaa
open Go.RowKit
set_option linter.unusedVariables false
set_option linter.unusedSimpArgs false

theorem isOpened {α : Type} [Inhabited α] {R : RowKind α} {w : World} {v : Value} {xs : List α} (h : R.Is w v xs) : ∃ p c, v = .slice p xs.length c ∧ ∀ j, j < xs.length → ∃ b off, p = some ⟨b, off, none⟩ ∧ b < w.heap.size ∧ R.Row w b off xs := by
  rcases h with ⟨rfl, p, cap, rfl, _⟩ | ⟨h0, b, off, cap, rfl, hb, hr⟩
  · exact ⟨p, cap, rfl, fun j hj => absurd hj (by simp)⟩
  · exact ⟨_, cap, rfl, fun j _ => ⟨b, off, rfl, hb, hr⟩⟩
/-- a slice as it lies in a cell -/
structure SVI where
  p : Option Addr
  n : Nat
  c : Nat
instance : Inhabited SVI := ⟨⟨none, 0, 0⟩⟩
abbrev SVI.val (s : SVI) : Value := .slice s.p s.n s.c
def RSI : RowKind SVI where
  enc := fun s => [s.val]
  k := 1
  k0 := by decide
  len := fun _ => rfl
  one := by
    intro c u hu
    simp at hu
    subst hu
    rfl
  tE := 25
  tS := 26
  zero := .slice none 0 0
  bytes := 24
  info := by kernel_rfl
  under := Try.underlying26
  zlen := rfl
  byt := by decide
/-- v is a list of these lists -/
def IsII (w : World) (v : Value) (rows : List (List IV)) : Prop := ∃ svs : List SVI, RSI.Is w v svs ∧ svs.length = rows.length ∧ ∀ m, m < rows.length → RI.Is w svs[m]!.val rows[m]!
theorem IsII.below {w w' : World} {v : Value} {rows : List (List IV)} (h : IsII w v rows) (hb : Below w.heap.size w w') : IsII w' v rows := by
  obtain ⟨svs, h1, h2, h3⟩ := h
  exact ⟨svs, h1.below hb, h2, fun m hm => (h3 m hm).below hb⟩
theorem atSI {w : World} {b off : Nat} {xs : List SVI} (h : RSI.Row w b off xs) (j : Nat) (hj : j < xs.length) : w.cell? ⟨b, off + j, none⟩ = some xs[j]!.val := by
  have := h j hj 0 _ rfl
  rw [show off + j * RSI.k + 0 = off + j from by show off + j * 1 + 0 = _; omega] at this
  exact this
theorem IsII.opened {w : World} {v : Value} {rows : List (List IV)} (h : IsII w v rows) : ∃ p c, v = .slice p rows.length c ∧ ∀ m, m < rows.length → ∃ b off q d, p = some ⟨b, off, none⟩ ∧ RI.Is w (.slice q (List.length rows[m]!) d) rows[m]! ∧ ∀ W, Below w.heap.size w W → W.cell? ⟨b, off + m, none⟩ = some (.slice q (List.length rows[m]!) d) := by
  obtain ⟨svs, h1, h2, h3⟩ := h
  obtain ⟨p, c, rfl, ho⟩ := isOpened h1
  refine ⟨p, c, by rw [h2], fun m hm => ?_⟩
  obtain ⟨b, off, e, hb, hr⟩ := ho m (by omega)
  have hi := h3 m hm
  obtain ⟨q, d, hs⟩ := hi.slice
  rw [hs] at hi
  exact ⟨b, off, q, d, e, hi, fun W hW => by rw [← hs]; exact atSI (hr.below hW hb) m (by omega)⟩
def svCellsI (l : List SVI) : Array Value := (l.map SVI.val).toArray
/-- a list of lists of the call's own, from block B on, no two of them in one block -/
structure OII (B : Nat) (W : World) (blk : Nat) (svs : List SVI) (rows : List (List IV)) : Prop where
  lo : B ≤ blk
  heap : W.heap[blk]? = some (.cells (svCellsI svs) 25 (0, 0))
  len : svs.length = rows.length
  own : ∀ m, m < svs.length → RI.Own B W svs[m]!.val rows[m]!
  ne : ∀ m, m < svs.length → svs[m]!.val.ownBlock ≠ some blk
  sep : ∀ m m', m < svs.length → m' < svs.length → m ≠ m' → ∀ k, svs[m]!.val.ownBlock = some k → svs[m']!.val.ownBlock ≠ some k
theorem RowKind.Own.keepJI {α : Type} {R : RowKind α} {B : Nat} {w w' : World} {v : Value} {xs : List α} (h : R.Own B w v xs) (hk : ∀ l, v.ownBlock = some l → w'.heap[l]? = w.heap[l]?) : R.Own B w' v xs := by
  obtain ⟨h1, h2⟩ := h
  refine ⟨h1, ?_⟩
  rcases h2 with h2 | ⟨g, cap, cur, e, hB, hg, rest⟩
  · exact .inl h2
  · exact .inr ⟨g, cap, cur, e, hB, (hk g (by rw [e]; rfl)).trans hg, rest⟩
namespace OII
variable {B : Nat} {W W' : World} {blk : Nat} {svs : List SVI} {rows : List (List IV)}
theorem lt (h : OII B W blk svs rows) : blk < W.heap.size := (Array.getElem?_eq_some_iff.1 h.heap).1
theorem below (h : OII B W blk svs rows) (hb : Below W.heap.size W W') : OII B W' blk svs rows :=
  ⟨h.lo, (hb.block blk h.lt).trans h.heap, h.len, fun m hm => (h.own m hm).below hb, h.ne, h.sep⟩
theorem cell (h : OII B W blk svs rows) (m : Nat) (hm : m < svs.length) : W.cell? ⟨blk, m, none⟩ = some svs[m]!.val := by
  unfold World.cell?
  rw [h.heap]
  simp only [svCellsI]
  rw [getElem!_pos svs m hm]
  simp [hm]
theorem frozen (h : OII B W blk svs rows) (m : Nat) : W.frozen? ⟨blk, m, none⟩ = false := by
  unfold World.frozen?
  rw [h.heap]
  simp
theorem set_cells (svs : List SVI) (m : Nat) (s : SVI) : (svCellsI svs).setIfInBounds m s.val = svCellsI (svs.set m s) := by
  unfold svCellsI
  rw [List.map_set]
  simp
/-- one of the lists has grown, or was made anew, and is laid in its place -/
theorem put (h : OII B W blk svs rows) (hB : B ≤ W.heap.size) {m : Nat} (hm : m < svs.length) {s : SVI} {ys : List IV} (hsz : W.heap.size ≤ W'.heap.size) (hW : ∀ l, l < W.heap.size → svs[m]!.val.ownBlock ≠ some l → W'.heap[l]? = W.heap[l]?)
    (ho : RI.Own B W' s.val ys) (hn : StaysOrNew W svs[m]!.val s.val) : OII B (W'.setCell ⟨blk, m, none⟩ s.val) blk (svs.set m s) (rows.set m ys) := by
  have hbl := h.lt
  have hblk : W'.heap[blk]? = W.heap[blk]? := hW blk hbl (h.ne m hm)
  have hnew : ∀ k, s.val.ownBlock = some k → k ≠ blk := fun k hk e => by
    subst e
    rcases hn with hn | hn
    · exact h.ne m hm (hn.symm.trans hk)
    · have := hn k hk
      omega
  have hothers : ∀ (k : Nat), k ≠ blk → (W'.setCell ⟨blk, m, none⟩ s.val).heap[k]? = W'.heap[k]? := fun k hk => Below.heap_setCell W' ⟨blk, m, none⟩ s.val k hk
  have hg : ∀ j, (svs.set m s)[j]! = if m = j then s else svs[j]! := fun j => by
    by_cases e : m = j
    · subst e
      rw [if_pos rfl, getElem!_pos _ m (by rw [List.length_set]; exact hm), List.getElem_set_self]
    · rw [if_neg e]
      by_cases hj : j < svs.length
      · rw [getElem!_pos _ j (by rw [List.length_set]; exact hj), getElem!_pos svs j hj, List.getElem_set_ne e]
      · rw [getElem!_neg _ j (by rw [List.length_set]; exact hj), getElem!_neg svs j hj]
  have hr : ∀ j, (rows.set m ys)[j]! = if m = j then ys else rows[j]! := fun j => by
    have hm' : m < rows.length := by rw [← h.len]; exact hm
    by_cases e : m = j
    · subst e
      rw [if_pos rfl, getElem!_pos _ m (by rw [List.length_set]; exact hm'), List.getElem_set_self]
    · rw [if_neg e]
      by_cases hj : j < rows.length
      · rw [getElem!_pos _ j (by rw [List.length_set]; exact hj), getElem!_pos rows j hj, List.getElem_set_ne e]
      · rw [getElem!_neg _ j (by rw [List.length_set]; exact hj), getElem!_neg rows j hj]
  refine ⟨h.lo, ?_, by rw [List.length_set, List.length_set]; exact h.len, fun j hj => ?_, fun j hj => ?_, fun i j hi hj hij k hk => ?_⟩
  · rw [← set_cells]
    simp only [World.setCell, Array.getElem?_modify, if_true]
    rw [hblk, h.heap]
    rfl
  · rw [List.length_set] at hj
    rw [hg, hr]
    split
    · exact RowKind.Own.keepJI ho fun l hl => hothers l (hnew l hl)
    · rename_i hne
      have o := h.own j hj
      refine RowKind.Own.keepJI o fun l hl => ?_
      have hlt := (o.lt l hl).2
      have h1 : l ≠ blk := fun e => h.ne j hj (e ▸ hl)
      rw [hothers l h1]
      exact hW l hlt (fun e => h.sep m j hm hj hne l e hl)
  · rw [List.length_set] at hj
    rw [hg]
    split
    · intro e
      exact hnew blk e rfl
    · exact h.ne j hj
  · rw [List.length_set] at hi hj
    rw [hg] at hk ⊢
    split at hk
    · rename_i e1
      subst e1
      rw [if_neg hij]
      rcases hn with hn | hn
      · exact h.sep m j hm hj hij k (hn.symm.trans hk)
      · intro e
        have := hn k hk
        have := ((h.own j hj).lt k e).2
        omega
    · rename_i e1
      split
      · rename_i e2
        subst e2
        intro e
        rcases hn with hn | hn
        · exact h.sep i m hi hm hij k hk (hn.symm.trans e)
        · have := hn k e
          have := ((h.own i hi).lt k hk).2
          omega
      · exact h.sep i j hi hj hij k hk
theorem get (h : OII B W blk svs rows) (m : Nat) (hm : m < svs.length) : svs[m]!.n = List.length rows[m]! := by
  obtain ⟨p, c, e⟩ := (h.own m hm).is.slice
  simp only [SVI.val, Value.slice.injEq] at e
  exact e.2.1
/-- it may be read -/
theorem is (h : OII B W blk svs rows) {n : Nat} (hn : n = rows.length) : IsII W (.slice (some ⟨blk, 0, none⟩) n n) rows := by
  subst hn
  refine ⟨svs, ?_, h.len, fun m hm => (h.own m (by rw [h.len]; exact hm)).is⟩
  by_cases e : svs = []
  · subst e
    have : rows.length = 0 := h.len.symm
    rw [this]
    exact .inl ⟨rfl, _, _, rfl, fun q => by cases q⟩
  · refine .inr ⟨e, blk, 0, rows.length, by rw [h.len], h.lt, fun j hj i u hu => ?_⟩
    have hi : i = 0 := by
      have := (List.getElem?_eq_some_iff.1 hu).1
      have q : (RSI.enc svs[j]!).length = 1 := rfl
      omega
    subst hi
    have hu' : u = svs[j]!.val := by simpa [RSI] using hu.symm
    subst hu'
    rw [show 0 + j * RSI.k + 0 = j from by show 0 + j * 1 + 0 = j; omega]
    exact h.cell j hj
/-- made: all are empty -/
theorem made (W : World) (n : Nat) : OII W.heap.size (W.alloc (.cells (svCellsI (List.replicate n ⟨none, 0, 0⟩)) 25)) W.heap.size (List.replicate n ⟨none, 0, 0⟩) (List.replicate n []) := by
  have hg : ∀ m, m < n → (List.replicate n (⟨none, 0, 0⟩ : SVI))[m]! = ⟨none, 0, 0⟩ := fun m hm => by rw [getElem!_pos _ m (by rw [List.length_replicate]; exact hm), List.getElem_replicate]
  have hr : ∀ m, m < n → (List.replicate n ([] : List IV))[m]! = [] := fun m hm => by rw [getElem!_pos _ m (by rw [List.length_replicate]; exact hm), List.getElem_replicate]
  refine ⟨Nat.le_refl _, heap_alloc_new W _, by rw [List.length_replicate, List.length_replicate], fun m hm => ?_, fun m hm => ?_, fun m m' hm hm' _ k hk => ?_⟩
  · rw [List.length_replicate] at hm
    rw [hg m hm, hr m hm]
    exact RowKind.Own.nil _ _ _
  · rw [List.length_replicate] at hm
    rw [hg m hm]
    intro e
    cases e
  · rw [List.length_replicate] at hm
    rw [hg m hm] at hk
    cases hk
end OII
theorem made_cellsI (n : Nat) : madeCells #[.slice none 0 0] (n * 1) = svCellsI (List.replicate n ⟨none, 0, 0⟩) := by
  unfold madeCells svCellsI
  rw [List.map_replicate, Nat.mul_one]
  apply Array.ext
  · simp
  · intro i h1 h2
    simp [Nat.mod_one]
theorem make_ii (n : Nat) (hn : n ≤ 1000000) (W : World) : (Instr.makeSlice 26 (.int .i64 (n : Int)) (.int .i64 (n : Int))).run Try.prog W = .ok (.slice (some ⟨W.heap.size, 0, none⟩) n n) (W.alloc (.cells (svCellsI (List.replicate n ⟨none, 0, 0⟩)) 25)) := by
  have h := run_make_rows (P := Try.prog) (t := RSI.tS) RSI.under RSI.info RSI.byt n hn W
  have h : (Instr.makeSlice 26 (.int .i64 (n : Int)) (.int .i64 (n : Int))).run Try.prog W = .ok (.slice (some ⟨W.heap.size, 0, none⟩) n n) (W.alloc (.cells (madeCells #[.slice none 0 0] (n * 1)) 25)) := h
  rw [made_cellsI] at h
  exact h
end Go.Proofs.Ytbjecaajeokdoaa
