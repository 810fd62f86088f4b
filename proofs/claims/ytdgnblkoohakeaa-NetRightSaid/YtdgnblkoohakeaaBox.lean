import Derived.Test.YtdgnblkoohakeaaProg
import Derived.WalkKit
import Derived.Below
import Derived.Handy
import Derived.Deep.QuietTactic
import Derived.BigQuiet
import Derived.Lib.Hide
import Derived.Deep.Light
namespace Go.Proofs.Ytdgnblkoohakeaa
open Go.RowKit
set_option linter.unusedVariables false

/-- the cells of block b, if none of them is frozen -/
def rowOf (w : World) (b : Nat) : Option (Array Value) :=
  match w.heap[b]? with
  | some (.cells c _ fr) => if fr.2 ≤ fr.1 then some c else none
  | _ => none
/-- the same world, but that block b's cells are these -/
def setRow (w : World) (b : Nat) (cs : Array Value) : World :=
  { w with heap := w.heap.modify b fun
      | .cells c e fr => .cells cs e fr
      | o => o }

theorem rowOf_some {w : World} {b : Nat} {c : Array Value} (h : rowOf w b = some c) : ∃ t fr, w.heap[b]? = some (.cells c t fr) ∧ fr.2 ≤ fr.1 := by
  unfold rowOf at h
  split at h
  · split at h
    · rename_i c' t fr hh hle
      obtain rfl := Option.some.inj h
      exact ⟨t, fr, hh, hle⟩
    · cases h
  · cases h
theorem rowOf_cell {w : World} {b : Nat} {c : Array Value} (h : rowOf w b = some c) (i : Nat) : w.cell? ⟨b, i, none⟩ = c[i]? := by
  obtain ⟨t, fr, hh, _⟩ := rowOf_some h
  simp [World.cell?, hh]
theorem rowOf_frozen {w : World} {b : Nat} {c : Array Value} (h : rowOf w b = some c) (i : Nat) : w.frozen? ⟨b, i, none⟩ = false := by
  obtain ⟨t, ⟨lo, hi⟩, hh, hle⟩ := rowOf_some h
  simp only [World.frozen?, hh, Bool.and_eq_false_iff, decide_eq_false_iff_not]
  simp only at hle
  omega
theorem rowOf_lt {w : World} {b : Nat} {c : Array Value} (h : rowOf w b = some c) : b < w.heap.size := by
  obtain ⟨t, fr, hh, _⟩ := rowOf_some h
  exact (Array.getElem?_eq_some_iff.1 hh).1
theorem rowOf_block {w w' : World} {b : Nat} (h : w'.heap[b]? = w.heap[b]?) : rowOf w' b = rowOf w b := by unfold rowOf; rw [h]
theorem rowOf_below {W w1 : World} {B b : Nat} {c : Array Value} (h : rowOf W b = some c) (hb : Below B W w1) (hl : b < B) : rowOf w1 b = some c := (rowOf_block (hb.block b hl)).trans h
theorem rowOf_alloc_at {w : World} (c : Array Value) (t : TypeId) (n : Nat) (hn : n = w.heap.size) : rowOf (w.alloc (.cells c t)) n = some c := by
  subst hn
  show (match (w.heap.push (.cells c t))[w.heap.size]? with | some (.cells c _ fr) => if fr.2 ≤ fr.1 then some c else none | _ => none) = some c
  rw [Array.getElem?_push, if_pos rfl]
  rfl
theorem rowOf_alloc_past {w : World} (o : Obj) (n : Nat) (hn : n < w.heap.size) : rowOf (w.alloc o) n = rowOf w n := rowOf_block (Below.heap_alloc w o n hn)
theorem rowOf_drew {w : World} (n : Nat) : rowOf w.drew n = rowOf w n := rfl
theorem rowOf_drewN {w : World} (m n : Nat) : rowOf (w.drewN m) n = rowOf w n := rfl
theorem heap_setRow (w : World) (b : Nat) (c : Array Value) (k : Nat) (h : k ≠ b) : (setRow w b c).heap[k]? = w.heap[k]? := by
  simp only [setRow, Array.getElem?_modify]
  rw [if_neg (by omega)]
theorem rowOf_setRow_other {w : World} (b n : Nat) (c : Array Value) (h : n ≠ b) : rowOf (setRow w b c) n = rowOf w n := rowOf_block (heap_setRow w b c n h)
theorem rowOf_setRow_same {w : World} (b : Nat) (c : Array Value) (h : (rowOf w b).isSome = true) : rowOf (setRow w b c) b = some c := by
  obtain ⟨c0, h0⟩ := Option.isSome_iff_exists.1 h
  obtain ⟨t, fr, hh, hle⟩ := rowOf_some h0
  simp [rowOf, setRow, Array.getElem?_modify, hh, hle]
theorem rowOf_setCell_other {w : World} (a : Addr) (n : Nat) (v : Value) (h : n ≠ a.block) : rowOf (w.setCell a v) n = rowOf w n := rowOf_block (Below.heap_setCell w a v n h)
theorem rowOf_setCell_same {w : World} (b i : Nat) (v : Value) : rowOf (w.setCell ⟨b, i, none⟩ v) b = (rowOf w b).map (·.setIfInBounds i v) := by
  unfold rowOf World.setCell
  simp only [Array.getElem?_modify, if_true]
  cases h : w.heap[b]? with
  | none => simp
  | some o =>
    cases o <;> simp <;> split <;> simp
theorem size_setRow {w : World} (b : Nat) (c : Array Value) : (setRow w b c).heap.size = w.heap.size := by simp [setRow]
theorem setRow_drew {w : World} (b : Nat) (c : Array Value) : setRow w.drew b c = (setRow w b c).drew := rfl
theorem setRow_alloc_at {w : World} (c c' : Array Value) (t : TypeId) (n : Nat) (hn : n = w.heap.size) : setRow (w.alloc (.cells c t)) n c' = w.alloc (.cells c' t) := by
  subst hn
  unfold setRow World.alloc
  congr 1
  apply Array.ext_getElem?
  intro k
  simp only [Array.getElem?_modify, Array.getElem?_push]
  by_cases hk : k = w.heap.size
  · subst hk; simp
  · have : ¬ w.heap.size = k := fun e => hk e.symm
    simp [hk, this]
theorem setRow_alloc_past {w : World} (o : Obj) (n : Nat) (c : Array Value) (hn : n < w.heap.size) : setRow (w.alloc o) n c = (setRow w n c).alloc o := by
  unfold setRow World.alloc
  congr 1
  apply Array.ext_getElem?
  intro k
  simp only [Array.getElem?_modify, Array.getElem?_push, Array.size_modify]
  by_cases hk : k = w.heap.size
  · subst hk
    simp [Nat.ne_of_lt hn]
  · simp [hk]
theorem below_setRow {B : Nat} {a w : World} (h : Below B a w) (b : Nat) (c : Array Value) (hB : B ≤ b) : Below B a (setRow w b c) :=
  h.trans ⟨rfl, rfl, rfl, by simp [setRow], fun k hk => heap_setRow _ _ _ _ (by omega)⟩

theorem add_at (b j : Nat) : (⟨b, 0, none⟩ : Addr).add j = ⟨b, j, none⟩ := by
  unfold Addr.add
  split
  · rename_i h; subst h; rfl
  · simp
/-- what a call of the interpreter's own does where no row is known -/
def slow {α : Type} (x : Sem α) : Sem α := x

theorem run_loadVar_of (P : Program) (w : World) (t : TypeId) (b n : Nat) (ha : (isAgg t).run P w = .ok true w) (hs : (sizeOf t).run P w = .ok n w) :
    (loadVar t ⟨b, 0, none⟩).run P w = match rowOf w b with
      | some c => if c.size = n then .ok (.agg c) w else (slow (loadVar t ⟨b, 0, none⟩)).run P w
      | none => (slow (loadVar t ⟨b, 0, none⟩)).run P w := by
  split
  · rename_i c hc
    split
    · rename_i hn
      subst hn
      have hl : (loadCells ⟨b, 0, none⟩ c.size).run P w = .ok c w := by
        have := run_loadCells_list (P := P) w ⟨b, 0, none⟩ c.toList (fun j v hj => by
          rw [add_at, rowOf_cell hc]; simpa using hj)
        simpa using this
      simp [loadVar, ha, hs, Result.andThen, hl]
    · rfl
  · rfl

def putFrom (c : Array Value) (i : Nat) : List Value → Array Value
  | [] => c
  | v :: r => putFrom (c.setIfInBounds i v) (i + 1) r
theorem size_putFrom : ∀ (vs : List Value) (c : Array Value) (i : Nat), (putFrom c i vs).size = c.size
  | [], _, _ => rfl
  | v :: r, c, i => by rw [putFrom, size_putFrom r]; simp
theorem get_putFrom : ∀ (vs : List Value) (c : Array Value) (i k : Nat), i + vs.length ≤ c.size → (putFrom c i vs)[k]? = if i ≤ k ∧ k < i + vs.length then vs[k - i]? else c[k]?
  | [], c, i, k, _ => by rw [putFrom, if_neg (by intro q; simp at q; omega)]
  | v :: r, c, i, k, h => by
    simp only [List.length_cons] at h
    rw [putFrom, get_putFrom r _ _ _ (by simp; omega), List.length_cons]
    by_cases hk : k = i
    · subst hk
      rw [if_neg (by omega), if_pos (by omega), Nat.sub_self, Array.getElem?_setIfInBounds, if_pos rfl, if_pos (by omega)]
      rfl
    · by_cases hk2 : i + 1 ≤ k ∧ k < i + 1 + r.length
      · rw [if_pos hk2, if_pos (by omega), show k - i = (k - (i + 1)) + 1 by omega, List.getElem?_cons_succ]
      · rw [if_neg hk2, if_neg (by omega), Array.getElem?_setIfInBounds, if_neg (by omega)]
theorem putFrom_all {c cs : Array Value} (h : c.size = cs.size) : putFrom c 0 cs.toList = cs := by
  apply Array.ext_getElem?
  intro k
  rw [get_putFrom _ _ _ _ (by simp; omega)]
  by_cases hk : k < cs.size
  · rw [if_pos (by simp; omega)]; simp
  · rw [if_neg (by simp; omega), Array.getElem?_eq_none (by omega), Array.getElem?_eq_none (by omega)]
theorem setRow_self {w : World} {b : Nat} {c : Array Value} (h : rowOf w b = some c) : setRow w b c = w := by
  obtain ⟨t, fr, hh, _⟩ := rowOf_some h
  have : (w.heap.modify b fun | .cells c' e fr => .cells c e fr | o => o) = w.heap := by
    apply Array.ext_getElem?
    intro k
    simp only [Array.getElem?_modify]
    by_cases hk : b = k
    · subst hk; simp [hh]
    · simp [hk]
  unfold setRow
  rw [this]
theorem setRow_setRow (w : World) (b : Nat) (c c' : Array Value) : setRow (setRow w b c) b c' = setRow w b c' := by
  unfold setRow
  congr 1
  apply Array.ext_getElem?
  intro k
  simp only [Array.getElem?_modify]
  by_cases hk : b = k
  · subst hk
    simp only [if_true]
    cases w.heap[b]? with
    | none => rfl
    | some o => cases o <;> rfl
  · simp [hk]
theorem setCell_row {w : World} {b : Nat} {c : Array Value} (h : rowOf w b = some c) (i : Nat) (v : Value) : w.setCell ⟨b, i, none⟩ v = setRow w b (c.setIfInBounds i v) := by
  obtain ⟨t, fr, hh, _⟩ := rowOf_some h
  unfold setRow World.setCell
  congr 1
  apply Array.ext_getElem?
  intro k
  simp only [Array.getElem?_modify]
  by_cases hk : b = k
  · subst hk; simp [hh]
  · simp [hk]
theorem run_storeCells_row (P : Program) (b : Nat) : ∀ (vs : List Value) (i : Nat) (w : World) (c : Array Value), rowOf w b = some c → i + vs.length ≤ c.size → (∀ v ∈ vs, v.oneCell' = true) →
    (storeCells ⟨b, 0, none⟩ vs i).run P w = .ok () (setRow w b (putFrom c i vs))
  | [], i, w, c, hc, _, _ => by rw [putFrom, setRow_self hc]; rfl
  | v :: rest, i, w, c, hc, hn, ho => by
    simp only [List.length_cons] at hn
    have hi : i < c.size := by omega
    have hcell : w.cell? ⟨b, i, none⟩ = some c[i] := by rw [rowOf_cell hc]; exact Array.getElem?_eq_getElem hi
    have hst : (store ((⟨b, 0, none⟩ : Addr).add i) v).run P w = .ok () (w.setCell ⟨b, i, none⟩ v) := by
      rw [add_at, run_store P w _ v _ (ho v (by simp)), hcell]
      simp only [rowOf_frozen hc]
      rfl
    have hrow : rowOf (w.setCell ⟨b, i, none⟩ v) b = some (c.setIfInBounds i v) := by rw [rowOf_setCell_same, hc]; rfl
    have ih := run_storeCells_row P b rest (i + 1) (w.setCell ⟨b, i, none⟩ v) (c.setIfInBounds i v) hrow (by simp; omega) (fun x hx => ho x (by simp [hx]))
    rw [storeCells, Sem.run_bind, hst]
    show (storeCells ⟨b, 0, none⟩ rest (i + 1)).run P (w.setCell ⟨b, i, none⟩ v) = _
    rw [ih, setCell_row hc, setRow_setRow]
    rfl

theorem run_storeVar_of (P : Program) (w : World) (t : TypeId) (b n : Nat) (cs : Array Value) (hs : (sizeOf t).run P w = .ok n w) :
    (storeVar t ⟨b, 0, none⟩ (.agg cs)).run P w = match rowOf w b with
      | some c => if c.size = n ∧ cs.size = n ∧ n ≠ 0 ∧ cs.toList.all Value.oneCell' = true then .ok () (setRow w b cs) else (slow (storeVar t ⟨b, 0, none⟩ (.agg cs))).run P w
      | none => (slow (storeVar t ⟨b, 0, none⟩ (.agg cs))).run P w := by
  split
  · rename_i c hc
    split
    · rename_i h
      obtain ⟨h1, h2, h3, h4⟩ := h
      have hr := run_storeCells_row P b cs.toList 0 w c hc (by simp; omega) (List.all_eq_true.1 h4)
      rw [putFrom_all (by omega)] at hr
      simp only [storeVar, Sem.run_bind, hs, Result.andThen, Value.cells, h2]
      simp only [ne_eq, not_true, if_false]
      exact hr
    · rfl
  · rfl
end Go.Proofs.Ytdgnblkoohakeaa
