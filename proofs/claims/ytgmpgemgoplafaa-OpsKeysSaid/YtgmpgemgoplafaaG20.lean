/- what a round of Apply's loop keeps: all cells but two boxes and the row that the second one holds -/
import Derived.Test.YtgmpgemgoplafaaG18
import Derived.Test.YtgmpgemgoplafaaG19
import Derived.Shelf.Abstract
import Derived.Shelf.RegionOpen
import Derived.WalkKit
import Derived.OwnWalkIn
import Derived.TacticsInMore
import Derived.LoopNIn
import Derived.LoopIn
namespace Go.Proofs.Ytgmpgemgoplafaa
open Go.RowKit Go.Shelf
set_option linter.unusedVariables false
set_option linter.unusedSimpArgs false

def encO (x : RV × Int) : Array Value := #[x.1.val, .int .i64 x.2]
/-- the block of the row that a box holds -/
def rowPtr (w : World) (Bl : Nat) : Option Nat := match w.cell? ⟨Bl, 0, none⟩ with
  | some v => v.ownBlock
  | none => none
theorem rowPtr_eq {w w' : World} {Bl : Nat} (h : w'.heap[Bl]? = w.heap[Bl]?) : rowPtr w' Bl = rowPtr w Bl := by
  unfold rowPtr World.cell?
  simp only [h]
/-- a world in which all cells lie as they lay, but those of box Br, of box Bl and of the row that Bl holds; and Bl holds the same row or a new one -/
structure KpL (Br Bl : Nat) (A B : World) : Prop where
  os : B.os = A.os
  tape : B.tape = A.tape
  output : B.output = A.output
  size : A.heap.size ≤ B.heap.size
  same : ∀ (j : Nat) (o : Obj), A.heap[j]? = some o → o.isCells = true → j ≠ Br → j ≠ Bl → rowPtr A Bl ≠ some j → B.heap[j]? = some o
  ptr : rowPtr B Bl = rowPtr A Bl ∨ ∀ g, rowPtr B Bl = some g → A.heap.size ≤ g
  lt : (∀ g, rowPtr A Bl = some g → g < A.heap.size) → ∀ g, rowPtr B Bl = some g → g < B.heap.size
theorem KpL.refl (Br Bl : Nat) (A : World) : KpL Br Bl A A := ⟨rfl, rfl, rfl, Nat.le_refl _, fun _ _ h _ _ _ _ => h, .inl rfl, fun h => h⟩
theorem KpL.trans {Br Bl : Nat} {A B C : World} (h : KpL Br Bl A B) (k : KpL Br Bl B C) : KpL Br Bl A C := by
  refine ⟨k.os.trans h.os, k.tape.trans h.tape, k.output.trans h.output, Nat.le_trans h.size k.size, fun j o hj hc h1 h2 h3 => ?_, ?_, fun q => k.lt (h.lt q)⟩
  · refine k.same j o (h.same j o hj hc h1 h2 h3) hc h1 h2 fun e => ?_
    have hlt : j < A.heap.size := (Array.getElem?_eq_some_iff.1 hj).1
    rcases h.ptr with q | q
    · exact h3 (q ▸ e)
    · have := q j e; omega
  · rcases k.ptr with q | q
    · rcases h.ptr with r | r
      · exact .inl (q.trans r)
      · exact .inr fun g hg => r g (q ▸ hg)
    · exact .inr fun g hg => Nat.le_trans h.size (q g hg)
/-- what is no cells may be turned -/
theorem KpL.putObj {Br Bl : Nat} (W : World) (l : Nat) (o o' : Obj) (h : W.heap[l]? = some o) (ho : o.isCells = false) (hl : l ≠ Bl) : KpL Br Bl W (W.putObj l o') := by
  have hg := grownBy_putObj' W l o'
  have hp : rowPtr (W.putObj l o') Bl = rowPtr W Bl := by
    by_cases hB : Bl < W.heap.size
    · exact rowPtr_eq (hg.block Bl hB (fun e => hl (by cases e; rfl)))
    · have h1 : W.heap[Bl]? = none := by simp; omega
      have h2 : (W.putObj l o').heap[Bl]? = none := by
        have : (W.putObj l o').heap.size = W.heap.size := by simp [World.putObj]
        simp; omega
      exact rowPtr_eq (h2.trans h1.symm)
  refine ⟨hg.os, hg.tape, hg.output, hg.size, fun j ob hj hc _ _ _ => ?_, .inl hp, fun q g e => ?_⟩
  · refine (hg.block j (Array.getElem?_eq_some_iff.1 hj).1 fun e => ?_).trans hj
    cases e
    rw [h] at hj
    cases hj
    rw [ho] at hc
    cases hc
  · rw [hp] at e
    exact Nat.lt_of_lt_of_le (q g e) hg.size
/-- new blocks: what lies below stays -/
theorem KpL.of_below {Br Bl : Nat} {A B : World} (h : Below A.heap.size A B) (hl : Bl < A.heap.size) : KpL Br Bl A B := by
  have hp : rowPtr B Bl = rowPtr A Bl := rowPtr_eq (h.block Bl hl)
  refine ⟨h.os, h.tape, h.output, h.size, fun j o hj _ _ _ _ => (h.block j (Array.getElem?_eq_some_iff.1 hj).1).trans hj, .inl hp, fun q g e => ?_⟩
  rw [hp] at e
  exact Nat.lt_of_lt_of_le (q g e) h.size
/-- a block of cells of one's own is kept, where it is none of the three -/
theorem KpL.keep {Br Bl : Nat} {A B : World} (h : KpL Br Bl A B) {k : Nat} {c : Array Value} {t : TypeId} (hk : A.heap[k]? = some (.cells c t (0, 0))) (h1 : k ≠ Br) (h2 : k ≠ Bl) (h3 : rowPtr A Bl ≠ some k) : B.heap[k]? = some (.cells c t (0, 0)) :=
  h.same k _ hk rfl h1 h2 h3
/-- and it is none of the three behind the round, too -/
theorem KpL.apart {Br Bl : Nat} {A B : World} (h : KpL Br Bl A B) {k : Nat} (hk : k < A.heap.size) (h3 : rowPtr A Bl ≠ some k) : rowPtr B Bl ≠ some k := fun e => by
  rcases h.ptr with q | q
  · exact h3 (q ▸ e)
  · have := q k e; omega
end Go.Proofs.Ytgmpgemgoplafaa
/- what comes of an operator that takes its records one by one, as an iterator: ofEach's closure -/
namespace Go.Proofs.Ytgmpgemgoplafaa
open Go.RowKit Go.Shelf
attribute [local go_sem] Oper.semAt_some
set_option linter.unusedVariables false
set_option linter.unusedSimpArgs false

def pairP (n : Int) (L : List RV) : List (RV × Int) := L.map fun r => (r, n)
def oftenO (k : Int) (c : IV) : Int := if k = 8 then 1 else c.n
def eachP (k arg : Int) (p : List NV) (b : List IV) : List (RV × Int) := b.flatMap fun c => pairP (oftenO k c) (oneO k arg p c.t)
theorem KpL.own {Br Bl B0 : Nat} {A B : World} (h : KpL Br Bl A B) {v : Value} {L : List RV} (ho : RR.Own B0 A v L) (ha : ∀ g, v.ownBlock = some g → g ≠ Br ∧ g ≠ Bl ∧ rowPtr A Bl ≠ some g) : RR.Own B0 B v L := by
  obtain ⟨h1, ⟨rfl, h0⟩ | ⟨g, cap, cur, rfl, hB, hg, rest⟩⟩ := ho
  · exact ⟨h1, .inl ⟨rfl, h0⟩⟩
  · have q := ha g rfl
    exact ⟨h1, .inr ⟨g, cap, cur, rfl, hB, h.keep hg q.1 q.2.1 q.2.2, rest⟩⟩
theorem eachP_succ {k arg : Int} {p : List NV} {xs : List IV} {j : Nat} (hj : j < xs.length) : eachP k arg p (xs.take (j + 1)) = eachP k arg p (xs.take j) ++ pairP (oftenO k xs[j]!) (oneO k arg p xs[j]!.t) := by
  rw [take_getA xs j hj]
  simp [eachP]
theorem pairP_succ {n : Int} {L : List RV} {m : Nat} (hm : m < L.length) : pairP n (L.take (m + 1)) = pairP n (L.take m) ++ [(L[m]!, n)] := by
  rw [take_getA L m hm]
  simp [pairP]
theorem eachP_prefix {k arg : Int} {p : List NV} {xs : List IV} {j m : Nat} (hj : j < xs.length) : (eachP k arg p (xs.take j) ++ pairP (oftenO k xs[j]!) ((oneO k arg p xs[j]!.t).take m)) <+: eachP k arg p xs := by
  have h1 : eachP k arg p xs = eachP k arg p (xs.take (j + 1)) ++ eachP k arg p (xs.drop (j + 1)) := by
    unfold eachP
    rw [← List.flatMap_append, List.take_append_drop]
  rw [h1, eachP_succ hj]
  have h2 : pairP (oftenO k xs[j]!) (oneO k arg p xs[j]!.t) = pairP (oftenO k xs[j]!) ((oneO k arg p xs[j]!.t).take m) ++ pairP (oftenO k xs[j]!) ((oneO k arg p xs[j]!.t).drop m) := by
    unfold pairP
    rw [← List.map_append, List.take_append_drop]
  rw [h2, List.append_assoc, List.append_assoc]
  exact ⟨_, (List.append_assoc _ _ _)⟩
theorem own_rowR {B g off n cap : Nat} {w : World} {L : List RV} (h : RR.Own B w (.slice (some ⟨g, off, none⟩) n cap) L) : RR.Row w g off L ∧ n = L.length := by
  have hl : n = L.length := by
    obtain ⟨_, ⟨e, _⟩ | ⟨g', cap', cur, e, _⟩⟩ := h
    · cases e
    · cases e; rfl
  refine ⟨?_, hl⟩
  rcases h.is with ⟨e, _⟩ | ⟨_, b, o, cap', e, hb, hr⟩
  · intro j hj; rw [e] at hj; exact absurd hj (Nat.not_lt_zero _)
  · cases e
    exact hr
theorem cell_in {w : World} {b i : Nat} {v : Value} (h : w.cell? ⟨b, i, none⟩ = some v) : b < w.heap.size := by
  rcases Nat.lt_or_ge b w.heap.size with q | q
  · exact q
  · unfold World.cell? at h
    have e : w.heap[b]? = none := by simp; omega
    simp [e] at h
end Go.Proofs.Ytgmpgemgoplafaa
