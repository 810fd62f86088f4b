/- a row that is made at its full length and then filled -/
import Derived.Test.YtbjecaajeokdoaaRow
import Derived.Laws.MakeOwn
namespace Go.Proofs.Ytbjecaajeokdoaa
open Go.RowKit
set_option linter.unusedVariables false
set_option linter.unusedSimpArgs false

theorem RowKind.Own.of_rowIs {α : Type} {R : RowKind α} {B g n : Nat} {w : World} {f : Nat → Value} {xs : List α} (h : w.rowIs g R.tE (n * R.k) f) (hB : B ≤ g) (hn : xs.length = n) (hm : n ≤ 1000000)
    (hf : ∀ i, i < n * R.k → (R.cells xs)[i]? = some (f i)) : R.Own B w (.slice (some ⟨g, 0, none⟩) n n) xs := by
  obtain ⟨c, hb, hs, hc⟩ := h
  subst hn
  refine ⟨R.cells_len xs, .inr ⟨g, xs.length, c, rfl, hB, hb, Nat.le_refl _, by unfold maxLen; omega, hs, ?_⟩⟩
  refine List.ext_getElem? fun i => ?_
  rw [List.getElem?_take]
  split
  · rename_i hi
    rw [hf i hi, ← hc i hi]
    simp
  · rename_i hi
    rw [List.getElem?_eq_none (by rw [R.cells_len]; omega)]
theorem run_make_rows {P : Program} {t e : TypeId} {z : Value} {size bytes : Nat} (ht : P.underlying t = some (.slice e)) (hinfo : (P.info? e).map (fun i => (i.zero, i.size, i.bytes)) = some (some z, size, bytes)) (hb : bytes ≤ 1000)
    (n : Nat) (hn : n ≤ 1000000) (w : World) :
    (Instr.makeSlice t (.int .i64 (n : Int)) (.int .i64 (n : Int))).run P w = .ok (.slice (some ⟨w.heap.size, 0, none⟩) n n) (w.alloc (.cells (madeCells z.cells (n * size)) e)) := by
  obtain ⟨i, hi, hz0, hz1, hz2⟩ := info_parts hinfo
  subst hz1
  have hbb : i.bytes * n ≤ 1000 * 1000000 := Nat.mul_le_mul (by omega) hn
  have hr := run_make (P := P) w t e i z ht hi hz0 .i64 .i64 n n (by omega) (Int.le_refl _) (by rw [← Int.natCast_mul]; omega) (by omega)
  simpa using hr
theorem rowIs_made {w : World} (z : Array Value) (n : Nat) (t : TypeId) : ∃ f, (w.alloc (.cells (madeCells z n) t)).rowIs w.heap.size t n f := by
  refine ⟨fun i => (madeCells z n)[i]!, ?_⟩
  have h := World.rowIs_alloc w (madeCells z n) t (fun i => (madeCells z n)[i]!) (fun i hi => by rw [getElem!_pos (madeCells z n) i hi]; exact Array.getElem?_eq_getElem hi)
  rw [size_madeCells] at h
  exact h
end Go.Proofs.Ytbjecaajeokdoaa
