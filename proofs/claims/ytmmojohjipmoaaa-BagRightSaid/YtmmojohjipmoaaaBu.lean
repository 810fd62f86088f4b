/- bag.turned: each item as often less as it was there -/
import Derived.Test.YtmmojohjipmoaaaBr
import Derived.Test.YtmmojohjipmoaaaRowSet
namespace Go.Proofs.Ytmmojohjipmoaaa
open Go.RowKit
set_option linter.unusedVariables false
set_option linter.unusedSimpArgs false

def in64 (xs : List IV) : Prop := ∀ c ∈ xs, -9223372036854775808 ≤ c.n ∧ c.n ≤ 9223372036854775807
def negN (n : Int) : Int := if n = -9223372036854775808 then -9223372036854775808 else -n
def negI (c : IV) : IV := ⟨c.t, negN c.n⟩
theorem wrap_neg {n : Int} (h : -9223372036854775808 ≤ n ∧ n ≤ 9223372036854775807) : IntKind.i64.wrap (-n) = negN n := by
  unfold negN
  rw [IntKind.wrap_i64]
  split <;> omega
theorem neg_cells {xs : List IV} {k : Nat} (hk : k < xs.length) {f : Nat → Value} (hf : ∀ i, i < k * 3 → (RI.cells ((xs.take k).map negI))[i]? = some (f i)) (v0 v1 v2 : Value)
    (e0 : v0 = .int .i64 (xs[k]!).t.k) (e1 : v1 = .int .i64 (xs[k]!).t.v) (e2 : v2 = .int .i64 (negN (xs[k]!).n)) :
    ∀ i, i < (k + 1) * 3 → (RI.cells ((xs.take (k + 1)).map negI))[i]? = some (if i = k * 3 + 2 then v2 else if i = k * 3 + 1 then v1 else if i = k * 3 then v0 else f i) := by
  intro i hi
  have hl : (RI.cells ((xs.take k).map negI)).length = k * 3 := by
    rw [RI.cells_len, List.length_map, List.length_take]
    show min k xs.length * 3 = _
    rw [Nat.min_eq_left (Nat.le_of_lt hk)]
  rw [take_getA xs k hk, List.map_append, RI.cells_append]
  by_cases h : i < k * 3
  · rw [List.getElem?_append_left (by omega), hf i h, if_neg (by omega), if_neg (by omega), if_neg (by omega)]
  · rw [List.getElem?_append_right (by omega), hl]
    subst e0; subst e1; subst e2
    have h3 : i = k * 3 ∨ i = k * 3 + 1 ∨ i = k * 3 + 2 := by omega
    rcases h3 with rfl | rfl | rfl
    · rw [if_neg (by omega), if_neg (by omega), if_pos rfl, Nat.sub_self]; rfl
    · rw [if_neg (by omega), if_pos rfl, show k * 3 + 1 - k * 3 = 1 by omega]; rfl
    · rw [if_pos rfl, show k * 3 + 2 - k * 3 = 2 by omega]; rfl
set_option maxRecDepth 100000 in
set_option maxHeartbeats 4000000 in
theorem turned_row (xs : List IV) (b off cap : Nat) (w : World) (hl : xs.length ≤ 900000) (h64 : in64 xs) (hb : b < w.heap.size) (hr : RI.Row w b off xs) :
    Calls Try.prog 30 #[.slice (some ⟨b, off, none⟩) xs.length cap] w (RI.Made (xs.map negI) w) := by
  have hrow : Hid (∀ (W : World), Below w.heap.size w W → ∀ j, j < xs.length → _) := fun W hW j hj => atI (hr.below hW hb) j hj
  clear hr
  have H64 : Hid (∀ j, j < xs.length → IntKind.i64.wrap (-(xs[j]!).n) = negN (xs[j]!).n) := fun j hj => wrap_neg (h64 _ (by rw [getElem!_pos xs j hj]; exact List.getElem_mem hj))
  clear h64
  generalize hn : xs.length = n at hl hrow H64
  have HN := Lib.hid hn
  clear hn
  have hmk := fun W => run_make_rows (P := Try.prog) (t := RI.tS) RI.under RI.info RI.byt n (by omega) W
  have hmk : ∀ W : World, (Instr.makeSlice 22 (.int .i64 (n : Int)) (.int .i64 (n : Int))).run Try.prog W = .ok (.slice (some ⟨W.heap.size, 0, none⟩) n n) (W.alloc (.cells (madeCells #[.int .i64 0, .int .i64 0, .int .i64 0] (n * 3)) 43)) := hmk
  go_enter Try.func30, Try.ntmps30
  go_wp2
  go_loopg [11] n (fun gg i wr => ∃ (k : Nat) (f : Nat → Value), k ≤ n ∧ n - k ≤ gg ∧ i = .int .i64 k ∧ Hid (Below w.heap.size w wr) ∧ Hid (wr.rowIs w.heap.size 43 (n * 3) f) ∧ Hid (∀ i, i < k * 3 → (RI.cells ((xs.take k).map negI))[i]? = some (f i)))
  case atStart =>
    obtain ⟨f, hf⟩ := rowIs_made (w := w) #[.int .i64 0, .int .i64 0, .int .i64 0] (n * 3) 43
    exact ⟨0, f, Nat.zero_le _, by omega, rfl, (Below.refl _ _).alloc (Nat.le_refl _) _, hf, fun i hi => by omega⟩
  case round =>
    clear hmk
    obtain ⟨k, f, hkn, hg, rfl, HB, HR, HF⟩ := hrel
    by_cases hlt : k < n
    · have hlz : (k : Int) < (n : Int) := by omega
      have hc := hrow.out wr HB.out k hlt
      have hw := H64.out k hlt
      have hnext := fun v0 v1 v2 => neg_cells (xs := xs) (k := k) (by rw [HN.out]; exact hlt) HF.out v0 v1 v2
      generalize xs[k]! = c at hc hnext hw
      obtain ⟨t, m⟩ := c
      obtain ⟨e0, e1, e2⟩ := hc
      simp only at e0 e1 e2 hnext hw
      have HNext := Lib.hid (hnext _ _ _ rfl rfl rfl)
      have hz := HB.out.size
      have hrl := HR.out.lt
      generalize ho : k * 3 = o at HNext e0 e1 e2
      have ho2 : o + 2 < n * 3 := by omega
      have s0 := HR.out.cell (i := o) (by omega)
      have s1 := HR.out.cell (i := o + 1) (by omega)
      have s2 := HR.out.cell (i := o + 2) (by omega)
      have q0 := HR.out.frozen o
      have q1 := HR.out.frozen (o + 1)
      have q2 := HR.out.frozen (o + 2)
      have hne : w.heap.size ≠ wr.heap.size := Nat.ne_of_lt hrl
      have HRS := Lib.hid ((((HR.out.set o (.int .i64 t.k)).set (o + 1) (.int .i64 t.v)).set (o + 2) (.int .i64 (negN m))).alloc (.cells #[.int .i64 t.k, .int .i64 t.v, .int .i64 m] 43))
      have HBS := Lib.hid ((((HB.out.setCell (p := ⟨w.heap.size, o, none⟩) (Nat.le_refl _) (.int .i64 t.k)).setCell (p := ⟨w.heap.size, o + 1, none⟩) (Nat.le_refl _) (.int .i64 t.v)).setCell (p := ⟨w.heap.size, o + 2, none⟩) (Nat.le_refl _) (.int .i64 (negN m))).alloc (by simp; omega) (.cells #[.int .i64 t.k, .int .i64 t.v, .int .i64 m] 43))
      clear hnext hrow H64 HR HB HF
      go_wp2
      go_roundg (n - (k + 1))
      case measure => omega
      case rel =>
        refine ⟨k + 1, _, by omega, by omega, by go_num, HBS.out, HRS.out, ?_⟩
        show ∀ i, _
        exact HNext.out
    · have hlz : ¬ (k : Int) < (n : Int) := by omega
      have : k = n := by omega
      subst this
      have HO : Hid (RI.Own w.heap.size wr (.slice (some ⟨w.heap.size, 0, none⟩) k k) (xs.map negI)) := by
        have h := HF.out
        rw [List.take_of_length_le (by rw [HN.out]; exact Nat.le_refl _)] at h
        exact RowKind.Own.of_rowIs HR.out (Nat.le_refl _) (by rw [List.length_map]; exact HN.out) (by omega) h
      clear HF HR hrow H64
      go_wp2
      go_returns
      exact ⟨_, rfl, HO.out, HB.out⟩
end Go.Proofs.Ytmmojohjipmoaaa
