import Derived.Test.YtgmpgemgoplafaaG03
import Derived.Laws.Cover3
import Derived.Test.YtgmpgemgoplafaaG02
import Derived.Laws.MakeOwn
import Derived.Test.YtgmpgemgoplafaaG06
import Derived.Test.YtgmpgemgoplafaaG39
namespace Go.Proofs.Ytgmpgemgoplafaa
open Go.RowKit
set_option linter.unusedVariables false
set_option linter.unusedSimpArgs false

theorem eqNilI (a : Option Addr) (l c : Nat) (w : World) : (binOp .eql 28 (.slice a l c) (.slice none 0 0)).run Try.prog w = .ok (.bool a.isNone) w := by
  simp only [binOp]
  simp [run_equal_slice_nil w _ _ a l c Try.underlying28]
attribute [local go_sem ↓] eqNilI
/-- a slice of which no more is known than that it is read -/
def AnsI (xs : List IV) (w : World) (e : Ending) (w' : World) : Prop := ∃ v, e = .returned v ∧ RI.Is w' v xs ∧ capOk v ∧ Below w.heap.size w w'
theorem ownCapI {B : Nat} {w : World} {v : Value} {xs : List IV} (h : RI.Own B w v xs) : capOk v := by
  obtain ⟨_, ⟨rfl, _⟩ | ⟨g, cap, cur, rfl, _, _, hle, _⟩⟩ := h
  · intro p n c e; cases e; exact Nat.le_refl _
  · intro p n c e; cases e; exact hle
theorem MadeI.ans {xs : List IV} {w : World} {e : Ending} {w' : World} (h : RI.Made xs w e w') : AnsI xs w e w' := by
  obtain ⟨v, h1, h2, h3⟩ := h
  exact ⟨v, h1, h2.is, ownCapI h2, h3⟩
set_option maxRecDepth 100000 in
set_option maxHeartbeats 4000000 in
theorem bclone_any (xs : List IV) (v : Value) (w : World) (hl : xs.length ≤ 900000) (h : RI.Is w v xs) : Calls Try.prog 22 #[v] w (AnsI xs w) := by
  obtain ⟨p, c, rfl⟩ := h.slice
  have HI := Lib.hid h
  cases p with
  | none =>
    have hx : xs = [] ∧ c = 0 := by
      rcases h with ⟨hx, q, d, e, hq⟩ | ⟨_, b, off, cap, e, _⟩
      · simp only [Value.slice.injEq] at e
        obtain ⟨rfl, _, rfl⟩ := e
        exact ⟨hx, hq rfl⟩
      · cases e
    obtain ⟨rfl, rfl⟩ := hx
    clear h HI
    show Calls _ _ #[.slice none 0 0] _ _
    clear hl
    go_enter Try.func22, Try.ntmps22
    go_wp2
    go_returns
    exact ⟨_, rfl, RowKind.Is.nil _, fun p n c e => by cases e; exact Nat.le_refl _, Below.refl _ _⟩
  | some ad =>
    clear h
    have HO := Lib.hid (show RI.Own w.heap.size (w.alloc (.cells #[] 43)) (.slice (some ⟨w.heap.size, 0, none⟩) 0 0) [] from World.ownsRow_made w #[] 0 (Nat.le_refl _) (Nat.zero_le _) rfl)
    have HB := Lib.hid ((Below.refl w.heap.size w).alloc (Nat.le_refl _) (.cells #[] 43))
    have HL : Hid (([] : List IV).length + xs.length ≤ 1000000) := by show _ ≤ _; simp; omega
    have HZ := Lib.hid HB.out.size
    have HI2 := Lib.hid (HI.out.below HB.out)
    generalize xs.length = n at HI HI2 ⊢
    go_enter Try.func22, Try.ntmps22
    go_wp2_with (at_builtin; refine RowKind.Own.appendAny (R := RI) (ys := xs) HO.out HB.out HZ.out rfl _ _ rfl rfl rfl HI2.out HL.out ?_; intro v2 w2 hO2 hB2 hz2)
    have HO2 := Lib.hid hO2; have HB2 := Lib.hid hB2
    go_returns
    exact ⟨_, rfl, HO2.out.is, ownCapI HO2.out, HB2.out⟩
end Go.Proofs.Ytgmpgemgoplafaa
/- a row that is made at its full length and then filled -/
namespace Go.Proofs.Ytgmpgemgoplafaa
open Go.RowKit
set_option linter.unusedVariables false
set_option linter.unusedSimpArgs false

theorem RowKind.Own.of_rowIs {α : Type} {R : RowKind α} {B g n : Nat} {w : World} {f : Nat → Value} {xs : List α} (h : w.rowIs g R.tE (n * R.k) f) (hB : B ≤ g) (hn : xs.length = n) (hm : n ≤ 1000000)
    (hf : ∀ i, i < n * R.k → (R.cells xs)[i]? = some (f i)) : R.Own B w (.slice (some ⟨g, 0, none⟩) n n) xs := by
  obtain ⟨c, hb, hs, hc⟩ := h
  subst hn
  refine ⟨R.cells_len xs, .inr ⟨g, xs.length, c, rfl, hB, hb, Nat.le_refl _, by unfold maxLen; omega, hs, ?_⟩⟩
  refine List.ext_getElem? fun i => ?_
  rw [List.getElem?_take]
  split
  · rename_i hi
    rw [hf i hi, ← hc i hi]
    simp
  · rename_i hi
    rw [List.getElem?_eq_none (by rw [R.cells_len]; omega)]
theorem run_make_rows {P : Program} {t e : TypeId} {z : Value} {size bytes : Nat} (ht : P.underlying t = some (.slice e)) (hinfo : (P.info? e).map (fun i => (i.zero, i.size, i.bytes)) = some (some z, size, bytes)) (hb : bytes ≤ 1000)
    (n : Nat) (hn : n ≤ 1000000) (w : World) :
    (Instr.makeSlice t (.int .i64 (n : Int)) (.int .i64 (n : Int))).run P w = .ok (.slice (some ⟨w.heap.size, 0, none⟩) n n) (w.alloc (.cells (madeCells z.cells (n * size)) e)) := by
  obtain ⟨i, hi, hz0, hz1, hz2⟩ := info_parts hinfo
  subst hz1
  have hbb : i.bytes * n ≤ 1000 * 1000000 := Nat.mul_le_mul (by omega) hn
  have hr := run_make (P := P) w t e i z ht hi hz0 .i64 .i64 n n (by omega) (Int.le_refl _) (by rw [← Int.natCast_mul]; omega) (by omega)
  simpa using hr
theorem rowIs_made {w : World} (z : Array Value) (n : Nat) (t : TypeId) : ∃ f, (w.alloc (.cells (madeCells z n) t)).rowIs w.heap.size t n f := by
  refine ⟨fun i => (madeCells z n)[i]!, ?_⟩
  have h := World.rowIs_alloc w (madeCells z n) t (fun i => (madeCells z n)[i]!) (fun i hi => by rw [getElem!_pos (madeCells z n) i hi]; exact Array.getElem?_eq_getElem hi)
  rw [size_madeCells] at h
  exact h
end Go.Proofs.Ytgmpgemgoplafaa
/- bag.turned: each item as often less as it was there -/
namespace Go.Proofs.Ytgmpgemgoplafaa
open Go.RowKit
set_option linter.unusedVariables false
set_option linter.unusedSimpArgs false

def in64 (xs : List IV) : Prop := ∀ c ∈ xs, -9223372036854775808 ≤ c.n ∧ c.n ≤ 9223372036854775807
def negN (n : Int) : Int := if n = -9223372036854775808 then -9223372036854775808 else -n
def negI (c : IV) : IV := ⟨c.t, negN c.n⟩
theorem wrap_neg {n : Int} (h : -9223372036854775808 ≤ n ∧ n ≤ 9223372036854775807) : IntKind.i64.wrap (-n) = negN n := by
  unfold negN
  rw [IntKind.wrap_i64]
  split <;> omega
theorem neg_cells {xs : List IV} {k : Nat} (hk : k < xs.length) {f : Nat → Value} (hf : ∀ i, i < k * 3 → (RI.cells ((xs.take k).map negI))[i]? = some (f i)) (v0 v1 v2 : Value)
    (e0 : v0 = .int .i64 (xs[k]!).t.k) (e1 : v1 = .int .i64 (xs[k]!).t.v) (e2 : v2 = .int .i64 (negN (xs[k]!).n)) :
    ∀ i, i < (k + 1) * 3 → (RI.cells ((xs.take (k + 1)).map negI))[i]? = some (if i = k * 3 + 2 then v2 else if i = k * 3 + 1 then v1 else if i = k * 3 then v0 else f i) := by
  intro i hi
  have hl : (RI.cells ((xs.take k).map negI)).length = k * 3 := by
    rw [RI.cells_len, List.length_map, List.length_take]
    show min k xs.length * 3 = _
    rw [Nat.min_eq_left (Nat.le_of_lt hk)]
  rw [take_getA xs k hk, List.map_append, RI.cells_append]
  by_cases h : i < k * 3
  · rw [List.getElem?_append_left (by omega), hf i h, if_neg (by omega), if_neg (by omega), if_neg (by omega)]
  · rw [List.getElem?_append_right (by omega), hl]
    subst e0; subst e1; subst e2
    have h3 : i = k * 3 ∨ i = k * 3 + 1 ∨ i = k * 3 + 2 := by omega
    rcases h3 with rfl | rfl | rfl
    · rw [if_neg (by omega), if_neg (by omega), if_pos rfl, Nat.sub_self]; rfl
    · rw [if_neg (by omega), if_pos rfl, show k * 3 + 1 - k * 3 = 1 by omega]; rfl
    · rw [if_pos rfl, show k * 3 + 2 - k * 3 = 2 by omega]; rfl
end Go.Proofs.Ytgmpgemgoplafaa
namespace Go.Proofs.Ytgmpgemgoplafaa
open Go.RowKit
set_option linter.unusedVariables false
set_option linter.unusedSimpArgs false

theorem AnsI.mono {xs : List IV} {w W : World} {e : Ending} {w' : World} (h : AnsI xs W e w') (hb : Below w.heap.size w W) : AnsI xs w e w' := by
  obtain ⟨v, h1, h2, h3, h4⟩ := h
  exact ⟨v, h1, h2, h3, hb.trans (h4.mono hb.size)⟩
theorem inN_of {xs : List IV} (h : rightI xs = true) : inN xs := fun c hc => by
  have := (IV.ok_iff c).1 (((rightI_iff xs).1 h).1 c hc)
  exact this.2
set_option maxRecDepth 100000 in
set_option maxHeartbeats 4000000 in
theorem bplus_any (xs ys : List IV) (va vb : Value) (w : World) (hl : xs.length ≤ 400000) (hm : ys.length ≤ 400000) (ca : capOk va) (cb : capOk vb) (ha : RI.Is w va xs) (hb : RI.Is w vb ys) :
    Calls Try.prog 11 #[va, vb] w (AnsI (plusI xs ys) w) := by
  have HA := Lib.hid ha; have HB := Lib.hid hb
  have HRA := Lib.hid (bright_any xs va w (by omega) ha)
  have HRB := Lib.hid (fun W (hW : Below w.heap.size w W) => bright_any ys vb W (by omega) (hb.below hW))
  have HC := Lib.hid (fun W (hW : Below w.heap.size w W) => bclone_any xs va W (by omega) (ha.below hW))
  have HM : Hid (rightI xs = true → rightI ys = true → ∀ W (hW : Below w.heap.size w W), Calls Try.prog 23 #[va, vb] W (RI.Made (mergedI xs ys) W)) := fun h1 h2 W hW => bmerged_any xs ys va vb W hl hm (inN_of h1) (inN_of h2) ca cb (ha.below hW) (hb.below hW)
  have h1 : rightI xs = false → plusI xs ys = xs := fun h => by unfold plusI; rw [if_neg (by rw [h]; simp)]
  have h2 : rightI ys = false → plusI xs ys = xs := fun h => by unfold plusI; rw [if_neg (by rw [h]; simp)]
  have h3 : rightI xs = true → rightI ys = true → plusI xs ys = mergedI xs ys := fun h k => by unfold plusI; rw [if_pos ⟨h, k⟩]
  obtain ⟨p, c, rfl⟩ := ha.slice
  obtain ⟨q, d, rfl⟩ := hb.slice
  clear ha hb ca cb HA HB
  generalize plusI xs ys = res at h1 h2 h3 ⊢
  generalize rightI xs = b1 at *
  generalize rightI ys = b2 at *
  generalize mergedI xs ys = mm at *
  generalize xs.length = n1 at *
  generalize ys.length = n2 at *
  have H1 := Lib.hid h1; have H2 := Lib.hid h2; have H3 := Lib.hid h3
  clear h1 h2 h3
  go_enter Try.func11, Try.ntmps11
  go_wp2_with fail
  refine (HRA.out).mono ?_
  rintro e w1 ⟨rfl, hb1⟩
  have HB1 := Lib.hid hb1
  clear hb1 HRA
  cases b1
  · go_wp2_with fail
    refine (HC.out _ HB1.out).mono ?_
    rintro e w2 ⟨v, rfl, hI, hC, hb2⟩
    have HX : Hid (AnsI res w (.returned v) w2) := ⟨v, rfl, by rw [H1.out (by trivial)]; exact hI, hC, HB1.out.trans (hb2.mono HB1.out.size)⟩
    clear hI hC hb2
    go_wp2
    go_returns
    exact HX.out
  · go_wp2_with fail
    refine (HRB.out _ HB1.out).mono ?_
    rintro e w2 ⟨rfl, hb2⟩
    have HB2 := Lib.hid (HB1.out.trans (hb2.mono HB1.out.size))
    clear hb2 HRB
    cases b2
    · go_wp2_with fail
      refine (HC.out _ HB2.out).mono ?_
      rintro e w3 ⟨v, rfl, hI, hC, hb3⟩
      have HX : Hid (AnsI res w (.returned v) w3) := ⟨v, rfl, by rw [H2.out (by trivial)]; exact hI, hC, HB2.out.trans (hb3.mono HB2.out.size)⟩
      clear hI hC hb3
      go_wp2
      go_returns
      exact HX.out
    · have HM2 := Lib.hid (HM.out (by trivial) (by trivial))
      clear HM
      go_wp2_with fail
      refine (HM2.out _ HB2.out).mono ?_
      rintro e w3 ⟨v, rfl, hO, hb3⟩
      have HX : Hid (AnsI res w (.returned v) w3) := ⟨v, rfl, by rw [H3.out (by trivial) (by trivial)]; exact hO.is, ownCapI hO, HB2.out.trans (hb3.mono HB2.out.size)⟩
      clear hO hb3
      go_wp2
      go_returns
      exact HX.out
def minusI (a b : List IV) : List IV := plusI a (b.map negI)
end Go.Proofs.Ytgmpgemgoplafaa
