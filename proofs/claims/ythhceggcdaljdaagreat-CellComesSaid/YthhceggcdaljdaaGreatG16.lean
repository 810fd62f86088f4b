import Derived.Test.YthhceggcdaljdaaGreatG02
import Derived.Laws.Cover3
import Derived.Laws.MakeOwn
import Derived.Test.YthhceggcdaljdaaGreatG03
import Derived.Test.YthhceggcdaljdaaGreatG04
import Derived.Test.YthhceggcdaljdaaGreatG15
namespace Go.Proofs.YthhceggcdaljdaaGreat
open Go.RowKit
set_option linter.unusedVariables false
set_option linter.unusedSimpArgs false

theorem eqNilI (a : Option Addr) (l c : Nat) (w : World) : (binOp .eql 37 (.slice a l c) (.slice none 0 0)).run Tryz.prog w = .ok (.bool a.isNone) w := by
  simp only [binOp]
  simp [run_equal_slice_nil w _ _ a l c Tryz.underlying37]
attribute [local go_sem ↓] eqNilI
/-- a slice of which no more is known than that it is read -/
def AnsI (xs : List IV) (w : World) (e : Ending) (w' : World) : Prop := ∃ v, e = .returned v ∧ RI.Is w' v xs ∧ capOk v ∧ Below w.heap.size w w'
theorem ownCapI {B : Nat} {w : World} {v : Value} {xs : List IV} (h : RI.Own B w v xs) : capOk v := by
  obtain ⟨_, ⟨rfl, _⟩ | ⟨g, cap, cur, rfl, _, _, hle, _⟩⟩ := h
  · intro p n c e; cases e; exact Nat.le_refl _
  · intro p n c e; cases e; exact hle
theorem MadeI.ans {xs : List IV} {w : World} {e : Ending} {w' : World} (h : RI.Made xs w e w') : AnsI xs w e w' := by
  obtain ⟨v, h1, h2, h3⟩ := h
  exact ⟨v, h1, h2.is, ownCapI h2, h3⟩
set_option maxRecDepth 100000 in
set_option maxHeartbeats 4000000 in
theorem bclone_any (xs : List IV) (v : Value) (w : World) (hl : xs.length ≤ 900000) (h : RI.Is w v xs) : Calls Tryz.prog 97 #[v] w (AnsI xs w) := by
  obtain ⟨p, c, rfl⟩ := h.slice
  have HI := Lib.hid h
  cases p with
  | none =>
    have hx : xs = [] ∧ c = 0 := by
      rcases h with ⟨hx, q, d, e, hq⟩ | ⟨_, b, off, cap, e, _⟩
      · simp only [Value.slice.injEq] at e
        obtain ⟨rfl, _, rfl⟩ := e
        exact ⟨hx, hq rfl⟩
      · cases e
    obtain ⟨rfl, rfl⟩ := hx
    clear h HI
    show Calls _ _ #[.slice none 0 0] _ _
    clear hl
    go_enter Tryz.func97, Tryz.ntmps97
    go_wp2
    go_returns
    exact ⟨_, rfl, RowKind.Is.nil _, fun p n c e => by cases e; exact Nat.le_refl _, Below.refl _ _⟩
  | some ad =>
    clear h
    have HO := Lib.hid (show RI.Own w.heap.size (w.alloc (.cells #[] 57)) (.slice (some ⟨w.heap.size, 0, none⟩) 0 0) [] from World.ownsRow_made w #[] 0 (Nat.le_refl _) (Nat.zero_le _) rfl)
    have HB := Lib.hid ((Below.refl w.heap.size w).alloc (Nat.le_refl _) (.cells #[] 57))
    have HL : Hid (([] : List IV).length + xs.length ≤ 1000000) := by show _ ≤ _; simp; omega
    have HZ := Lib.hid HB.out.size
    have HI2 := Lib.hid (HI.out.below HB.out)
    generalize xs.length = n at HI HI2 ⊢
    go_enter Tryz.func97, Tryz.ntmps97
    go_wp2_with (at_builtin; refine RowKind.Own.appendAny (R := RI) (ys := xs) HO.out HB.out HZ.out rfl _ _ rfl rfl rfl HI2.out HL.out ?_; intro v2 w2 hO2 hB2 hz2)
    have HO2 := Lib.hid hO2; have HB2 := Lib.hid hB2
    go_returns
    exact ⟨_, rfl, HO2.out.is, ownCapI HO2.out, HB2.out⟩
end Go.Proofs.YthhceggcdaljdaaGreat
/- a row that is made at its full length and then filled -/
namespace Go.Proofs.YthhceggcdaljdaaGreat
open Go.RowKit
set_option linter.unusedVariables false
set_option linter.unusedSimpArgs false

theorem RowKind.Own.of_rowIs {α : Type} {R : RowKind α} {B g n : Nat} {w : World} {f : Nat → Value} {xs : List α} (h : w.rowIs g R.tE (n * R.k) f) (hB : B ≤ g) (hn : xs.length = n) (hm : n ≤ 1000000)
    (hf : ∀ i, i < n * R.k → (R.cells xs)[i]? = some (f i)) : R.Own B w (.slice (some ⟨g, 0, none⟩) n n) xs := by
  obtain ⟨c, hb, hs, hc⟩ := h
  subst hn
  refine ⟨R.cells_len xs, .inr ⟨g, xs.length, c, rfl, hB, hb, Nat.le_refl _, by unfold maxLen; omega, hs, ?_⟩⟩
  refine List.ext_getElem? fun i => ?_
  rw [List.getElem?_take]
  split
  · rename_i hi
    rw [hf i hi, ← hc i hi]
    simp
  · rename_i hi
    rw [List.getElem?_eq_none (by rw [R.cells_len]; omega)]
theorem run_make_rows {P : Program} {t e : TypeId} {z : Value} {size bytes : Nat} (ht : P.underlying t = some (.slice e)) (hinfo : (P.info? e).map (fun i => (i.zero, i.size, i.bytes)) = some (some z, size, bytes)) (hb : bytes ≤ 1000)
    (n : Nat) (hn : n ≤ 1000000) (w : World) :
    (Instr.makeSlice t (.int .i64 (n : Int)) (.int .i64 (n : Int))).run P w = .ok (.slice (some ⟨w.heap.size, 0, none⟩) n n) (w.alloc (.cells (madeCells z.cells (n * size)) e)) := by
  obtain ⟨i, hi, hz0, hz1, hz2⟩ := info_parts hinfo
  subst hz1
  have hbb : i.bytes * n ≤ 1000 * 1000000 := Nat.mul_le_mul (by omega) hn
  have hr := run_make (P := P) w t e i z ht hi hz0 .i64 .i64 n n (by omega) (Int.le_refl _) (by rw [← Int.natCast_mul]; omega) (by omega)
  simpa using hr
theorem rowIs_made {w : World} (z : Array Value) (n : Nat) (t : TypeId) : ∃ f, (w.alloc (.cells (madeCells z n) t)).rowIs w.heap.size t n f := by
  refine ⟨fun i => (madeCells z n)[i]!, ?_⟩
  have h := World.rowIs_alloc w (madeCells z n) t (fun i => (madeCells z n)[i]!) (fun i hi => by rw [getElem!_pos (madeCells z n) i hi]; exact Array.getElem?_eq_getElem hi)
  rw [size_madeCells] at h
  exact h
end Go.Proofs.YthhceggcdaljdaaGreat
/- bag.turned: each item as often less as it was there -/
namespace Go.Proofs.YthhceggcdaljdaaGreat
open Go.RowKit
set_option linter.unusedVariables false
set_option linter.unusedSimpArgs false

def in64 (xs : List IV) : Prop := ∀ c ∈ xs, -9223372036854775808 ≤ c.n ∧ c.n ≤ 9223372036854775807
def negN (n : Int) : Int := if n = -9223372036854775808 then -9223372036854775808 else -n
def negI (c : IV) : IV := ⟨c.t, negN c.n⟩
theorem wrap_neg {n : Int} (h : -9223372036854775808 ≤ n ∧ n ≤ 9223372036854775807) : IntKind.i64.wrap (-n) = negN n := by
  unfold negN
  rw [IntKind.wrap_i64]
  split <;> omega
theorem neg_cells {xs : List IV} {k : Nat} (hk : k < xs.length) {f : Nat → Value} (hf : ∀ i, i < k * 3 → (RI.cells ((xs.take k).map negI))[i]? = some (f i)) (v0 v1 v2 : Value)
    (e0 : v0 = .int .i64 (xs[k]!).t.k) (e1 : v1 = .int .i64 (xs[k]!).t.v) (e2 : v2 = .int .i64 (negN (xs[k]!).n)) :
    ∀ i, i < (k + 1) * 3 → (RI.cells ((xs.take (k + 1)).map negI))[i]? = some (if i = k * 3 + 2 then v2 else if i = k * 3 + 1 then v1 else if i = k * 3 then v0 else f i) := by
  intro i hi
  have hl : (RI.cells ((xs.take k).map negI)).length = k * 3 := by
    rw [RI.cells_len, List.length_map, List.length_take]
    show min k xs.length * 3 = _
    rw [Nat.min_eq_left (Nat.le_of_lt hk)]
  rw [take_getA xs k hk, List.map_append, RI.cells_append]
  by_cases h : i < k * 3
  · rw [List.getElem?_append_left (by omega), hf i h, if_neg (by omega), if_neg (by omega), if_neg (by omega)]
  · rw [List.getElem?_append_right (by omega), hl]
    subst e0; subst e1; subst e2
    have h3 : i = k * 3 ∨ i = k * 3 + 1 ∨ i = k * 3 + 2 := by omega
    rcases h3 with rfl | rfl | rfl
    · rw [if_neg (by omega), if_neg (by omega), if_pos rfl, Nat.sub_self]; rfl
    · rw [if_neg (by omega), if_pos rfl, show k * 3 + 1 - k * 3 = 1 by omega]; rfl
    · rw [if_pos rfl, show k * 3 + 2 - k * 3 = 2 by omega]; rfl
set_option maxRecDepth 100000 in
set_option maxHeartbeats 4000000 in
theorem turned_row (xs : List IV) (b off cap : Nat) (w : World) (hl : xs.length ≤ 900000) (h64 : in64 xs) (hb : b < w.heap.size) (hr : RI.Row w b off xs) :
    Calls Tryz.prog 96 #[.slice (some ⟨b, off, none⟩) xs.length cap] w (RI.Made (xs.map negI) w) := by
  have hrow : Hid (∀ (W : World), Below w.heap.size w W → ∀ j, j < xs.length → _) := fun W hW j hj => atI (hr.below hW hb) j hj
  clear hr
  have H64 : Hid (∀ j, j < xs.length → IntKind.i64.wrap (-(xs[j]!).n) = negN (xs[j]!).n) := fun j hj => wrap_neg (h64 _ (by rw [getElem!_pos xs j hj]; exact List.getElem_mem hj))
  clear h64
  generalize hn : xs.length = n at hl hrow H64
  have HN := Lib.hid hn
  clear hn
  have hmk := fun W => run_make_rows (P := Tryz.prog) (t := RI.tS) RI.under RI.info RI.byt n (by omega) W
  have hmk : ∀ W : World, (Instr.makeSlice 37 (.int .i64 (n : Int)) (.int .i64 (n : Int))).run Tryz.prog W = .ok (.slice (some ⟨W.heap.size, 0, none⟩) n n) (W.alloc (.cells (madeCells #[.int .i64 0, .int .i64 0, .int .i64 0] (n * 3)) 57)) := hmk
  go_enter Tryz.func96, Tryz.ntmps96
  go_wp2
  go_loopg [11] n (fun gg i wr => ∃ (k : Nat) (f : Nat → Value), k ≤ n ∧ n - k ≤ gg ∧ i = .int .i64 k ∧ Hid (Below w.heap.size w wr) ∧ Hid (wr.rowIs w.heap.size 57 (n * 3) f) ∧ Hid (∀ i, i < k * 3 → (RI.cells ((xs.take k).map negI))[i]? = some (f i)))
  case atStart =>
    obtain ⟨f, hf⟩ := rowIs_made (w := w) #[.int .i64 0, .int .i64 0, .int .i64 0] (n * 3) 57
    exact ⟨0, f, Nat.zero_le _, by omega, rfl, (Below.refl _ _).alloc (Nat.le_refl _) _, hf, fun i hi => by omega⟩
  case round =>
    clear hmk
    obtain ⟨k, f, hkn, hg, rfl, HB, HR, HF⟩ := hrel
    by_cases hlt : k < n
    · have hlz : (k : Int) < (n : Int) := by omega
      have hc := hrow.out wr HB.out k hlt
      have hw := H64.out k hlt
      have hnext := fun v0 v1 v2 => neg_cells (xs := xs) (k := k) (by rw [HN.out]; exact hlt) HF.out v0 v1 v2
      generalize xs[k]! = c at hc hnext hw
      obtain ⟨t, m⟩ := c
      obtain ⟨e0, e1, e2⟩ := hc
      simp only at e0 e1 e2 hnext hw
      have HNext := Lib.hid (hnext _ _ _ rfl rfl rfl)
      have hz := HB.out.size
      have hrl := HR.out.lt
      generalize ho : k * 3 = o at HNext e0 e1 e2
      have ho2 : o + 2 < n * 3 := by omega
      have s0 := HR.out.cell (i := o) (by omega)
      have s1 := HR.out.cell (i := o + 1) (by omega)
      have s2 := HR.out.cell (i := o + 2) (by omega)
      have q0 := HR.out.frozen o
      have q1 := HR.out.frozen (o + 1)
      have q2 := HR.out.frozen (o + 2)
      have hne : w.heap.size ≠ wr.heap.size := Nat.ne_of_lt hrl
      have HRS := Lib.hid ((((HR.out.set o (.int .i64 t.k)).set (o + 1) (.int .i64 t.v)).set (o + 2) (.int .i64 (negN m))).alloc (.cells #[.int .i64 t.k, .int .i64 t.v, .int .i64 m] 57))
      have HBS := Lib.hid ((((HB.out.setCell (p := ⟨w.heap.size, o, none⟩) (Nat.le_refl _) (.int .i64 t.k)).setCell (p := ⟨w.heap.size, o + 1, none⟩) (Nat.le_refl _) (.int .i64 t.v)).setCell (p := ⟨w.heap.size, o + 2, none⟩) (Nat.le_refl _) (.int .i64 (negN m))).alloc (by simp; omega) (.cells #[.int .i64 t.k, .int .i64 t.v, .int .i64 m] 57))
      clear hnext hrow H64 HR HB HF
      go_wp2
      go_roundg (n - (k + 1))
      case measure => omega
      case rel =>
        refine ⟨k + 1, _, by omega, by omega, by go_num, HBS.out, HRS.out, ?_⟩
        show ∀ i, _
        exact HNext.out
    · have hlz : ¬ (k : Int) < (n : Int) := by omega
      have : k = n := by omega
      subst this
      have HO : Hid (RI.Own w.heap.size wr (.slice (some ⟨w.heap.size, 0, none⟩) k k) (xs.map negI)) := by
        have h := HF.out
        rw [List.take_of_length_le (by rw [HN.out]; exact Nat.le_refl _)] at h
        exact RowKind.Own.of_rowIs HR.out (Nat.le_refl _) (by rw [List.length_map]; exact HN.out) (by omega) h
      clear HF HR hrow H64
      go_wp2
      go_returns
      exact ⟨_, rfl, HO.out, HB.out⟩
end Go.Proofs.YthhceggcdaljdaaGreat
namespace Go.Proofs.YthhceggcdaljdaaGreat
open Go.RowKit
set_option linter.unusedVariables false
set_option linter.unusedSimpArgs false

theorem AnsI.mono {xs : List IV} {w W : World} {e : Ending} {w' : World} (h : AnsI xs W e w') (hb : Below w.heap.size w W) : AnsI xs w e w' := by
  obtain ⟨v, h1, h2, h3, h4⟩ := h
  exact ⟨v, h1, h2, h3, hb.trans (h4.mono hb.size)⟩
theorem inN_of {xs : List IV} (h : rightI xs = true) : inN xs := fun c hc => by
  have := (IV.ok_iff c).1 (((rightI_iff xs).1 h).1 c hc)
  exact this.2
set_option maxRecDepth 100000 in
set_option maxHeartbeats 4000000 in
theorem bplus_any (xs ys : List IV) (va vb : Value) (w : World) (hl : xs.length ≤ 400000) (hm : ys.length ≤ 400000) (ca : capOk va) (cb : capOk vb) (ha : RI.Is w va xs) (hb : RI.Is w vb ys) :
    Calls Tryz.prog 63 #[va, vb] w (AnsI (plusI xs ys) w) := by
  have HA := Lib.hid ha; have HB := Lib.hid hb
  have HRA := Lib.hid (bright_any xs va w (by omega) ha)
  have HRB := Lib.hid (fun W (hW : Below w.heap.size w W) => bright_any ys vb W (by omega) (hb.below hW))
  have HC := Lib.hid (fun W (hW : Below w.heap.size w W) => bclone_any xs va W (by omega) (ha.below hW))
  have HM : Hid (rightI xs = true → rightI ys = true → ∀ W (hW : Below w.heap.size w W), Calls Tryz.prog 98 #[va, vb] W (RI.Made (mergedI xs ys) W)) := fun h1 h2 W hW => bmerged_any xs ys va vb W hl hm (inN_of h1) (inN_of h2) ca cb (ha.below hW) (hb.below hW)
  have h1 : rightI xs = false → plusI xs ys = xs := fun h => by unfold plusI; rw [if_neg (by rw [h]; simp)]
  have h2 : rightI ys = false → plusI xs ys = xs := fun h => by unfold plusI; rw [if_neg (by rw [h]; simp)]
  have h3 : rightI xs = true → rightI ys = true → plusI xs ys = mergedI xs ys := fun h k => by unfold plusI; rw [if_pos ⟨h, k⟩]
  obtain ⟨p, c, rfl⟩ := ha.slice
  obtain ⟨q, d, rfl⟩ := hb.slice
  clear ha hb ca cb HA HB
  generalize plusI xs ys = res at h1 h2 h3 ⊢
  generalize rightI xs = b1 at *
  generalize rightI ys = b2 at *
  generalize mergedI xs ys = mm at *
  generalize xs.length = n1 at *
  generalize ys.length = n2 at *
  have H1 := Lib.hid h1; have H2 := Lib.hid h2; have H3 := Lib.hid h3
  clear h1 h2 h3
  go_enter Tryz.func63, Tryz.ntmps63
  go_wp2_with fail
  refine (HRA.out).mono ?_
  rintro e w1 ⟨rfl, hb1⟩
  have HB1 := Lib.hid hb1
  clear hb1 HRA
  cases b1
  · go_wp2_with fail
    refine (HC.out _ HB1.out).mono ?_
    rintro e w2 ⟨v, rfl, hI, hC, hb2⟩
    have HX : Hid (AnsI res w (.returned v) w2) := ⟨v, rfl, by rw [H1.out (by trivial)]; exact hI, hC, HB1.out.trans (hb2.mono HB1.out.size)⟩
    clear hI hC hb2
    go_wp2
    go_returns
    exact HX.out
  · go_wp2_with fail
    refine (HRB.out _ HB1.out).mono ?_
    rintro e w2 ⟨rfl, hb2⟩
    have HB2 := Lib.hid (HB1.out.trans (hb2.mono HB1.out.size))
    clear hb2 HRB
    cases b2
    · go_wp2_with fail
      refine (HC.out _ HB2.out).mono ?_
      rintro e w3 ⟨v, rfl, hI, hC, hb3⟩
      have HX : Hid (AnsI res w (.returned v) w3) := ⟨v, rfl, by rw [H2.out (by trivial)]; exact hI, hC, HB2.out.trans (hb3.mono HB2.out.size)⟩
      clear hI hC hb3
      go_wp2
      go_returns
      exact HX.out
    · have HM2 := Lib.hid (HM.out (by trivial) (by trivial))
      clear HM
      go_wp2_with fail
      refine (HM2.out _ HB2.out).mono ?_
      rintro e w3 ⟨v, rfl, hO, hb3⟩
      have HX : Hid (AnsI res w (.returned v) w3) := ⟨v, rfl, by rw [H3.out (by trivial) (by trivial)]; exact hO.is, ownCapI hO, HB2.out.trans (hb3.mono HB2.out.size)⟩
      clear hO hb3
      go_wp2
      go_returns
      exact HX.out
set_option maxRecDepth 100000 in
set_option maxHeartbeats 4000000 in
theorem badd_any (xs : List IV) (t : RV) (n : Int) (va : Value) (w : World) (hl : xs.length ≤ 400000) (ca : capOk va) (ha : RI.Is w va xs) :
    Calls Tryz.prog 49 #[va, t.val, .int .i64 n] w (AnsI (addI xs t n) w) := by
  have hall := fun (W : World) (vb : Value) (hW : Below w.heap.size w W) (cb : capOk vb) (hb : RI.Is W vb [⟨t, n⟩]) => bplus_any xs [⟨t, n⟩] va vb W hl (by simp) ca cb (ha.below hW) hb
  have HA := Lib.hid hall
  obtain ⟨p, c, rfl⟩ := ha.slice
  clear ha ca hall
  have hres : plusI xs [⟨t, n⟩] = addI xs t n := rfl
  rw [hres] at HA
  clear hres
  generalize addI xs t n = res at *
  generalize xs.length = n1 at *
  go_enter Tryz.func49, Tryz.ntmps49
  have hrow := RowKind.Row.new (R := RI) (w.alloc (.cells #[.int .i64 t.k, .int .i64 t.v] 27)) ⟨t, n⟩ 57
  rw [World.size_alloc] at hrow
  have hB := ((Below.refl w.heap.size w).alloc (Nat.le_refl _) (.cells #[.int .i64 t.k, .int .i64 t.v] 27)).alloc (by simp) (.cells #[.int .i64 t.k, .int .i64 t.v, .int .i64 n] 57)
  have hcall := HA.out _ (.slice (some ⟨w.heap.size + 1, 0, none⟩) 1 1) hB (fun p n c e => by cases e; exact Nat.le_refl _) (.inr ⟨by simp, w.heap.size + 1, 0, 1, rfl, by simp, hrow⟩)
  have HC := Lib.hid hcall; have HB := Lib.hid hB
  clear hrow hB hcall HA
  go_wp2_with fail
  refine (HC.out).mono ?_
  rintro e w1 ⟨v, rfl, hI, hcap, hb1⟩
  have HX : Hid (AnsI res w (.returned v) w1) := ⟨v, rfl, hI, hcap, HB.out.trans (hb1.mono HB.out.size)⟩
  clear hI hcap hb1 HC HB
  go_wp2
  go_returns
  exact HX.out
set_option maxHeartbeats 2000000 in
theorem turned_nil (p : Option Addr) (cap : Nat) (w : World) : Calls Tryz.prog 96 #[.slice p 0 cap] w (RI.Made [] w) := by
  have hmk := fun W => run_make_rows (P := Tryz.prog) (t := RI.tS) RI.under RI.info RI.byt 0 (by omega) W
  have hmk : ∀ W : World, (Instr.makeSlice 37 (.int .i64 0) (.int .i64 0)).run Tryz.prog W = .ok (.slice (some ⟨W.heap.size, 0, none⟩) 0 0) (W.alloc (.cells (madeCells #[.int .i64 0, .int .i64 0, .int .i64 0] (0 * 3)) 57)) := hmk
  have HO : Hid (RI.Own w.heap.size (w.alloc (.cells (madeCells #[.int .i64 0, .int .i64 0, .int .i64 0] (0 * 3)) 57)) (.slice (some ⟨w.heap.size, 0, none⟩) 0 0) []) := World.ownsRow_made w _ 0 (Nat.le_refl _) (Nat.zero_le _) (size_madeCells _ _)
  have HB := Lib.hid ((Below.refl w.heap.size w).alloc (Nat.le_refl _) (.cells (madeCells #[.int .i64 0, .int .i64 0, .int .i64 0] (0 * 3)) 57))
  go_enter Tryz.func96, Tryz.ntmps96
  go_wp2
  refine wp_loop_rounds 1 ?_
  rw [rounds_succ]
  go_wp2
  go_returns
  exact ⟨_, rfl, HO.out, HB.out⟩
theorem turned_any (xs : List IV) (v : Value) (w : World) (hl : xs.length ≤ 900000) (h64 : in64 xs) (h : RI.Is w v xs) : Calls Tryz.prog 96 #[v] w (RI.Made (xs.map negI) w) := by
  rcases h with ⟨rfl, p, cap, rfl, _⟩ | ⟨h0, b, off, cap, rfl, hb, hr⟩
  · exact turned_nil p cap w
  · exact turned_row xs b off cap w hl h64 hb hr
def minusI (a b : List IV) : List IV := plusI a (b.map negI)
set_option maxRecDepth 100000 in
set_option maxHeartbeats 4000000 in
theorem bminus_any (xs ys : List IV) (va vb : Value) (w : World) (hl : xs.length ≤ 400000) (hm : ys.length ≤ 400000) (h64 : in64 ys) (ca : capOk va) (ha : RI.Is w va xs) (hb : RI.Is w vb ys) :
    Calls Tryz.prog 62 #[va, vb] w (AnsI (minusI xs ys) w) := by
  have HT := Lib.hid (turned_any ys vb w (by omega) h64 hb)
  have HP := Lib.hid (fun (W : World) (hW : Below w.heap.size w W) (v : Value) (cv : capOk v) (hv : RI.Is W v (ys.map negI)) => bplus_any xs (ys.map negI) va v W hl (by rw [List.length_map]; exact hm) ca cv (ha.below hW) hv)
  have hres : plusI xs (ys.map negI) = minusI xs ys := rfl
  rw [hres] at HP
  obtain ⟨p, c, rfl⟩ := ha.slice
  obtain ⟨q, d, rfl⟩ := hb.slice
  clear ha hb ca h64 hres
  generalize minusI xs ys = res at *
  generalize ys.map negI = zs at *
  generalize xs.length = n1 at *
  generalize ys.length = n2 at *
  go_enter Tryz.func62, Tryz.ntmps62
  go_wp2_with fail
  refine (HT.out).mono ?_
  rintro e w1 ⟨u, rfl, hO, hB1⟩
  have HC := Lib.hid (HP.out w1 hB1 u (ownCapI hO) hO.is)
  have HB1 := Lib.hid hB1
  clear hO hB1 HP HT
  go_wp2_with fail
  refine (HC.out).mono ?_
  rintro e w2 ⟨v, rfl, hI, hcap, hb2⟩
  have HX : Hid (AnsI res w (.returned v) w2) := ⟨v, rfl, hI, hcap, HB1.out.trans (hb2.mono HB1.out.size)⟩
  clear hI hcap hb2
  go_wp2
  go_returns
  exact HX.out
end Go.Proofs.YthhceggcdaljdaaGreat
/- bag's Clone, Plus and Add: what they answer lies in a row of the call's own -/
namespace Go.Proofs.YthhceggcdaljdaaGreat
open Go.RowKit
set_option linter.unusedVariables false
set_option linter.unusedSimpArgs false

attribute [local go_sem ↓] eqNilI
set_option maxRecDepth 100000 in
set_option maxHeartbeats 4000000 in
theorem bcloneM_any (xs : List IV) (v : Value) (w : World) (hl : xs.length ≤ 900000) (h : RI.Is w v xs) : Calls Tryz.prog 97 #[v] w (RI.Made xs w) := by
  obtain ⟨p, c, rfl⟩ := h.slice
  have HI := Lib.hid h
  cases p with
  | none =>
    have hx : xs = [] ∧ c = 0 := by
      rcases h with ⟨hx, q, d, e, hq⟩ | ⟨_, b, off, cap, e, _⟩
      · simp only [Value.slice.injEq] at e
        obtain ⟨rfl, _, rfl⟩ := e
        exact ⟨hx, hq rfl⟩
      · cases e
    obtain ⟨rfl, rfl⟩ := hx
    clear h HI
    show Calls _ _ #[.slice none 0 0] _ _
    clear hl
    go_enter Tryz.func97, Tryz.ntmps97
    go_wp2
    go_returns
    exact ⟨_, rfl, RowKind.Own.nil RI _ _, Below.refl _ _⟩
  | some ad =>
    clear h
    have HO := Lib.hid (show RI.Own w.heap.size (w.alloc (.cells #[] 57)) (.slice (some ⟨w.heap.size, 0, none⟩) 0 0) [] from World.ownsRow_made w #[] 0 (Nat.le_refl _) (Nat.zero_le _) rfl)
    have HB := Lib.hid ((Below.refl w.heap.size w).alloc (Nat.le_refl _) (.cells #[] 57))
    have HL : Hid (([] : List IV).length + xs.length ≤ 1000000) := by show _ ≤ _; simp; omega
    have HZ := Lib.hid HB.out.size
    have HI2 := Lib.hid (HI.out.below HB.out)
    generalize xs.length = n at HI HI2 ⊢
    go_enter Tryz.func97, Tryz.ntmps97
    go_wp2_with (at_builtin; refine RowKind.Own.appendAny (R := RI) (ys := xs) HO.out HB.out HZ.out rfl _ _ rfl rfl rfl HI2.out HL.out ?_; intro v2 w2 hO2 hB2 hz2)
    have HO2 := Lib.hid hO2; have HB2 := Lib.hid hB2
    go_returns
    exact ⟨_, rfl, HO2.out, HB2.out⟩
set_option maxRecDepth 100000 in
set_option maxHeartbeats 4000000 in
theorem bplusM_any (xs ys : List IV) (va vb : Value) (w : World) (hl : xs.length ≤ 400000) (hm : ys.length ≤ 400000) (ca : capOk va) (cb : capOk vb) (ha : RI.Is w va xs) (hb : RI.Is w vb ys) :
    Calls Tryz.prog 63 #[va, vb] w (RI.Made (plusI xs ys) w) := by
  have HA := Lib.hid ha; have HB := Lib.hid hb
  have HRA := Lib.hid (bright_any xs va w (by omega) ha)
  have HRB := Lib.hid (fun W (hW : Below w.heap.size w W) => bright_any ys vb W (by omega) (hb.below hW))
  have HC := Lib.hid (fun W (hW : Below w.heap.size w W) => bcloneM_any xs va W (by omega) (ha.below hW))
  have HM : Hid (rightI xs = true → rightI ys = true → ∀ W (hW : Below w.heap.size w W), Calls Tryz.prog 98 #[va, vb] W (RI.Made (mergedI xs ys) W)) := fun h1 h2 W hW => bmerged_any xs ys va vb W hl hm (inN_of h1) (inN_of h2) ca cb (ha.below hW) (hb.below hW)
  have h1 : rightI xs = false → plusI xs ys = xs := fun h => by unfold plusI; rw [if_neg (by rw [h]; simp)]
  have h2 : rightI ys = false → plusI xs ys = xs := fun h => by unfold plusI; rw [if_neg (by rw [h]; simp)]
  have h3 : rightI xs = true → rightI ys = true → plusI xs ys = mergedI xs ys := fun h k => by unfold plusI; rw [if_pos ⟨h, k⟩]
  obtain ⟨p, c, rfl⟩ := ha.slice
  obtain ⟨q, d, rfl⟩ := hb.slice
  clear ha hb ca cb HA HB
  generalize plusI xs ys = res at h1 h2 h3 ⊢
  generalize rightI xs = b1 at *
  generalize rightI ys = b2 at *
  generalize mergedI xs ys = mm at *
  generalize xs.length = n1 at *
  generalize ys.length = n2 at *
  have H1 := Lib.hid h1; have H2 := Lib.hid h2; have H3 := Lib.hid h3
  clear h1 h2 h3
  go_enter Tryz.func63, Tryz.ntmps63
  go_wp2_with fail
  refine (HRA.out).mono ?_
  rintro e w1 ⟨rfl, hb1⟩
  have HB1 := Lib.hid hb1
  clear hb1 HRA
  cases b1
  · go_wp2_with fail
    refine (HC.out _ HB1.out).mono ?_
    rintro e w2 ⟨v, rfl, hI, hb2⟩
    have HX : Hid (RI.Made res w (.returned v) w2) := ⟨v, rfl, by rw [H1.out (by trivial)]; exact hI.mono HB1.out.size, HB1.out.trans (hb2.mono HB1.out.size)⟩
    clear hI hb2
    go_wp2
    go_returns
    exact HX.out
  · go_wp2_with fail
    refine (HRB.out _ HB1.out).mono ?_
    rintro e w2 ⟨rfl, hb2⟩
    have HB2 := Lib.hid (HB1.out.trans (hb2.mono HB1.out.size))
    clear hb2 HRB
    cases b2
    · go_wp2_with fail
      refine (HC.out _ HB2.out).mono ?_
      rintro e w3 ⟨v, rfl, hI, hb3⟩
      have HX : Hid (RI.Made res w (.returned v) w3) := ⟨v, rfl, by rw [H2.out (by trivial)]; exact hI.mono HB2.out.size, HB2.out.trans (hb3.mono HB2.out.size)⟩
      clear hI hb3
      go_wp2
      go_returns
      exact HX.out
    · have HM2 := Lib.hid (HM.out (by trivial) (by trivial))
      clear HM
      go_wp2_with fail
      refine (HM2.out _ HB2.out).mono ?_
      rintro e w3 ⟨v, rfl, hO, hb3⟩
      have HX : Hid (RI.Made res w (.returned v) w3) := ⟨v, rfl, by rw [H3.out (by trivial) (by trivial)]; exact hO.mono HB2.out.size, HB2.out.trans (hb3.mono HB2.out.size)⟩
      clear hO hb3
      go_wp2
      go_returns
      exact HX.out
set_option maxRecDepth 100000 in
set_option maxHeartbeats 4000000 in
theorem baddM_any (xs : List IV) (t : RV) (n : Int) (va : Value) (w : World) (hl : xs.length ≤ 400000) (ca : capOk va) (ha : RI.Is w va xs) :
    Calls Tryz.prog 49 #[va, t.val, .int .i64 n] w (RI.Made (addI xs t n) w) := by
  have hall := fun (W : World) (vb : Value) (hW : Below w.heap.size w W) (cb : capOk vb) (hb : RI.Is W vb [⟨t, n⟩]) => bplusM_any xs [⟨t, n⟩] va vb W hl (by simp) ca cb (ha.below hW) hb
  have HA := Lib.hid hall
  obtain ⟨p, c, rfl⟩ := ha.slice
  clear ha ca hall
  have hres : plusI xs [⟨t, n⟩] = addI xs t n := rfl
  rw [hres] at HA
  clear hres
  generalize addI xs t n = res at *
  generalize xs.length = n1 at *
  go_enter Tryz.func49, Tryz.ntmps49
  have hrow := RowKind.Row.new (R := RI) (w.alloc (.cells #[.int .i64 t.k, .int .i64 t.v] 27)) ⟨t, n⟩ 57
  rw [World.size_alloc] at hrow
  have hB := ((Below.refl w.heap.size w).alloc (Nat.le_refl _) (.cells #[.int .i64 t.k, .int .i64 t.v] 27)).alloc (by simp) (.cells #[.int .i64 t.k, .int .i64 t.v, .int .i64 n] 57)
  have hcall := HA.out _ (.slice (some ⟨w.heap.size + 1, 0, none⟩) 1 1) hB (fun p n c e => by cases e; exact Nat.le_refl _) (.inr ⟨by simp, w.heap.size + 1, 0, 1, rfl, by simp, hrow⟩)
  have HC := Lib.hid hcall; have HB := Lib.hid hB
  clear hrow hB hcall HA
  go_wp2_with fail
  refine (HC.out).mono ?_
  rintro e w1 ⟨v, rfl, hI, hb1⟩
  have HX : Hid (RI.Made res w (.returned v) w1) := ⟨v, rfl, hI.mono HB.out.size, HB.out.trans (hb1.mono HB.out.size)⟩
  clear hI hb1 HC HB
  go_wp2
  go_returns
  exact HX.out
end Go.Proofs.YthhceggcdaljdaaGreat
