import Derived.Test.YtgmpgemgoplafaaG03
import Derived.Test.YtgmpgemgoplafaaG04
namespace Go.Proofs.Ytgmpgemgoplafaa
open Go.RowKit
set_option linter.unusedVariables false
set_option linter.unusedSimpArgs false
attribute [local go_sem ↓] loadI storeI
attribute [local simp] size_setRow
attribute [local go_sem] rowAt_head rowOf_alloc_at rowOf_alloc_past rowOf_drew rowOf_drewN rowOf_setRow_same rowOf_setRow_other rowOf_setCell_same rowOf_setCell_other size_setRow setRow_drew setRow_alloc_at setRow_alloc_past one_int one_bool cell_setRow_same cell_setRow_other frozen_setRow_same frozen_setRow_other
def moreI (c : IV) (n : Int) : IV := if fitsN (c.n + n) then ⟨c.t, c.n + n⟩ else c
set_option maxRecDepth 100000 in
set_option maxHeartbeats 4000000 in
theorem bmore_any (c : IV) (n : Int) (w : World) (h1 : -2147483648 ≤ c.n ∧ c.n ≤ 2147483648) (h2 : -2147483648 ≤ n ∧ n ≤ 2147483648) :
    Calls Try.prog 38 #[c.val, .int .i64 n] w (Ret (moreI c n).val w) := by
  obtain ⟨t, m⟩ := c
  simp only at h1
  obtain ⟨a1, a2⟩ := h1
  obtain ⟨b1, b2⟩ := h2
  have c1 : -9223372036854775808 ≤ m + n := by omega
  have c2 : m + n ≤ 9223372036854775807 := by omega
  have hF := fun W => bfits_any (m + n) W
  have hm : (moreI ⟨t, m⟩ n).val = (if fitsN (m + n) then IV.val ⟨t, m + n⟩ else IV.val ⟨t, m⟩) := by unfold moreI; simp only; split <;> rfl
  generalize fitsN (m + n) = q at hF hm
  have hT : q = true → (moreI ⟨t, m⟩ n).val = .agg #[.int .i64 t.k, .int .i64 t.v, .int .i64 (m + n)] := fun h => by rw [hm, h]; rfl
  have hN : q = false → (moreI ⟨t, m⟩ n).val = .agg #[.int .i64 t.k, .int .i64 t.v, .int .i64 m] := fun h => by rw [hm, h]; rfl
  generalize (moreI ⟨t, m⟩ n).val = res at hT hN ⊢
  have HF := Lib.hid hF; have HT := Lib.hid hT; have HN := Lib.hid hN
  clear hm hF hT hN
  show Calls _ _ #[.agg #[.int .i64 t.k, .int .i64 t.v, .int .i64 m], _] _ _
  go_enter Try.func38, Try.ntmps38
  cases q
  · go_wp2_with fail
    refine (HF.out _).mono ?_
    rintro e w1 ⟨rfl, hb1⟩
    have N_x : rowOf w1 w.heap.size = some #[.int .i64 t.k, .int .i64 t.v, .int .i64 m] := rowOf_below (row_old (row_new rfl)) hb1 (by simp; omega)
    have N_r : rowOf w1 (w.heap.size + 1) = some #[.int .i64 0, .int .i64 0, .int .i64 0] := rowOf_below (row_new (by simp)) hb1 (by simp)
    have hB : Below w.heap.size w w1 := bcall (by repeat' first | exact Below.refl _ _ | (apply Below.alloc) | (simp; done)) hb1 (by simp; omega)
    have hz := hB.size
    have L_x := rowOf_lt N_x
    have L_r := rowOf_lt N_r
    have D_x := Nat.ne_of_lt L_x
    have D_r := Nat.ne_of_lt L_r
    have E0 : rowOf (w1.setCell ⟨w.heap.size, 2, none⟩ (.int .i64 (m + n))) w.heap.size = some #[.int .i64 t.k, .int .i64 t.v, .int .i64 (m + n)] := row_cell_same N_x rfl
    have p2 : w1.cell? ⟨w.heap.size, 2, none⟩ = some (.int .i64 m) := rowOf_cell N_x 2
    have q2 := rowOf_frozen N_x 2
    clear hb1
    go_wp2
    rw [HN.out (by trivial)]
    exact bodyPost_ret (v := .agg #[.int .i64 t.k, .int .i64 t.v, .int .i64 m]) (by simp [results, Try.results38, go_sem, N_x, N_r, E0, L_x, L_r, D_x, D_r]) rfl ⟨rfl, by repeat' first | (with_reducible first | exact hB | exact Below.refl _ _ | apply blast | apply Below.drew | apply below_setRow | apply Below.alloc | apply Below.setCell) | (first | with_reducible assumption | (simp; done) | (go_light; first | omega | (simp; omega)))⟩
  · go_wp2_with fail
    refine (HF.out _).mono ?_
    rintro e w1 ⟨rfl, hb1⟩
    have N_x : rowOf w1 w.heap.size = some #[.int .i64 t.k, .int .i64 t.v, .int .i64 m] := rowOf_below (row_old (row_new rfl)) hb1 (by simp; omega)
    have N_r : rowOf w1 (w.heap.size + 1) = some #[.int .i64 0, .int .i64 0, .int .i64 0] := rowOf_below (row_new (by simp)) hb1 (by simp)
    have hB : Below w.heap.size w w1 := bcall (by repeat' first | exact Below.refl _ _ | (apply Below.alloc) | (simp; done)) hb1 (by simp; omega)
    have hz := hB.size
    have L_x := rowOf_lt N_x
    have L_r := rowOf_lt N_r
    have D_x := Nat.ne_of_lt L_x
    have D_r := Nat.ne_of_lt L_r
    have E0 : rowOf (w1.setCell ⟨w.heap.size, 2, none⟩ (.int .i64 (m + n))) w.heap.size = some #[.int .i64 t.k, .int .i64 t.v, .int .i64 (m + n)] := row_cell_same N_x rfl
    have p2 : w1.cell? ⟨w.heap.size, 2, none⟩ = some (.int .i64 m) := rowOf_cell N_x 2
    have q2 := rowOf_frozen N_x 2
    clear hb1
    go_wp2
    rw [HT.out (by trivial)]
    exact bodyPost_ret (v := .agg #[.int .i64 t.k, .int .i64 t.v, .int .i64 (m + n)]) (by simp [results, Try.results38, go_sem, N_x, N_r, E0, L_x, L_r, D_x, D_r]) rfl ⟨rfl, by repeat' first | (with_reducible first | exact hB | exact Below.refl _ _ | apply blast | apply Below.drew | apply below_setRow | apply Below.alloc | apply Below.setCell) | (first | with_reducible assumption | (simp; done) | (go_light; first | omega | (simp; omega)))⟩
end Go.Proofs.Ytgmpgemgoplafaa
/- two right bags gone through side by side, as a plain function -/
namespace Go.Proofs.Ytgmpgemgoplafaa
open Go.RowKit
set_option linter.unusedVariables false
set_option linter.unusedSimpArgs false

def mergedI : List IV → List IV → List IV
  | [], ys => ys
  | x :: xs, [] => x :: xs
  | x :: xs, y :: ys => if cmpR x.t y.t < 0 then x :: mergedI xs (y :: ys) else if 0 < cmpR x.t y.t then y :: mergedI (x :: xs) ys else if (moreI x y.n).n = 0 then mergedI xs ys else moreI x y.n :: mergedI xs ys
termination_by xs ys => xs.length + ys.length
theorem mergedI_nil (xs : List IV) : mergedI xs [] = xs := by cases xs <;> simp [mergedI]
theorem nil_mergedI (ys : List IV) : mergedI [] ys = ys := by simp [mergedI]
theorem mergedI_lt {x y : IV} (xs ys : List IV) (h : cmpR x.t y.t < 0) : mergedI (x :: xs) (y :: ys) = x :: mergedI xs (y :: ys) := by rw [mergedI, if_pos h]
theorem mergedI_gt {x y : IV} (xs ys : List IV) (h : 0 < cmpR x.t y.t) : mergedI (x :: xs) (y :: ys) = y :: mergedI (x :: xs) ys := by rw [mergedI, if_neg (by omega), if_pos h]
theorem mergedI_no {x y : IV} (xs ys : List IV) (h : cmpR x.t y.t = 0) (h3 : (moreI x y.n).n = 0) : mergedI (x :: xs) (y :: ys) = mergedI xs ys := by rw [mergedI, if_neg (by omega), if_neg (by omega), if_pos h3]
theorem mergedI_one {x y : IV} (xs ys : List IV) (h : cmpR x.t y.t = 0) (h3 : ¬ (moreI x y.n).n = 0) : mergedI (x :: xs) (y :: ys) = moreI x y.n :: mergedI xs ys := by rw [mergedI, if_neg (by omega), if_neg (by omega), if_neg h3]
end Go.Proofs.Ytgmpgemgoplafaa
/- bag.There -/
namespace Go.Proofs.Ytgmpgemgoplafaa
open Go.RowKit
set_option linter.unusedVariables false
set_option linter.unusedSimpArgs false

def posI (xs : List IV) : List IV := xs.filter fun c => decide (0 < c.n)
def thereI (xs : List IV) : List IV := if rightI xs = true then posI xs else []
theorem pos_take_succ {xs : List IV} {k : Nat} (hk : k < xs.length) : posI (xs.take (k + 1)) = posI (xs.take k) ++ (if 0 < (xs[k]!).n then [xs[k]!] else []) := by
  unfold posI
  rw [take_getA xs k hk, List.filter_append]
  split
  · rename_i h; rw [List.filter_cons_of_pos (by simpa using h)]; rfl
  · rename_i h; rw [List.filter_cons_of_neg (by simpa using h)]; rfl
theorem pos_length (xs : List IV) : (posI xs).length ≤ xs.length := List.length_filter_le _ _
set_option maxRecDepth 100000 in
set_option maxHeartbeats 4000000 in
theorem bthere_row (xs : List IV) (b off cap : Nat) (w : World) (hl : xs.length ≤ 900000) (hb : b < w.heap.size) (hr : RI.Row w b off xs) (h0 : xs ≠ []) :
    Calls Try.prog 15 #[.slice (some ⟨b, off, none⟩) xs.length cap] w (RI.Made (thereI xs) w) := by
  have hrow : Hid (∀ (W : World), Below w.heap.size w W → ∀ j, j < xs.length → _) := fun W hW j hj => atI (hr.below hW hb) j hj
  have hRT := bright_any xs (.slice (some ⟨b, off, none⟩) xs.length cap) w hl (.inr ⟨h0, b, off, cap, rfl, hb, hr⟩)
  have hno : rightI xs = false → thereI xs = [] := fun h => by unfold thereI; rw [h]; rfl
  have hyes : rightI xs = true → thereI xs = posI xs := fun h => by unfold thereI; rw [h]; rfl
  generalize rightI xs = q at hRT hno hyes
  generalize thereI xs = res at hno hyes ⊢
  have HRT := Lib.hid hRT; have HNo := Lib.hid hno; have HYes := Lib.hid hyes
  clear hr hRT hno hyes h0
  generalize hn : xs.length = n at hl HRT hrow
  have HN := Lib.hid hn
  clear hn
  go_enter Try.func15, Try.ntmps15
  go_wp2_with fail
  refine (HRT.out).mono ?_
  rintro e w1 ⟨rfl, hb1⟩
  have HB1 := Lib.hid hb1
  clear hb1 HRT
  cases q
  · go_wp2
    go_returns
    exact ⟨_, rfl, by rw [HNo.out (by trivial)]; exact RowKind.Own.nil RI _ _, HB1.out⟩
  · go_wp2
    go_loopg [3, 11] n (fun gg v i wr => ∃ k : Nat, k ≤ n ∧ n - k ≤ gg ∧ i = .int .i64 k ∧ Hid (Below w.heap.size w wr) ∧ Hid (RI.Own w.heap.size wr v (posI (xs.take k))))
    case atStart => exact ⟨0, Nat.zero_le _, by omega, rfl, HB1.out, RowKind.Own.nil RI _ _⟩
    case round =>
      obtain ⟨k, hkn, hg, rfl, HB, HO⟩ := hrel
      by_cases hlt : k < n
      · have hlz : (k : Int) < (n : Int) := by omega
        have hc := hrow.out wr HB.out k hlt
        have hts := pos_take_succ (xs := xs) (k := k) (by rw [HN.out]; exact hlt)
        have hlen : (posI (xs.take k)).length ≤ 900000 := by
          have h1 := pos_length (xs.take k)
          rw [List.length_take] at h1
          omega
        generalize posI (xs.take k) = acc at HO hts hlen
        generalize xs[k]! = c at hc hts
        obtain ⟨t, m⟩ := c
        obtain ⟨e0, e1, e2⟩ := hc
        simp only at e0 e1 e2 hts
        have hz := HB.out.size
        have HBn := Lib.hid ((HB.out).alloc hz (.cells #[.int .i64 t.k, .int .i64 t.v, .int .i64 m] 43))
        have HOn := Lib.hid (HO.out.alloc (.cells #[.int .i64 t.k, .int .i64 t.v, .int .i64 m] 43))
        have HZn := Lib.hid HBn.out.size
        clear hrow
        by_cases hm : 0 < m
        · rw [if_pos hm] at hts
          have HTS := Lib.hid hts
          clear hts HO HB
          go_wp2_with (at_builtin; refine RowKind.Own.push (R := RI) (y := ⟨t, m⟩) HOn.out HBn.out HZn.out rfl _ _ rfl rfl _ (by show Value.slice (some ⟨wr.heap.size + 1, 0, none⟩) 1 1 = _; rw [World.size_alloc]) hlen (Nat.le_refl _) ?_; intro v2 w2 hO2 hB2 hz2)
          go_roundg (n - (k + 1))
          case measure => omega
          case rel =>
            refine ⟨k + 1, by omega, by omega, by go_num, hB2, ?_⟩
            show RI.Own _ _ _ _
            rw [HTS.out]
            exact hO2
        · rw [if_neg hm, List.append_nil] at hts
          have HTS := Lib.hid hts
          clear hts HO HB
          go_wp2
          go_roundg (n - (k + 1))
          case measure => omega
          case rel =>
            refine ⟨k + 1, by omega, by omega, by go_num, HBn.out, ?_⟩
            show RI.Own _ _ _ _
            rw [HTS.out]
            exact HOn.out
      · have hlz : ¬ (k : Int) < (n : Int) := by omega
        have : k = n := by omega
        subst this
        have HX : Hid (RI.Own w.heap.size wr u3 (posI xs)) := by
          have h := HO.out
          rw [List.take_of_length_le (by rw [HN.out]; exact Nat.le_refl _)] at h
          exact h
        clear HO hrow
        go_wp2
        go_returns
        exact ⟨_, rfl, by rw [HYes.out (by trivial)]; exact HX.out, HB.out⟩
set_option maxRecDepth 100000 in
set_option maxHeartbeats 4000000 in
theorem bthere_nil (p : Option Addr) (cap : Nat) (w : World) : Calls Try.prog 15 #[.slice p 0 cap] w (RI.Made (thereI []) w) := by
  have HRT := Lib.hid (bright_nil p cap w)
  have hr : rightI [] = true := by decide
  have hf : thereI [] = [] := by unfold thereI; rw [hr]; rfl
  rw [hr] at HRT
  rw [hf]
  go_enter Try.func15, Try.ntmps15
  go_wp2_with fail
  refine (HRT.out).mono ?_
  rintro e w1 ⟨rfl, hb1⟩
  have HB1 := Lib.hid hb1
  clear hb1 HRT
  go_wp2
  refine wp_loop_rounds 1 ?_
  rw [rounds_succ]
  go_wp2
  go_returns
  exact ⟨_, rfl, RowKind.Own.nil RI _ _, HB1.out⟩
theorem bthere_any (xs : List IV) (v : Value) (w : World) (hl : xs.length ≤ 900000) (h : RI.Is w v xs) : Calls Try.prog 15 #[v] w (RI.Made (thereI xs) w) := by
  rcases h with ⟨rfl, p, cap, rfl, _⟩ | ⟨h0, b, off, cap, rfl, hb, hr⟩
  · exact bthere_nil p cap w
  · exact bthere_row xs b off cap w hl hb hr h0
end Go.Proofs.Ytgmpgemgoplafaa
