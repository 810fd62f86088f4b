import Derived.Test.YthhceggcdaljdaaGreatG03
namespace Go.Proofs.YthhceggcdaljdaaGreat
open Go.RowKit
set_option linter.unusedVariables false
set_option linter.unusedSimpArgs false
attribute [local go_sem ↓] loadI storeI
attribute [local simp] size_setRow
attribute [local go_sem] rowAt_head rowOf_alloc_at rowOf_alloc_past rowOf_drew rowOf_drewN rowOf_setRow_same rowOf_setRow_other rowOf_setCell_same rowOf_setCell_other size_setRow setRow_drew setRow_alloc_at setRow_alloc_past one_int one_bool cell_setRow_same cell_setRow_other frozen_setRow_same frozen_setRow_other
def moreI (c : IV) (n : Int) : IV := if fitsN (c.n + n) then ⟨c.t, c.n + n⟩ else c
set_option maxRecDepth 100000 in
set_option maxHeartbeats 4000000 in
theorem bmore_any (c : IV) (n : Int) (w : World) (h1 : -2147483648 ≤ c.n ∧ c.n ≤ 2147483648) (h2 : -2147483648 ≤ n ∧ n ≤ 2147483648) :
    Calls Tryz.prog 136 #[c.val, .int .i64 n] w (Ret (moreI c n).val w) := by
  obtain ⟨t, m⟩ := c
  simp only at h1
  obtain ⟨a1, a2⟩ := h1
  obtain ⟨b1, b2⟩ := h2
  have c1 : -9223372036854775808 ≤ m + n := by omega
  have c2 : m + n ≤ 9223372036854775807 := by omega
  have hF := fun W => bfits_any (m + n) W
  have hm : (moreI ⟨t, m⟩ n).val = (if fitsN (m + n) then IV.val ⟨t, m + n⟩ else IV.val ⟨t, m⟩) := by unfold moreI; simp only; split <;> rfl
  generalize fitsN (m + n) = q at hF hm
  have hT : q = true → (moreI ⟨t, m⟩ n).val = .agg #[.int .i64 t.k, .int .i64 t.v, .int .i64 (m + n)] := fun h => by rw [hm, h]; rfl
  have hN : q = false → (moreI ⟨t, m⟩ n).val = .agg #[.int .i64 t.k, .int .i64 t.v, .int .i64 m] := fun h => by rw [hm, h]; rfl
  generalize (moreI ⟨t, m⟩ n).val = res at hT hN ⊢
  have HF := Lib.hid hF; have HT := Lib.hid hT; have HN := Lib.hid hN
  clear hm hF hT hN
  show Calls _ _ #[.agg #[.int .i64 t.k, .int .i64 t.v, .int .i64 m], _] _ _
  go_enter Tryz.func136, Tryz.ntmps136
  cases q
  · go_wp2_with fail
    refine (HF.out _).mono ?_
    rintro e w1 ⟨rfl, hb1⟩
    have N_x : rowOf w1 w.heap.size = some #[.int .i64 t.k, .int .i64 t.v, .int .i64 m] := rowOf_below (row_old (row_new rfl)) hb1 (by simp; omega)
    have N_r : rowOf w1 (w.heap.size + 1) = some #[.int .i64 0, .int .i64 0, .int .i64 0] := rowOf_below (row_new (by simp)) hb1 (by simp)
    have hB : Below w.heap.size w w1 := bcall (by repeat' first | exact Below.refl _ _ | (apply Below.alloc) | (simp; done)) hb1 (by simp; omega)
    have hz := hB.size
    have L_x := rowOf_lt N_x
    have L_r := rowOf_lt N_r
    have D_x := Nat.ne_of_lt L_x
    have D_r := Nat.ne_of_lt L_r
    have E0 : rowOf (w1.setCell ⟨w.heap.size, 2, none⟩ (.int .i64 (m + n))) w.heap.size = some #[.int .i64 t.k, .int .i64 t.v, .int .i64 (m + n)] := row_cell_same N_x rfl
    have p2 : w1.cell? ⟨w.heap.size, 2, none⟩ = some (.int .i64 m) := rowOf_cell N_x 2
    have q2 := rowOf_frozen N_x 2
    clear hb1
    go_wp2
    rw [HN.out (by trivial)]
    exact bodyPost_ret (v := .agg #[.int .i64 t.k, .int .i64 t.v, .int .i64 m]) (by simp [results, Tryz.results136, go_sem, N_x, N_r, E0, L_x, L_r, D_x, D_r]) rfl ⟨rfl, by repeat' first | (with_reducible first | exact hB | exact Below.refl _ _ | apply blast | apply Below.drew | apply below_setRow | apply Below.alloc | apply Below.setCell) | (first | with_reducible assumption | (simp; done) | (go_light; first | omega | (simp; omega)))⟩
  · go_wp2_with fail
    refine (HF.out _).mono ?_
    rintro e w1 ⟨rfl, hb1⟩
    have N_x : rowOf w1 w.heap.size = some #[.int .i64 t.k, .int .i64 t.v, .int .i64 m] := rowOf_below (row_old (row_new rfl)) hb1 (by simp; omega)
    have N_r : rowOf w1 (w.heap.size + 1) = some #[.int .i64 0, .int .i64 0, .int .i64 0] := rowOf_below (row_new (by simp)) hb1 (by simp)
    have hB : Below w.heap.size w w1 := bcall (by repeat' first | exact Below.refl _ _ | (apply Below.alloc) | (simp; done)) hb1 (by simp; omega)
    have hz := hB.size
    have L_x := rowOf_lt N_x
    have L_r := rowOf_lt N_r
    have D_x := Nat.ne_of_lt L_x
    have D_r := Nat.ne_of_lt L_r
    have E0 : rowOf (w1.setCell ⟨w.heap.size, 2, none⟩ (.int .i64 (m + n))) w.heap.size = some #[.int .i64 t.k, .int .i64 t.v, .int .i64 (m + n)] := row_cell_same N_x rfl
    have p2 : w1.cell? ⟨w.heap.size, 2, none⟩ = some (.int .i64 m) := rowOf_cell N_x 2
    have q2 := rowOf_frozen N_x 2
    clear hb1
    go_wp2
    rw [HT.out (by trivial)]
    exact bodyPost_ret (v := .agg #[.int .i64 t.k, .int .i64 t.v, .int .i64 (m + n)]) (by simp [results, Tryz.results136, go_sem, N_x, N_r, E0, L_x, L_r, D_x, D_r]) rfl ⟨rfl, by repeat' first | (with_reducible first | exact hB | exact Below.refl _ _ | apply blast | apply Below.drew | apply below_setRow | apply Below.alloc | apply Below.setCell) | (first | with_reducible assumption | (simp; done) | (go_light; first | omega | (simp; omega)))⟩
end Go.Proofs.YthhceggcdaljdaaGreat
/- two right bags gone through side by side, as a plain function -/
namespace Go.Proofs.YthhceggcdaljdaaGreat
open Go.RowKit
set_option linter.unusedVariables false
set_option linter.unusedSimpArgs false

def mergedI : List IV → List IV → List IV
  | [], ys => ys
  | x :: xs, [] => x :: xs
  | x :: xs, y :: ys => if cmpR x.t y.t < 0 then x :: mergedI xs (y :: ys) else if 0 < cmpR x.t y.t then y :: mergedI (x :: xs) ys else if (moreI x y.n).n = 0 then mergedI xs ys else moreI x y.n :: mergedI xs ys
termination_by xs ys => xs.length + ys.length
theorem mergedI_nil (xs : List IV) : mergedI xs [] = xs := by cases xs <;> simp [mergedI]
theorem nil_mergedI (ys : List IV) : mergedI [] ys = ys := by simp [mergedI]
theorem mergedI_lt {x y : IV} (xs ys : List IV) (h : cmpR x.t y.t < 0) : mergedI (x :: xs) (y :: ys) = x :: mergedI xs (y :: ys) := by rw [mergedI, if_pos h]
theorem mergedI_gt {x y : IV} (xs ys : List IV) (h : 0 < cmpR x.t y.t) : mergedI (x :: xs) (y :: ys) = y :: mergedI (x :: xs) ys := by rw [mergedI, if_neg (by omega), if_pos h]
theorem mergedI_no {x y : IV} (xs ys : List IV) (h : cmpR x.t y.t = 0) (h3 : (moreI x y.n).n = 0) : mergedI (x :: xs) (y :: ys) = mergedI xs ys := by rw [mergedI, if_neg (by omega), if_neg (by omega), if_pos h3]
theorem mergedI_one {x y : IV} (xs ys : List IV) (h : cmpR x.t y.t = 0) (h3 : ¬ (moreI x y.n).n = 0) : mergedI (x :: xs) (y :: ys) = moreI x y.n :: mergedI xs ys := by rw [mergedI, if_neg (by omega), if_neg (by omega), if_neg h3]
end Go.Proofs.YthhceggcdaljdaaGreat
/- bag.There -/
namespace Go.Proofs.YthhceggcdaljdaaGreat
open Go.RowKit
set_option linter.unusedVariables false
set_option linter.unusedSimpArgs false

def posI (xs : List IV) : List IV := xs.filter fun c => decide (0 < c.n)
def thereI (xs : List IV) : List IV := if rightI xs = true then posI xs else []
theorem pos_take_succ {xs : List IV} {k : Nat} (hk : k < xs.length) : posI (xs.take (k + 1)) = posI (xs.take k) ++ (if 0 < (xs[k]!).n then [xs[k]!] else []) := by
  unfold posI
  rw [take_getA xs k hk, List.filter_append]
  split
  · rename_i h; rw [List.filter_cons_of_pos (by simpa using h)]; rfl
  · rename_i h; rw [List.filter_cons_of_neg (by simpa using h)]; rfl
theorem pos_length (xs : List IV) : (posI xs).length ≤ xs.length := List.length_filter_le _ _
set_option maxRecDepth 100000 in
set_option maxHeartbeats 4000000 in
theorem bthere_row (xs : List IV) (b off cap : Nat) (w : World) (hl : xs.length ≤ 900000) (hb : b < w.heap.size) (hr : RI.Row w b off xs) (h0 : xs ≠ []) :
    Calls Tryz.prog 130 #[.slice (some ⟨b, off, none⟩) xs.length cap] w (RI.Made (thereI xs) w) := by
  have hrow : Hid (∀ (W : World), Below w.heap.size w W → ∀ j, j < xs.length → _) := fun W hW j hj => atI (hr.below hW hb) j hj
  have hRT := bright_any xs (.slice (some ⟨b, off, none⟩) xs.length cap) w hl (.inr ⟨h0, b, off, cap, rfl, hb, hr⟩)
  have hno : rightI xs = false → thereI xs = [] := fun h => by unfold thereI; rw [h]; rfl
  have hyes : rightI xs = true → thereI xs = posI xs := fun h => by unfold thereI; rw [h]; rfl
  generalize rightI xs = q at hRT hno hyes
  generalize thereI xs = res at hno hyes ⊢
  have HRT := Lib.hid hRT; have HNo := Lib.hid hno; have HYes := Lib.hid hyes
  clear hr hRT hno hyes h0
  generalize hn : xs.length = n at hl HRT hrow
  have HN := Lib.hid hn
  clear hn
  go_enter Tryz.func130, Tryz.ntmps130
  go_wp2_with fail
  refine (HRT.out).mono ?_
  rintro e w1 ⟨rfl, hb1⟩
  have HB1 := Lib.hid hb1
  clear hb1 HRT
  cases q
  · go_wp2
    go_returns
    exact ⟨_, rfl, by rw [HNo.out (by trivial)]; exact RowKind.Own.nil RI _ _, HB1.out⟩
  · go_wp2
    go_loopg [3, 11] n (fun gg v i wr => ∃ k : Nat, k ≤ n ∧ n - k ≤ gg ∧ i = .int .i64 k ∧ Hid (Below w.heap.size w wr) ∧ Hid (RI.Own w.heap.size wr v (posI (xs.take k))))
    case atStart => exact ⟨0, Nat.zero_le _, by omega, rfl, HB1.out, RowKind.Own.nil RI _ _⟩
    case round =>
      obtain ⟨k, hkn, hg, rfl, HB, HO⟩ := hrel
      by_cases hlt : k < n
      · have hlz : (k : Int) < (n : Int) := by omega
        have hc := hrow.out wr HB.out k hlt
        have hts := pos_take_succ (xs := xs) (k := k) (by rw [HN.out]; exact hlt)
        have hlen : (posI (xs.take k)).length ≤ 900000 := by
          have h1 := pos_length (xs.take k)
          rw [List.length_take] at h1
          omega
        generalize posI (xs.take k) = acc at HO hts hlen
        generalize xs[k]! = c at hc hts
        obtain ⟨t, m⟩ := c
        obtain ⟨e0, e1, e2⟩ := hc
        simp only at e0 e1 e2 hts
        have hz := HB.out.size
        have HBn := Lib.hid ((HB.out).alloc hz (.cells #[.int .i64 t.k, .int .i64 t.v, .int .i64 m] 57))
        have HOn := Lib.hid (HO.out.alloc (.cells #[.int .i64 t.k, .int .i64 t.v, .int .i64 m] 57))
        have HZn := Lib.hid HBn.out.size
        clear hrow
        by_cases hm : 0 < m
        · rw [if_pos hm] at hts
          have HTS := Lib.hid hts
          clear hts HO HB
          go_wp2_with (at_builtin; refine RowKind.Own.push (R := RI) (y := ⟨t, m⟩) HOn.out HBn.out HZn.out rfl _ _ rfl rfl _ (by show Value.slice (some ⟨wr.heap.size + 1, 0, none⟩) 1 1 = _; rw [World.size_alloc]) hlen (Nat.le_refl _) ?_; intro v2 w2 hO2 hB2 hz2)
          go_roundg (n - (k + 1))
          case measure => omega
          case rel =>
            refine ⟨k + 1, by omega, by omega, by go_num, hB2, ?_⟩
            show RI.Own _ _ _ _
            rw [HTS.out]
            exact hO2
        · rw [if_neg hm, List.append_nil] at hts
          have HTS := Lib.hid hts
          clear hts HO HB
          go_wp2
          go_roundg (n - (k + 1))
          case measure => omega
          case rel =>
            refine ⟨k + 1, by omega, by omega, by go_num, HBn.out, ?_⟩
            show RI.Own _ _ _ _
            rw [HTS.out]
            exact HOn.out
      · have hlz : ¬ (k : Int) < (n : Int) := by omega
        have : k = n := by omega
        subst this
        have HX : Hid (RI.Own w.heap.size wr u3 (posI xs)) := by
          have h := HO.out
          rw [List.take_of_length_le (by rw [HN.out]; exact Nat.le_refl _)] at h
          exact h
        clear HO hrow
        go_wp2
        go_returns
        exact ⟨_, rfl, by rw [HYes.out (by trivial)]; exact HX.out, HB.out⟩
set_option maxRecDepth 100000 in
set_option maxHeartbeats 4000000 in
theorem bthere_nil (p : Option Addr) (cap : Nat) (w : World) : Calls Tryz.prog 130 #[.slice p 0 cap] w (RI.Made (thereI []) w) := by
  have HRT := Lib.hid (bright_nil p cap w)
  have hr : rightI [] = true := by decide
  have hf : thereI [] = [] := by unfold thereI; rw [hr]; rfl
  rw [hr] at HRT
  rw [hf]
  go_enter Tryz.func130, Tryz.ntmps130
  go_wp2_with fail
  refine (HRT.out).mono ?_
  rintro e w1 ⟨rfl, hb1⟩
  have HB1 := Lib.hid hb1
  clear hb1 HRT
  go_wp2
  refine wp_loop_rounds 1 ?_
  rw [rounds_succ]
  go_wp2
  go_returns
  exact ⟨_, rfl, RowKind.Own.nil RI _ _, HB1.out⟩
theorem bthere_any (xs : List IV) (v : Value) (w : World) (hl : xs.length ≤ 900000) (h : RI.Is w v xs) : Calls Tryz.prog 130 #[v] w (RI.Made (thereI xs) w) := by
  rcases h with ⟨rfl, p, cap, rfl, _⟩ | ⟨h0, b, off, cap, rfl, hb, hr⟩
  · exact bthere_nil p cap w
  · exact bthere_row xs b off cap w hl hb hr h0
end Go.Proofs.YthhceggcdaljdaaGreat
/- bags as plain facts: how often a record is there, and what adding does -/
namespace Go.Proofs.YthhceggcdaljdaaGreat
open Go.RowKit
set_option linter.unusedVariables false
set_option linter.unusedSimpArgs false

def goodI (f : List IV) : Prop := (∀ c ∈ f, c.ok = true) ∧ f.Pairwise fun a b => a.t.lt b.t = true
theorem fitsN_iff (n : Int) : fitsN n = true ↔ -2147483648 ≤ n ∧ n ≤ 2147483648 := by simp [fitsN]
theorem IV.ok_iff (c : IV) : c.ok = true ↔ c.n ≠ 0 ∧ -2147483648 ≤ c.n ∧ c.n ≤ 2147483648 := by
  simp [IV.ok, fitsN]
theorem rightI_iff (f : List IV) : rightI f = true ↔ goodI f := by
  have key : ∀ (j : Nat) (hj : j < f.length), f[j]! = f[j] := fun j hj => getElem!_pos f j hj
  unfold rightI upI
  rw [decide_eq_true_eq]
  constructor
  · intro h
    refine ⟨fun c hc => ?_, ?_⟩
    · obtain ⟨j, hj, rfl⟩ := List.mem_iff_getElem.1 hc
      have := (h j hj).1
      rwa [key j hj] at this
    · have step : ∀ (d j : Nat) (hj : j + d + 1 < f.length), (f[j]'(by omega)).t.lt (f[j + d + 1]).t = true := by
        intro d
        induction d with
        | zero =>
          intro j hj
          have := (h (j + 1) hj).2 (by omega)
          rw [Nat.add_sub_cancel, key _ (by omega), key _ hj] at this
          exact this
        | succ d ih =>
          intro j hj
          have h1 := ih j (by omega)
          have h2 := (h (j + (d + 1) + 1) hj).2 (by omega)
          rw [Nat.add_sub_cancel, key _ (by omega), key _ hj] at h2
          exact RV.lt_trans h1 h2
      rw [List.pairwise_iff_getElem]
      intro i j hi hj hij
      have := step (j - i - 1) i (by omega)
      have e : i + (j - i - 1) + 1 = j := by omega
      simp only [e] at this
      exact this
  · rintro ⟨h1, h2⟩ j hj
    rw [key j hj]
    refine ⟨h1 _ (List.getElem_mem hj), fun h0 => ?_⟩
    rw [key (j - 1) (by omega)]
    exact List.pairwise_iff_getElem.1 h2 (j - 1) j (by omega) hj (by omega)
def atS (f : List IV) (u : RV) : Int := (f.map fun c => if c.t = u then c.n else 0).sum
theorem atS_nil (u : RV) : atS [] u = 0 := rfl
theorem atS_cons (c : IV) (f : List IV) (u : RV) : atS (c :: f) u = (if c.t = u then c.n else 0) + atS f u := by simp [atS]
theorem atS_append (f g : List IV) (u : RV) : atS (f ++ g) u = atS f u + atS g u := by simp [atS]
theorem atS_zero {f : List IV} {u : RV} (h : ∀ c ∈ f, c.t ≠ u) : atS f u = 0 := by
  induction f with
  | nil => rfl
  | cons c f ih => rw [atS_cons, if_neg (h c (by simp)), ih (fun d hd => h d (by simp [hd]))]; rfl
theorem goodI_nil : goodI [] := ⟨fun _ h => (by cases h), List.Pairwise.nil⟩
theorem good_tail {c : IV} {f : List IV} (h : goodI (c :: f)) : goodI f := ⟨fun d hd => h.1 d (by simp [hd]), (List.pairwise_cons.1 h.2).2⟩
theorem atS_low {f : List IV} {u : RV} (h : ∀ c ∈ f, u.lt c.t = true) : atS f u = 0 := atS_zero fun c hc e => by
  have := h c hc
  rw [e, RV.lt_irrefl] at this
  cases this
theorem atS_head {c : IV} {f : List IV} (h : goodI (c :: f)) : atS f c.t = 0 := atS_low (List.pairwise_cons.1 h.2).1
theorem good_low {c : IV} {f : List IV} (h : goodI (c :: f)) : ∀ d ∈ f, c.t.lt d.t = true := (List.pairwise_cons.1 h.2).1
theorem good_cons {c : IV} {f : List IV} (hc : c.ok = true) (hl : ∀ d ∈ f, c.t.lt d.t = true) (hf : goodI f) : goodI (c :: f) := by
  refine ⟨fun d hd => ?_, List.pairwise_cons.2 ⟨hl, hf.2⟩⟩
  rcases List.mem_cons.1 hd with rfl | hd
  · exact hc
  · exact hf.1 d hd
theorem atS_fits {f : List IV} (h : goodI f) (u : RV) : -2147483648 ≤ atS f u ∧ atS f u ≤ 2147483648 := by
  induction f with
  | nil => rw [atS_nil]; omega
  | cons c f ih =>
    rw [atS_cons]
    by_cases e : c.t = u
    · subst e
      rw [if_pos rfl, atS_head h]
      have := (IV.ok_iff c).1 (h.1 c (by simp))
      omega
    · rw [if_neg e]
      have := ih (good_tail h)
      omega
/-- two right bags in which each record is there as often are one -/
theorem good_ext : ∀ {f g : List IV}, goodI f → goodI g → (∀ u, atS f u = atS g u) → f = g
  | [], [], _, _, _ => rfl
  | [], c :: g, _, hg, h => by
    exfalso
    have := h c.t
    rw [atS_nil, atS_cons, if_pos rfl, atS_head hg] at this
    exact ((IV.ok_iff c).1 (hg.1 c (by simp))).1 (by omega)
  | c :: f, [], hf, _, h => by
    exfalso
    have := h c.t
    rw [atS_nil, atS_cons, if_pos rfl, atS_head hf] at this
    exact ((IV.ok_iff c).1 (hf.1 c (by simp))).1 (by omega)
  | c :: f, d :: g, hf, hg, h => by
    have hc := (IV.ok_iff c).1 (hf.1 c (by simp))
    have hd := (IV.ok_iff d).1 (hg.1 d (by simp))
    have e : c.t = d.t := by
      refine RV.tri ?_ ?_
      · cases q : c.t.lt d.t
        · rfl
        · exfalso
          have := h c.t
          rw [atS_cons, if_pos rfl, atS_head hf, atS_low (f := d :: g) (fun x hx => by
            rcases List.mem_cons.1 hx with rfl | hx
            · exact q
            · exact RV.lt_trans q (good_low hg x hx))] at this
          omega
      · cases q : d.t.lt c.t
        · rfl
        · exfalso
          have := h d.t
          rw [atS_cons (c := d), if_pos rfl, atS_head hg, atS_low (f := c :: f) (fun x hx => by
            rcases List.mem_cons.1 hx with rfl | hx
            · exact q
            · exact RV.lt_trans q (good_low hf x hx))] at this
          omega
    have en : c.n = d.n := by
      have := h c.t
      rw [atS_cons, if_pos rfl, atS_head hf, atS_cons, if_pos e.symm, e, atS_head hg] at this
      omega
    have ec : c = d := by cases c; cases d; simp only at e en; subst e; subst en; rfl
    subst ec
    rw [good_ext (good_tail hf) (good_tail hg) (fun u => by have := h u; rw [atS_cons, atS_cons] at this; omega)]
/-- as many more, if it fits -/
def addF (x y : Int) : Int := if fitsN (x + y) = true then x + y else x
theorem addF_fit {x y : Int} (h : -2147483648 ≤ x + y ∧ x + y ≤ 2147483648) : addF x y = x + y := if_pos ((fitsN_iff _).2 h)
structure MergeP (a b m : List IV) : Prop where
  good : goodI m
  at_ : ∀ u, atS m u = addF (atS a u) (atS b u)
  low : ∀ u : RV, (∀ c ∈ a, u.lt c.t = true) → (∀ c ∈ b, u.lt c.t = true) → ∀ c ∈ m, u.lt c.t = true
  len : m.length ≤ a.length + b.length
theorem merged_is : ∀ (a b : List IV), goodI a → goodI b → MergeP a b (mergedI a b)
  | [], b, _, hb => by
    rw [nil_mergedI]
    refine ⟨hb, fun u => ?_, fun u _ h => h, by simp⟩
    rw [atS_nil, addF_fit (by have := atS_fits hb u; omega), Int.zero_add]
  | x :: a, [], ha, _ => by
    rw [mergedI_nil]
    refine ⟨ha, fun u => ?_, fun u h _ => h, by simp⟩
    rw [atS_nil, addF_fit (by have := atS_fits ha u; omega), Int.add_zero]
  | x :: a, y :: b, ha, hb => by
    have hx := (IV.ok_iff x).1 (ha.1 x (by simp))
    have hy := (IV.ok_iff y).1 (hb.1 y (by simp))
    by_cases h1 : cmpR x.t y.t < 0
    · have q : x.t.lt y.t = true := by rw [← cmpR_lt]; exact decide_eq_true h1
      rw [mergedI_lt a b h1]
      have ih := merged_is a (y :: b) (good_tail ha) hb
      have lb : ∀ c ∈ y :: b, x.t.lt c.t = true := fun c hc => by
        rcases List.mem_cons.1 hc with rfl | hc
        · exact q
        · exact RV.lt_trans q (good_low hb c hc)
      have lw := ih.low x.t (good_low ha) lb
      refine ⟨good_cons (ha.1 x (by simp)) lw ih.good, fun u => ?_, fun u hu hv c hc => ?_, ?_⟩
      · by_cases e : x.t = u
        · subst e
          rw [atS_cons, if_pos rfl, atS_cons (c := x) (f := a), if_pos rfl, atS_low lw, atS_low (good_low ha), atS_low lb, addF_fit (by omega)]
          omega
        · rw [atS_cons, if_neg e, atS_cons (c := x) (f := a), if_neg e, ih.at_ u, Int.zero_add, Int.zero_add]
      · rcases List.mem_cons.1 hc with rfl | hc
        · exact hu _ (by simp)
        · exact ih.low u (fun d hd => hu d (by simp [hd])) hv c hc
      · have := ih.len; simp only [List.length_cons] at *; omega
    · by_cases h2 : 0 < cmpR x.t y.t
      · have q : y.t.lt x.t = true := by rw [← cmpR_gt]; exact decide_eq_true h2
        rw [mergedI_gt a b h2]
        have ih := merged_is (x :: a) b ha (good_tail hb)
        have la : ∀ c ∈ x :: a, y.t.lt c.t = true := fun c hc => by
          rcases List.mem_cons.1 hc with rfl | hc
          · exact q
          · exact RV.lt_trans q (good_low ha c hc)
        have lw := ih.low y.t la (good_low hb)
        refine ⟨good_cons (hb.1 y (by simp)) lw ih.good, fun u => ?_, fun u hu hv c hc => ?_, ?_⟩
        · by_cases e : y.t = u
          · subst e
            rw [atS_cons, if_pos rfl, atS_low lw, atS_low la, atS_cons, if_pos rfl, atS_low (good_low hb), addF_fit (by omega)]
            omega
          · rw [atS_cons, if_neg e, ih.at_ u, atS_cons (c := y) (f := b), if_neg e, Int.zero_add, Int.zero_add]
        · rcases List.mem_cons.1 hc with rfl | hc
          · exact hv _ (by simp)
          · exact ih.low u hu (fun d hd => hv d (by simp [hd])) c hc
        · have := ih.len; simp only [List.length_cons] at *; omega
      · have h0 : cmpR x.t y.t = 0 := by omega
        have e := (cmpR_zero _ _).1 h0
        have ih := merged_is a b (good_tail ha) (good_tail hb)
        have lw := ih.low x.t (good_low ha) (by rw [e]; exact good_low hb)
        have hm : moreI x y.n = ⟨x.t, addF x.n y.n⟩ := by
          unfold moreI addF
          split <;> rfl
        have hau : ∀ u, atS (x :: a) u = if x.t = u then x.n else atS a u := fun u => by
          rw [atS_cons]
          by_cases k : x.t = u
          · subst k; rw [if_pos rfl, if_pos rfl, atS_head ha]; omega
          · rw [if_neg k, if_neg k]; omega
        have hbu : ∀ u, atS (y :: b) u = if x.t = u then y.n else atS b u := fun u => by
          rw [atS_cons, ← e]
          by_cases k : x.t = u
          · subst k; rw [if_pos rfl, if_pos rfl, e, atS_head hb]; omega
          · rw [if_neg k, if_neg k]; omega
        by_cases hz : (moreI x y.n).n = 0
        · rw [mergedI_no a b h0 hz]
          rw [hm] at hz
          refine ⟨ih.good, fun u => ?_, fun u hu hv c hc => ih.low u (fun d hd => hu d (by simp [hd])) (fun d hd => hv d (by simp [hd])) c hc, ?_⟩
          · rw [hau, hbu]
            by_cases k : x.t = u
            · rw [if_pos k, if_pos k, ← k, atS_low lw]; exact hz.symm
            · rw [if_neg k, if_neg k]; exact ih.at_ u
          · have := ih.len; simp only [List.length_cons] at *; omega
        · rw [mergedI_one a b h0 hz]
          rw [hm] at hz ⊢
          refine ⟨good_cons ?_ lw ih.good, fun u => ?_, fun u hu hv c hc => ?_, ?_⟩
          · rw [IV.ok_iff]
            refine ⟨hz, ?_⟩
            show -2147483648 ≤ addF x.n y.n ∧ addF x.n y.n ≤ 2147483648
            unfold addF
            split
            · rename_i k; exact (fitsN_iff _).1 k
            · exact hx.2
          · rw [hau, hbu, atS_cons]
            by_cases k : x.t = u
            · rw [if_pos k, if_pos k, if_pos k, ← k, atS_low lw]; simp only; omega
            · rw [if_neg k, if_neg k, if_neg k, ih.at_ u]; omega
          · rcases List.mem_cons.1 hc with rfl | hc
            · exact hu x (by simp)
            · exact ih.low u (fun d hd => hu d (by simp [hd])) (fun d hd => hv d (by simp [hd])) c hc
          · have := ih.len; simp only [List.length_cons] at *; omega
termination_by a b => a.length + b.length
def plusI (a b : List IV) : List IV := if rightI a = true ∧ rightI b = true then mergedI a b else a
def addI (b : List IV) (r : RV) (n : Int) : List IV := plusI b [⟨r, n⟩]
theorem plusI_is {a b : List IV} (ha : goodI a) (hb : goodI b) : MergeP a b (plusI a b) := by
  unfold plusI
  rw [if_pos ⟨(rightI_iff a).2 ha, (rightI_iff b).2 hb⟩]
  exact merged_is a b ha hb
theorem plusI_len (a b : List IV) : (plusI a b).length ≤ a.length + b.length := by
  by_cases h : rightI a = true ∧ rightI b = true
  · exact (plusI_is ((rightI_iff a).1 h.1) ((rightI_iff b).1 h.2)).len
  · unfold plusI; rw [if_neg h]; omega
theorem thereI_good (f : List IV) : goodI (thereI f) := by
  unfold thereI
  split
  · rename_i h
    have h := (rightI_iff f).1 h
    exact ⟨fun c hc => h.1 c (List.mem_filter.1 hc).1, h.2.filter _⟩
  · exact goodI_nil
theorem thereI_pos (f : List IV) : ∀ c ∈ thereI f, 0 < c.n := by
  unfold thereI
  split
  · intro c hc; simpa using (List.mem_filter.1 hc).2
  · intro c hc; cases hc
theorem thereI_len (f : List IV) : (thereI f).length ≤ f.length := by
  unfold thereI
  split
  · exact pos_length f
  · simp
theorem thereI_pos_good {f : List IV} (h : goodI f) (hp : ∀ c ∈ f, 0 < c.n) : thereI f = f := by
  unfold thereI
  rw [if_pos ((rightI_iff f).2 h)]
  exact List.filter_eq_self.2 fun c hc => decide_eq_true (hp c hc)
theorem thereI_idem (f : List IV) : thereI (thereI f) = thereI f := thereI_pos_good (thereI_good f) (thereI_pos f)
theorem plusI_nil {f : List IV} (h : goodI f) : plusI f [] = f := by
  unfold plusI
  rw [if_pos ⟨(rightI_iff f).2 h, by decide⟩, mergedI_nil]
theorem nil_plusI {f : List IV} (h : goodI f) : plusI [] f = f := by
  unfold plusI
  rw [if_pos ⟨by decide, (rightI_iff f).2 h⟩, nil_mergedI]
end Go.Proofs.YthhceggcdaljdaaGreat
/- the bag of records, as plain facts -/
namespace Go.Proofs.YthhceggcdaljdaaGreat
open Go.RowKit
set_option linter.unusedVariables false
set_option linter.unusedSimpArgs false

def cntR (xs : List RV) (u : RV) : Int := (xs.map fun r => if r = u then (1 : Int) else 0).sum
theorem cntR_nil (u : RV) : cntR [] u = 0 := rfl
theorem cntR_cons (r : RV) (xs : List RV) (u : RV) : cntR (r :: xs) u = (if r = u then 1 else 0) + cntR xs u := by simp [cntR]
theorem cntR_append (xs ys : List RV) (u : RV) : cntR (xs ++ ys) u = cntR xs u + cntR ys u := by simp [cntR]
theorem cntR_le (xs : List RV) (u : RV) : 0 ≤ cntR xs u ∧ cntR xs u ≤ xs.length := by
  induction xs with
  | nil => exact ⟨Int.le_refl _, Int.le_refl _⟩
  | cons r xs ih =>
    rw [cntR_cons, List.length_cons]
    split <;> omega
theorem cntR_perm {xs ys : List RV} (h : xs.Perm ys) (u : RV) : cntR xs u = cntR ys u := by
  induction h with
  | nil => rfl
  | cons x _ ih => rw [cntR_cons, cntR_cons, ih]
  | swap x y l => rw [cntR_cons, cntR_cons, cntR_cons, cntR_cons]; omega
  | trans _ _ h1 h2 => exact h1.trans h2
/-- each of these once, one by one, as the document says it -/
def ofI (xs : List RV) : List IV := xs.foldl (fun b r => addI b r 1) []
theorem one_good (r : RV) {n : Int} (h : n ≠ 0 ∧ -2147483648 ≤ n ∧ n ≤ 2147483648) : goodI [⟨r, n⟩] :=
  good_cons ((IV.ok_iff _).2 h) (fun d hd => (by cases hd)) goodI_nil
theorem atS_one (r : RV) (n : Int) (u : RV) : atS [⟨r, n⟩] u = if r = u then n else 0 := by rw [atS_cons, atS_nil]; simp
theorem fold_is : ∀ (xs : List RV) (b : List IV), goodI b → (∀ u, 0 ≤ atS b u ∧ atS b u + xs.length ≤ 2147483648) →
    goodI (xs.foldl (fun b r => addI b r 1) b) ∧ (∀ u, atS (xs.foldl (fun b r => addI b r 1) b) u = atS b u + cntR xs u) ∧ (xs.foldl (fun b r => addI b r 1) b).length ≤ b.length + xs.length
  | [], b, hb, _ => ⟨hb, fun u => by rw [cntR_nil]; simp, by simp⟩
  | r :: xs, b, hb, hn => by
    simp only [List.length_cons] at hn
    have P := plusI_is hb (one_good r (n := 1) (by omega))
    have hat : ∀ u, atS (addI b r 1) u = atS b u + (if r = u then 1 else 0) := fun u => by
      show atS (plusI b [⟨r, 1⟩]) u = _
      have h := hn u
      rw [P.at_, atS_one]
      exact addF_fit (by split <;> omega)
    have ih := fold_is xs (addI b r 1) P.good (fun u => by
      have h := hn u
      rw [hat]
      split <;> omega)
    refine ⟨ih.1, fun u => ?_, ?_⟩
    · show atS (xs.foldl _ (addI b r 1)) u = _
      rw [ih.2.1 u, hat, cntR_cons]; omega
    · have h1 := ih.2.2
      have h2 := P.len
      have h3 : (addI b r 1).length ≤ b.length + 1 := h2
      simp only [List.foldl_cons, List.length_cons]
      omega
theorem ofI_is {xs : List RV} (h : xs.length ≤ 2147483648) : goodI (ofI xs) ∧ (∀ u, atS (ofI xs) u = cntR xs u) ∧ (ofI xs).length ≤ xs.length := by
  have := fold_is xs [] goodI_nil (fun u => by rw [atS_nil]; omega)
  refine ⟨this.1, fun u => ?_, by have h := this.2.2; rw [List.length_nil, Nat.zero_add] at h; exact h⟩
  have h2 := this.2.1 u
  rw [atS_nil, Int.zero_add] at h2
  exact h2
/-- what the program does with each of the sorted ones -/
def stepO (acc : List IV) (r : RV) : List IV :=
  match acc.getLast? with
  | some c => if c.t = r then acc.dropLast ++ [⟨c.t, c.n + 1⟩] else acc ++ [⟨r, 1⟩]
  | none => acc ++ [⟨r, 1⟩]
theorem stepO_nil (r : RV) : stepO [] r = [⟨r, 1⟩] := rfl
theorem stepO_same (acc : List IV) (c : IV) : stepO (acc ++ [c]) c.t = acc ++ [⟨c.t, c.n + 1⟩] := by simp [stepO]
theorem stepO_other (acc : List IV) (c : IV) {r : RV} (h : ¬ c.t = r) : stepO (acc ++ [c]) r = (acc ++ [c]) ++ [⟨r, 1⟩] := by simp [stepO, h]
theorem good_append {f g : List IV} (hf : goodI f) (hg : goodI g) (h : ∀ c ∈ f, ∀ d ∈ g, c.t.lt d.t = true) : goodI (f ++ g) := by
  refine ⟨fun c hc => ?_, List.pairwise_append.2 ⟨hf.2, hg.2, h⟩⟩
  rcases List.mem_append.1 hc with hc | hc
  · exact hf.1 c hc
  · exact hg.1 c hc
theorem good_left {f g : List IV} (h : goodI (f ++ g)) : goodI f := ⟨fun c hc => h.1 c (List.mem_append.2 (.inl hc)), (List.pairwise_append.1 h.2).1⟩
structure AccP (p : List RV) (acc : List IV) : Prop where
  good : goodI acc
  at_ : ∀ u, atS acc u = cntR p u
  mem : ∀ c ∈ acc, c.t ∈ p
  pos : ∀ c ∈ acc, 0 < c.n ∧ c.n ≤ p.length
  len : acc.length ≤ p.length
theorem acc_step {p : List RV} {acc : List IV} {r : RV} (hl : p.length < 2147483648) (h : AccP p acc) (hs : ∀ x ∈ p, r.lt x = false) : AccP (p ++ [r]) (stepO acc r) := by
  have hplen : (p ++ [r]).length = p.length + 1 := by simp
  rcases List.eq_nil_or_concat acc with rfl | ⟨acc', c, rfl⟩
  · rw [stepO_nil]
    refine ⟨one_good r (by omega), fun u => ?_, fun c hc => ?_, fun c hc => ?_, by simp⟩
    · rw [atS_one, cntR_append, cntR_cons, cntR_nil, ← h.at_ u, atS_nil]; omega
    · simp at hc; subst hc; simp
    · simp at hc; subst hc; rw [hplen]; simp only; omega
  · rw [List.concat_eq_append] at h ⊢
    by_cases e : c.t = r
    · subst e
      rw [stepO_same]
      have hc := h.pos c (by simp)
      have hlow : ∀ x ∈ acc', x.t.lt c.t = true := fun x hx => (List.pairwise_append.1 h.good.2).2.2 x hx c (by simp)
      refine ⟨good_append (good_left h.good) (one_good c.t (by omega)) (fun x hx d hd => ?_), fun u => ?_, fun x hx => ?_, fun x hx => ?_, ?_⟩
      · simp at hd; subst hd; exact hlow x hx
      · have := h.at_ u
        rw [atS_append, atS_cons, atS_nil] at this
        rw [atS_append, atS_one, cntR_append, cntR_cons, cntR_nil, ← this]
        split <;> omega
      · rcases List.mem_append.1 hx with hx | hx
        · have := h.mem x (by simp [hx]); simp [this]
        · simp at hx; subst hx; simp
      · rcases List.mem_append.1 hx with hx | hx
        · have := h.pos x (by simp [hx]); rw [hplen]; omega
        · simp at hx; subst hx; rw [hplen]; simp only; omega
      · have := h.len; simp at *; omega
    · rw [stepO_other _ _ e]
      have hcr : c.t.lt r = true := by
        cases q : c.t.lt r
        · exact absurd (RV.tri q (hs c.t (h.mem c (by simp)))) e
        · rfl
      have hall : ∀ x ∈ acc' ++ [c], x.t.lt r = true := fun x hx => by
        rcases List.mem_append.1 hx with hx | hx
        · exact RV.lt_trans ((List.pairwise_append.1 h.good.2).2.2 x hx c (by simp)) hcr
        · simp at hx; subst hx; exact hcr
      refine ⟨good_append h.good (one_good r (by omega)) (fun x hx d hd => ?_), fun u => ?_, fun x hx => ?_, fun x hx => ?_, ?_⟩
      · simp at hd; subst hd; exact hall x hx
      · rw [atS_append, atS_one, h.at_ u, cntR_append, cntR_cons, cntR_nil]; omega
      · rcases List.mem_append.1 hx with hx | hx
        · have := h.mem x hx; simp [this]
        · simp at hx; subst hx; simp
      · rcases List.mem_append.1 hx with hx | hx
        · have := h.pos x hx; rw [hplen]; omega
        · simp at hx; subst hx; rw [hplen]; simp only; omega
      · have := h.len; simp at *; omega
theorem acc_nil : AccP [] [] := ⟨goodI_nil, fun _ => rfl, fun _ h => (by cases h), fun _ h => (by cases h), Nat.le_refl _⟩
theorem acc_done {xs ys : List RV} {acc : List IV} (hl : xs.length ≤ 2147483648) (hp : ys.Perm xs) (h : AccP ys acc) : acc = ofI xs := by
  have O := ofI_is hl
  exact good_ext h.good O.1 (fun u => by rw [h.at_, O.2.1, cntR_perm hp])
end Go.Proofs.YthhceggcdaljdaaGreat
