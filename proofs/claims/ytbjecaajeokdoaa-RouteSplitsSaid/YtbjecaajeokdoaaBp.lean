/- bags as plain facts: how often a record is there, and what adding does -/
import Derived.Test.YtbjecaajeokdoaaBq
import Derived.Test.YtbjecaajeokdoaaBt
namespace Go.Proofs.Ytbjecaajeokdoaa
open Go.RowKit
set_option linter.unusedVariables false
set_option linter.unusedSimpArgs false

def goodI (f : List IV) : Prop := (∀ c ∈ f, c.ok = true) ∧ f.Pairwise fun a b => a.t.lt b.t = true
theorem fitsN_iff (n : Int) : fitsN n = true ↔ -2147483648 ≤ n ∧ n ≤ 2147483648 := by simp [fitsN]
theorem IV.ok_iff (c : IV) : c.ok = true ↔ c.n ≠ 0 ∧ -2147483648 ≤ c.n ∧ c.n ≤ 2147483648 := by
  simp [IV.ok, fitsN]
theorem rightI_iff (f : List IV) : rightI f = true ↔ goodI f := by
  have key : ∀ (j : Nat) (hj : j < f.length), f[j]! = f[j] := fun j hj => getElem!_pos f j hj
  unfold rightI upI
  rw [decide_eq_true_eq]
  constructor
  · intro h
    refine ⟨fun c hc => ?_, ?_⟩
    · obtain ⟨j, hj, rfl⟩ := List.mem_iff_getElem.1 hc
      have := (h j hj).1
      rwa [key j hj] at this
    · have step : ∀ (d j : Nat) (hj : j + d + 1 < f.length), (f[j]'(by omega)).t.lt (f[j + d + 1]).t = true := by
        intro d
        induction d with
        | zero =>
          intro j hj
          have := (h (j + 1) hj).2 (by omega)
          rw [Nat.add_sub_cancel, key _ (by omega), key _ hj] at this
          exact this
        | succ d ih =>
          intro j hj
          have h1 := ih j (by omega)
          have h2 := (h (j + (d + 1) + 1) hj).2 (by omega)
          rw [Nat.add_sub_cancel, key _ (by omega), key _ hj] at h2
          exact RV.lt_trans h1 h2
      rw [List.pairwise_iff_getElem]
      intro i j hi hj hij
      have := step (j - i - 1) i (by omega)
      have e : i + (j - i - 1) + 1 = j := by omega
      simp only [e] at this
      exact this
  · rintro ⟨h1, h2⟩ j hj
    rw [key j hj]
    refine ⟨h1 _ (List.getElem_mem hj), fun h0 => ?_⟩
    rw [key (j - 1) (by omega)]
    exact List.pairwise_iff_getElem.1 h2 (j - 1) j (by omega) hj (by omega)
def atS (f : List IV) (u : RV) : Int := (f.map fun c => if c.t = u then c.n else 0).sum
theorem atS_nil (u : RV) : atS [] u = 0 := rfl
theorem atS_cons (c : IV) (f : List IV) (u : RV) : atS (c :: f) u = (if c.t = u then c.n else 0) + atS f u := by simp [atS]
theorem atS_append (f g : List IV) (u : RV) : atS (f ++ g) u = atS f u + atS g u := by simp [atS]
theorem atS_zero {f : List IV} {u : RV} (h : ∀ c ∈ f, c.t ≠ u) : atS f u = 0 := by
  induction f with
  | nil => rfl
  | cons c f ih => rw [atS_cons, if_neg (h c (by simp)), ih (fun d hd => h d (by simp [hd]))]; rfl
theorem goodI_nil : goodI [] := ⟨fun _ h => (by cases h), List.Pairwise.nil⟩
theorem good_tail {c : IV} {f : List IV} (h : goodI (c :: f)) : goodI f := ⟨fun d hd => h.1 d (by simp [hd]), (List.pairwise_cons.1 h.2).2⟩
theorem atS_low {f : List IV} {u : RV} (h : ∀ c ∈ f, u.lt c.t = true) : atS f u = 0 := atS_zero fun c hc e => by
  have := h c hc
  rw [e, RV.lt_irrefl] at this
  cases this
theorem atS_head {c : IV} {f : List IV} (h : goodI (c :: f)) : atS f c.t = 0 := atS_low (List.pairwise_cons.1 h.2).1
theorem good_low {c : IV} {f : List IV} (h : goodI (c :: f)) : ∀ d ∈ f, c.t.lt d.t = true := (List.pairwise_cons.1 h.2).1
theorem good_cons {c : IV} {f : List IV} (hc : c.ok = true) (hl : ∀ d ∈ f, c.t.lt d.t = true) (hf : goodI f) : goodI (c :: f) := by
  refine ⟨fun d hd => ?_, List.pairwise_cons.2 ⟨hl, hf.2⟩⟩
  rcases List.mem_cons.1 hd with rfl | hd
  · exact hc
  · exact hf.1 d hd
theorem atS_fits {f : List IV} (h : goodI f) (u : RV) : -2147483648 ≤ atS f u ∧ atS f u ≤ 2147483648 := by
  induction f with
  | nil => rw [atS_nil]; omega
  | cons c f ih =>
    rw [atS_cons]
    by_cases e : c.t = u
    · subst e
      rw [if_pos rfl, atS_head h]
      have := (IV.ok_iff c).1 (h.1 c (by simp))
      omega
    · rw [if_neg e]
      have := ih (good_tail h)
      omega
/-- two right bags in which each record is there as often are one -/
theorem good_ext : ∀ {f g : List IV}, goodI f → goodI g → (∀ u, atS f u = atS g u) → f = g
  | [], [], _, _, _ => rfl
  | [], c :: g, _, hg, h => by
    exfalso
    have := h c.t
    rw [atS_nil, atS_cons, if_pos rfl, atS_head hg] at this
    exact ((IV.ok_iff c).1 (hg.1 c (by simp))).1 (by omega)
  | c :: f, [], hf, _, h => by
    exfalso
    have := h c.t
    rw [atS_nil, atS_cons, if_pos rfl, atS_head hf] at this
    exact ((IV.ok_iff c).1 (hf.1 c (by simp))).1 (by omega)
  | c :: f, d :: g, hf, hg, h => by
    have hc := (IV.ok_iff c).1 (hf.1 c (by simp))
    have hd := (IV.ok_iff d).1 (hg.1 d (by simp))
    have e : c.t = d.t := by
      refine RV.tri ?_ ?_
      · cases q : c.t.lt d.t
        · rfl
        · exfalso
          have := h c.t
          rw [atS_cons, if_pos rfl, atS_head hf, atS_low (f := d :: g) (fun x hx => by
            rcases List.mem_cons.1 hx with rfl | hx
            · exact q
            · exact RV.lt_trans q (good_low hg x hx))] at this
          omega
      · cases q : d.t.lt c.t
        · rfl
        · exfalso
          have := h d.t
          rw [atS_cons (c := d), if_pos rfl, atS_head hg, atS_low (f := c :: f) (fun x hx => by
            rcases List.mem_cons.1 hx with rfl | hx
            · exact q
            · exact RV.lt_trans q (good_low hf x hx))] at this
          omega
    have en : c.n = d.n := by
      have := h c.t
      rw [atS_cons, if_pos rfl, atS_head hf, atS_cons, if_pos e.symm, e, atS_head hg] at this
      omega
    have ec : c = d := by cases c; cases d; simp only at e en; subst e; subst en; rfl
    subst ec
    rw [good_ext (good_tail hf) (good_tail hg) (fun u => by have := h u; rw [atS_cons, atS_cons] at this; omega)]
/-- as many more, if it fits -/
def addF (x y : Int) : Int := if fitsN (x + y) = true then x + y else x
theorem addF_fit {x y : Int} (h : -2147483648 ≤ x + y ∧ x + y ≤ 2147483648) : addF x y = x + y := if_pos ((fitsN_iff _).2 h)
structure MergeP (a b m : List IV) : Prop where
  good : goodI m
  at_ : ∀ u, atS m u = addF (atS a u) (atS b u)
  low : ∀ u : RV, (∀ c ∈ a, u.lt c.t = true) → (∀ c ∈ b, u.lt c.t = true) → ∀ c ∈ m, u.lt c.t = true
  len : m.length ≤ a.length + b.length
theorem merged_is : ∀ (a b : List IV), goodI a → goodI b → MergeP a b (mergedI a b)
  | [], b, _, hb => by
    rw [nil_mergedI]
    refine ⟨hb, fun u => ?_, fun u _ h => h, by simp⟩
    rw [atS_nil, addF_fit (by have := atS_fits hb u; omega), Int.zero_add]
  | x :: a, [], ha, _ => by
    rw [mergedI_nil]
    refine ⟨ha, fun u => ?_, fun u h _ => h, by simp⟩
    rw [atS_nil, addF_fit (by have := atS_fits ha u; omega), Int.add_zero]
  | x :: a, y :: b, ha, hb => by
    have hx := (IV.ok_iff x).1 (ha.1 x (by simp))
    have hy := (IV.ok_iff y).1 (hb.1 y (by simp))
    by_cases h1 : cmpR x.t y.t < 0
    · have q : x.t.lt y.t = true := by rw [← cmpR_lt]; exact decide_eq_true h1
      rw [mergedI_lt a b h1]
      have ih := merged_is a (y :: b) (good_tail ha) hb
      have lb : ∀ c ∈ y :: b, x.t.lt c.t = true := fun c hc => by
        rcases List.mem_cons.1 hc with rfl | hc
        · exact q
        · exact RV.lt_trans q (good_low hb c hc)
      have lw := ih.low x.t (good_low ha) lb
      refine ⟨good_cons (ha.1 x (by simp)) lw ih.good, fun u => ?_, fun u hu hv c hc => ?_, ?_⟩
      · by_cases e : x.t = u
        · subst e
          rw [atS_cons, if_pos rfl, atS_cons (c := x) (f := a), if_pos rfl, atS_low lw, atS_low (good_low ha), atS_low lb, addF_fit (by omega)]
          omega
        · rw [atS_cons, if_neg e, atS_cons (c := x) (f := a), if_neg e, ih.at_ u, Int.zero_add, Int.zero_add]
      · rcases List.mem_cons.1 hc with rfl | hc
        · exact hu _ (by simp)
        · exact ih.low u (fun d hd => hu d (by simp [hd])) hv c hc
      · have := ih.len; simp only [List.length_cons] at *; omega
    · by_cases h2 : 0 < cmpR x.t y.t
      · have q : y.t.lt x.t = true := by rw [← cmpR_gt]; exact decide_eq_true h2
        rw [mergedI_gt a b h2]
        have ih := merged_is (x :: a) b ha (good_tail hb)
        have la : ∀ c ∈ x :: a, y.t.lt c.t = true := fun c hc => by
          rcases List.mem_cons.1 hc with rfl | hc
          · exact q
          · exact RV.lt_trans q (good_low ha c hc)
        have lw := ih.low y.t la (good_low hb)
        refine ⟨good_cons (hb.1 y (by simp)) lw ih.good, fun u => ?_, fun u hu hv c hc => ?_, ?_⟩
        · by_cases e : y.t = u
          · subst e
            rw [atS_cons, if_pos rfl, atS_low lw, atS_low la, atS_cons, if_pos rfl, atS_low (good_low hb), addF_fit (by omega)]
            omega
          · rw [atS_cons, if_neg e, ih.at_ u, atS_cons (c := y) (f := b), if_neg e, Int.zero_add, Int.zero_add]
        · rcases List.mem_cons.1 hc with rfl | hc
          · exact hv _ (by simp)
          · exact ih.low u hu (fun d hd => hv d (by simp [hd])) c hc
        · have := ih.len; simp only [List.length_cons] at *; omega
      · have h0 : cmpR x.t y.t = 0 := by omega
        have e := (cmpR_zero _ _).1 h0
        have ih := merged_is a b (good_tail ha) (good_tail hb)
        have lw := ih.low x.t (good_low ha) (by rw [e]; exact good_low hb)
        have hm : moreI x y.n = ⟨x.t, addF x.n y.n⟩ := by
          unfold moreI addF
          split <;> rfl
        have hau : ∀ u, atS (x :: a) u = if x.t = u then x.n else atS a u := fun u => by
          rw [atS_cons]
          by_cases k : x.t = u
          · subst k; rw [if_pos rfl, if_pos rfl, atS_head ha]; omega
          · rw [if_neg k, if_neg k]; omega
        have hbu : ∀ u, atS (y :: b) u = if x.t = u then y.n else atS b u := fun u => by
          rw [atS_cons, ← e]
          by_cases k : x.t = u
          · subst k; rw [if_pos rfl, if_pos rfl, e, atS_head hb]; omega
          · rw [if_neg k, if_neg k]; omega
        by_cases hz : (moreI x y.n).n = 0
        · rw [mergedI_no a b h0 hz]
          rw [hm] at hz
          refine ⟨ih.good, fun u => ?_, fun u hu hv c hc => ih.low u (fun d hd => hu d (by simp [hd])) (fun d hd => hv d (by simp [hd])) c hc, ?_⟩
          · rw [hau, hbu]
            by_cases k : x.t = u
            · rw [if_pos k, if_pos k, ← k, atS_low lw]; exact hz.symm
            · rw [if_neg k, if_neg k]; exact ih.at_ u
          · have := ih.len; simp only [List.length_cons] at *; omega
        · rw [mergedI_one a b h0 hz]
          rw [hm] at hz ⊢
          refine ⟨good_cons ?_ lw ih.good, fun u => ?_, fun u hu hv c hc => ?_, ?_⟩
          · rw [IV.ok_iff]
            refine ⟨hz, ?_⟩
            show -2147483648 ≤ addF x.n y.n ∧ addF x.n y.n ≤ 2147483648
            unfold addF
            split
            · rename_i k; exact (fitsN_iff _).1 k
            · exact hx.2
          · rw [hau, hbu, atS_cons]
            by_cases k : x.t = u
            · rw [if_pos k, if_pos k, if_pos k, ← k, atS_low lw]; simp only; omega
            · rw [if_neg k, if_neg k, if_neg k, ih.at_ u]; omega
          · rcases List.mem_cons.1 hc with rfl | hc
            · exact hu x (by simp)
            · exact ih.low u (fun d hd => hu d (by simp [hd])) (fun d hd => hv d (by simp [hd])) c hc
          · have := ih.len; simp only [List.length_cons] at *; omega
termination_by a b => a.length + b.length
def plusI (a b : List IV) : List IV := if rightI a = true ∧ rightI b = true then mergedI a b else a
def addI (b : List IV) (r : RV) (n : Int) : List IV := plusI b [⟨r, n⟩]
theorem plusI_is {a b : List IV} (ha : goodI a) (hb : goodI b) : MergeP a b (plusI a b) := by
  unfold plusI
  rw [if_pos ⟨(rightI_iff a).2 ha, (rightI_iff b).2 hb⟩]
  exact merged_is a b ha hb
theorem plusI_len (a b : List IV) : (plusI a b).length ≤ a.length + b.length := by
  by_cases h : rightI a = true ∧ rightI b = true
  · exact (plusI_is ((rightI_iff a).1 h.1) ((rightI_iff b).1 h.2)).len
  · unfold plusI; rw [if_neg h]; omega
theorem thereI_good (f : List IV) : goodI (thereI f) := by
  unfold thereI
  split
  · rename_i h
    have h := (rightI_iff f).1 h
    exact ⟨fun c hc => h.1 c (List.mem_filter.1 hc).1, h.2.filter _⟩
  · exact goodI_nil
theorem thereI_pos (f : List IV) : ∀ c ∈ thereI f, 0 < c.n := by
  unfold thereI
  split
  · intro c hc; simpa using (List.mem_filter.1 hc).2
  · intro c hc; cases hc
theorem thereI_len (f : List IV) : (thereI f).length ≤ f.length := by
  unfold thereI
  split
  · exact pos_length f
  · simp
theorem thereI_pos_good {f : List IV} (h : goodI f) (hp : ∀ c ∈ f, 0 < c.n) : thereI f = f := by
  unfold thereI
  rw [if_pos ((rightI_iff f).2 h)]
  exact List.filter_eq_self.2 fun c hc => decide_eq_true (hp c hc)
theorem thereI_idem (f : List IV) : thereI (thereI f) = thereI f := thereI_pos_good (thereI_good f) (thereI_pos f)
theorem plusI_nil {f : List IV} (h : goodI f) : plusI f [] = f := by
  unfold plusI
  rw [if_pos ⟨(rightI_iff f).2 h, by decide⟩, mergedI_nil]
theorem nil_plusI {f : List IV} (h : goodI f) : plusI [] f = f := by
  unfold plusI
  rw [if_pos ⟨by decide, (rightI_iff f).2 h⟩, nil_mergedI]
end Go.Proofs.Ytbjecaajeokdoaa
