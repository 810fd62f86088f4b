/- bags as plain facts: how often a record is there, and what adding does -/
import Derived.Test.YthomddbekiknjaaGreatG03
import Derived.Test.YthomddbekiknjaaGreatG01
import Derived.Laws.MakeOwn
namespace Go.Proofs.YthomddbekiknjaaGreat
open Go.RowKit
set_option linter.unusedVariables false
set_option linter.unusedSimpArgs false

def goodI (f : List IV) : Prop := (∀ c ∈ f, c.ok = true) ∧ f.Pairwise fun a b => a.t.lt b.t = true
theorem fitsN_iff (n : Int) : fitsN n = true ↔ -2147483648 ≤ n ∧ n ≤ 2147483648 := by simp [fitsN]
theorem IV.ok_iff (c : IV) : c.ok = true ↔ c.n ≠ 0 ∧ -2147483648 ≤ c.n ∧ c.n ≤ 2147483648 := by
  simp [IV.ok, fitsN]
theorem rightI_iff (f : List IV) : rightI f = true ↔ goodI f := by
  have key : ∀ (j : Nat) (hj : j < f.length), f[j]! = f[j] := fun j hj => getElem!_pos f j hj
  unfold rightI upI
  rw [decide_eq_true_eq]
  constructor
  · intro h
    refine ⟨fun c hc => ?_, ?_⟩
    · obtain ⟨j, hj, rfl⟩ := List.mem_iff_getElem.1 hc
      have := (h j hj).1
      rwa [key j hj] at this
    · have step : ∀ (d j : Nat) (hj : j + d + 1 < f.length), (f[j]'(by omega)).t.lt (f[j + d + 1]).t = true := by
        intro d
        induction d with
        | zero =>
          intro j hj
          have := (h (j + 1) hj).2 (by omega)
          rw [Nat.add_sub_cancel, key _ (by omega), key _ hj] at this
          exact this
        | succ d ih =>
          intro j hj
          have h1 := ih j (by omega)
          have h2 := (h (j + (d + 1) + 1) hj).2 (by omega)
          rw [Nat.add_sub_cancel, key _ (by omega), key _ hj] at h2
          exact RV.lt_trans h1 h2
      rw [List.pairwise_iff_getElem]
      intro i j hi hj hij
      have := step (j - i - 1) i (by omega)
      have e : i + (j - i - 1) + 1 = j := by omega
      simp only [e] at this
      exact this
  · rintro ⟨h1, h2⟩ j hj
    rw [key j hj]
    refine ⟨h1 _ (List.getElem_mem hj), fun h0 => ?_⟩
    rw [key (j - 1) (by omega)]
    exact List.pairwise_iff_getElem.1 h2 (j - 1) j (by omega) hj (by omega)
def atS (f : List IV) (u : RV) : Int := (f.map fun c => if c.t = u then c.n else 0).sum
theorem atS_nil (u : RV) : atS [] u = 0 := rfl
theorem atS_cons (c : IV) (f : List IV) (u : RV) : atS (c :: f) u = (if c.t = u then c.n else 0) + atS f u := by simp [atS]
theorem atS_append (f g : List IV) (u : RV) : atS (f ++ g) u = atS f u + atS g u := by simp [atS]
theorem atS_zero {f : List IV} {u : RV} (h : ∀ c ∈ f, c.t ≠ u) : atS f u = 0 := by
  induction f with
  | nil => rfl
  | cons c f ih => rw [atS_cons, if_neg (h c (by simp)), ih (fun d hd => h d (by simp [hd]))]; rfl
theorem goodI_nil : goodI [] := ⟨fun _ h => (by cases h), List.Pairwise.nil⟩
theorem good_tail {c : IV} {f : List IV} (h : goodI (c :: f)) : goodI f := ⟨fun d hd => h.1 d (by simp [hd]), (List.pairwise_cons.1 h.2).2⟩
theorem atS_low {f : List IV} {u : RV} (h : ∀ c ∈ f, u.lt c.t = true) : atS f u = 0 := atS_zero fun c hc e => by
  have := h c hc
  rw [e, RV.lt_irrefl] at this
  cases this
theorem atS_head {c : IV} {f : List IV} (h : goodI (c :: f)) : atS f c.t = 0 := atS_low (List.pairwise_cons.1 h.2).1
theorem good_low {c : IV} {f : List IV} (h : goodI (c :: f)) : ∀ d ∈ f, c.t.lt d.t = true := (List.pairwise_cons.1 h.2).1
theorem good_cons {c : IV} {f : List IV} (hc : c.ok = true) (hl : ∀ d ∈ f, c.t.lt d.t = true) (hf : goodI f) : goodI (c :: f) := by
  refine ⟨fun d hd => ?_, List.pairwise_cons.2 ⟨hl, hf.2⟩⟩
  rcases List.mem_cons.1 hd with rfl | hd
  · exact hc
  · exact hf.1 d hd
theorem atS_fits {f : List IV} (h : goodI f) (u : RV) : -2147483648 ≤ atS f u ∧ atS f u ≤ 2147483648 := by
  induction f with
  | nil => rw [atS_nil]; omega
  | cons c f ih =>
    rw [atS_cons]
    by_cases e : c.t = u
    · subst e
      rw [if_pos rfl, atS_head h]
      have := (IV.ok_iff c).1 (h.1 c (by simp))
      omega
    · rw [if_neg e]
      have := ih (good_tail h)
      omega
/-- two right bags in which each record is there as often are one -/
theorem good_ext : ∀ {f g : List IV}, goodI f → goodI g → (∀ u, atS f u = atS g u) → f = g
  | [], [], _, _, _ => rfl
  | [], c :: g, _, hg, h => by
    exfalso
    have := h c.t
    rw [atS_nil, atS_cons, if_pos rfl, atS_head hg] at this
    exact ((IV.ok_iff c).1 (hg.1 c (by simp))).1 (by omega)
  | c :: f, [], hf, _, h => by
    exfalso
    have := h c.t
    rw [atS_nil, atS_cons, if_pos rfl, atS_head hf] at this
    exact ((IV.ok_iff c).1 (hf.1 c (by simp))).1 (by omega)
  | c :: f, d :: g, hf, hg, h => by
    have hc := (IV.ok_iff c).1 (hf.1 c (by simp))
    have hd := (IV.ok_iff d).1 (hg.1 d (by simp))
    have e : c.t = d.t := by
      refine RV.tri ?_ ?_
      · cases q : c.t.lt d.t
        · rfl
        · exfalso
          have := h c.t
          rw [atS_cons, if_pos rfl, atS_head hf, atS_low (f := d :: g) (fun x hx => by
            rcases List.mem_cons.1 hx with rfl | hx
            · exact q
            · exact RV.lt_trans q (good_low hg x hx))] at this
          omega
      · cases q : d.t.lt c.t
        · rfl
        · exfalso
          have := h d.t
          rw [atS_cons (c := d), if_pos rfl, atS_head hg, atS_low (f := c :: f) (fun x hx => by
            rcases List.mem_cons.1 hx with rfl | hx
            · exact q
            · exact RV.lt_trans q (good_low hf x hx))] at this
          omega
    have en : c.n = d.n := by
      have := h c.t
      rw [atS_cons, if_pos rfl, atS_head hf, atS_cons, if_pos e.symm, e, atS_head hg] at this
      omega
    have ec : c = d := by cases c; cases d; simp only at e en; subst e; subst en; rfl
    subst ec
    rw [good_ext (good_tail hf) (good_tail hg) (fun u => by have := h u; rw [atS_cons, atS_cons] at this; omega)]
/-- as many more, if it fits -/
def addF (x y : Int) : Int := if fitsN (x + y) = true then x + y else x
theorem addF_fit {x y : Int} (h : -2147483648 ≤ x + y ∧ x + y ≤ 2147483648) : addF x y = x + y := if_pos ((fitsN_iff _).2 h)
structure MergeP (a b m : List IV) : Prop where
  good : goodI m
  at_ : ∀ u, atS m u = addF (atS a u) (atS b u)
  low : ∀ u : RV, (∀ c ∈ a, u.lt c.t = true) → (∀ c ∈ b, u.lt c.t = true) → ∀ c ∈ m, u.lt c.t = true
  len : m.length ≤ a.length + b.length
theorem merged_is : ∀ (a b : List IV), goodI a → goodI b → MergeP a b (mergedI a b)
  | [], b, _, hb => by
    rw [nil_mergedI]
    refine ⟨hb, fun u => ?_, fun u _ h => h, by simp⟩
    rw [atS_nil, addF_fit (by have := atS_fits hb u; omega), Int.zero_add]
  | x :: a, [], ha, _ => by
    rw [mergedI_nil]
    refine ⟨ha, fun u => ?_, fun u h _ => h, by simp⟩
    rw [atS_nil, addF_fit (by have := atS_fits ha u; omega), Int.add_zero]
  | x :: a, y :: b, ha, hb => by
    have hx := (IV.ok_iff x).1 (ha.1 x (by simp))
    have hy := (IV.ok_iff y).1 (hb.1 y (by simp))
    by_cases h1 : cmpR x.t y.t < 0
    · have q : x.t.lt y.t = true := by rw [← cmpR_lt]; exact decide_eq_true h1
      rw [mergedI_lt a b h1]
      have ih := merged_is a (y :: b) (good_tail ha) hb
      have lb : ∀ c ∈ y :: b, x.t.lt c.t = true := fun c hc => by
        rcases List.mem_cons.1 hc with rfl | hc
        · exact q
        · exact RV.lt_trans q (good_low hb c hc)
      have lw := ih.low x.t (good_low ha) lb
      refine ⟨good_cons (ha.1 x (by simp)) lw ih.good, fun u => ?_, fun u hu hv c hc => ?_, ?_⟩
      · by_cases e : x.t = u
        · subst e
          rw [atS_cons, if_pos rfl, atS_cons (c := x) (f := a), if_pos rfl, atS_low lw, atS_low (good_low ha), atS_low lb, addF_fit (by omega)]
          omega
        · rw [atS_cons, if_neg e, atS_cons (c := x) (f := a), if_neg e, ih.at_ u, Int.zero_add, Int.zero_add]
      · rcases List.mem_cons.1 hc with rfl | hc
        · exact hu _ (by simp)
        · exact ih.low u (fun d hd => hu d (by simp [hd])) hv c hc
      · have := ih.len; simp only [List.length_cons] at *; omega
    · by_cases h2 : 0 < cmpR x.t y.t
      · have q : y.t.lt x.t = true := by rw [← cmpR_gt]; exact decide_eq_true h2
        rw [mergedI_gt a b h2]
        have ih := merged_is (x :: a) b ha (good_tail hb)
        have la : ∀ c ∈ x :: a, y.t.lt c.t = true := fun c hc => by
          rcases List.mem_cons.1 hc with rfl | hc
          · exact q
          · exact RV.lt_trans q (good_low ha c hc)
        have lw := ih.low y.t la (good_low hb)
        refine ⟨good_cons (hb.1 y (by simp)) lw ih.good, fun u => ?_, fun u hu hv c hc => ?_, ?_⟩
        · by_cases e : y.t = u
          · subst e
            rw [atS_cons, if_pos rfl, atS_low lw, atS_low la, atS_cons, if_pos rfl, atS_low (good_low hb), addF_fit (by omega)]
            omega
          · rw [atS_cons, if_neg e, ih.at_ u, atS_cons (c := y) (f := b), if_neg e, Int.zero_add, Int.zero_add]
        · rcases List.mem_cons.1 hc with rfl | hc
          · exact hv _ (by simp)
          · exact ih.low u hu (fun d hd => hv d (by simp [hd])) c hc
        · have := ih.len; simp only [List.length_cons] at *; omega
      · have h0 : cmpR x.t y.t = 0 := by omega
        have e := (cmpR_zero _ _).1 h0
        have ih := merged_is a b (good_tail ha) (good_tail hb)
        have lw := ih.low x.t (good_low ha) (by rw [e]; exact good_low hb)
        have hm : moreI x y.n = ⟨x.t, addF x.n y.n⟩ := by
          unfold moreI addF
          split <;> rfl
        have hau : ∀ u, atS (x :: a) u = if x.t = u then x.n else atS a u := fun u => by
          rw [atS_cons]
          by_cases k : x.t = u
          · subst k; rw [if_pos rfl, if_pos rfl, atS_head ha]; omega
          · rw [if_neg k, if_neg k]; omega
        have hbu : ∀ u, atS (y :: b) u = if x.t = u then y.n else atS b u := fun u => by
          rw [atS_cons, ← e]
          by_cases k : x.t = u
          · subst k; rw [if_pos rfl, if_pos rfl, e, atS_head hb]; omega
          · rw [if_neg k, if_neg k]; omega
        by_cases hz : (moreI x y.n).n = 0
        · rw [mergedI_no a b h0 hz]
          rw [hm] at hz
          refine ⟨ih.good, fun u => ?_, fun u hu hv c hc => ih.low u (fun d hd => hu d (by simp [hd])) (fun d hd => hv d (by simp [hd])) c hc, ?_⟩
          · rw [hau, hbu]
            by_cases k : x.t = u
            · rw [if_pos k, if_pos k, ← k, atS_low lw]; exact hz.symm
            · rw [if_neg k, if_neg k]; exact ih.at_ u
          · have := ih.len; simp only [List.length_cons] at *; omega
        · rw [mergedI_one a b h0 hz]
          rw [hm] at hz ⊢
          refine ⟨good_cons ?_ lw ih.good, fun u => ?_, fun u hu hv c hc => ?_, ?_⟩
          · rw [IV.ok_iff]
            refine ⟨hz, ?_⟩
            show -2147483648 ≤ addF x.n y.n ∧ addF x.n y.n ≤ 2147483648
            unfold addF
            split
            · rename_i k; exact (fitsN_iff _).1 k
            · exact hx.2
          · rw [hau, hbu, atS_cons]
            by_cases k : x.t = u
            · rw [if_pos k, if_pos k, if_pos k, ← k, atS_low lw]; simp only; omega
            · rw [if_neg k, if_neg k, if_neg k, ih.at_ u]; omega
          · rcases List.mem_cons.1 hc with rfl | hc
            · exact hu x (by simp)
            · exact ih.low u (fun d hd => hu d (by simp [hd])) (fun d hd => hv d (by simp [hd])) c hc
          · have := ih.len; simp only [List.length_cons] at *; omega
termination_by a b => a.length + b.length
def plusI (a b : List IV) : List IV := if rightI a = true ∧ rightI b = true then mergedI a b else a
def addI (b : List IV) (r : RV) (n : Int) : List IV := plusI b [⟨r, n⟩]
theorem plusI_is {a b : List IV} (ha : goodI a) (hb : goodI b) : MergeP a b (plusI a b) := by
  unfold plusI
  rw [if_pos ⟨(rightI_iff a).2 ha, (rightI_iff b).2 hb⟩]
  exact merged_is a b ha hb
theorem plusI_len (a b : List IV) : (plusI a b).length ≤ a.length + b.length := by
  by_cases h : rightI a = true ∧ rightI b = true
  · exact (plusI_is ((rightI_iff a).1 h.1) ((rightI_iff b).1 h.2)).len
  · unfold plusI; rw [if_neg h]; omega
theorem thereI_good (f : List IV) : goodI (thereI f) := by
  unfold thereI
  split
  · rename_i h
    have h := (rightI_iff f).1 h
    exact ⟨fun c hc => h.1 c (List.mem_filter.1 hc).1, h.2.filter _⟩
  · exact goodI_nil
theorem thereI_pos (f : List IV) : ∀ c ∈ thereI f, 0 < c.n := by
  unfold thereI
  split
  · intro c hc; simpa using (List.mem_filter.1 hc).2
  · intro c hc; cases hc
theorem thereI_len (f : List IV) : (thereI f).length ≤ f.length := by
  unfold thereI
  split
  · exact pos_length f
  · simp
theorem thereI_pos_good {f : List IV} (h : goodI f) (hp : ∀ c ∈ f, 0 < c.n) : thereI f = f := by
  unfold thereI
  rw [if_pos ((rightI_iff f).2 h)]
  exact List.filter_eq_self.2 fun c hc => decide_eq_true (hp c hc)
theorem thereI_idem (f : List IV) : thereI (thereI f) = thereI f := thereI_pos_good (thereI_good f) (thereI_pos f)
theorem plusI_nil {f : List IV} (h : goodI f) : plusI f [] = f := by
  unfold plusI
  rw [if_pos ⟨(rightI_iff f).2 h, by decide⟩, mergedI_nil]
theorem nil_plusI {f : List IV} (h : goodI f) : plusI [] f = f := by
  unfold plusI
  rw [if_pos ⟨by decide, (rightI_iff f).2 h⟩, nil_mergedI]
end Go.Proofs.YthomddbekiknjaaGreat
/- the bag of records, as plain facts -/
namespace Go.Proofs.YthomddbekiknjaaGreat
open Go.RowKit
set_option linter.unusedVariables false
set_option linter.unusedSimpArgs false

def cntR (xs : List RV) (u : RV) : Int := (xs.map fun r => if r = u then (1 : Int) else 0).sum
theorem cntR_nil (u : RV) : cntR [] u = 0 := rfl
theorem cntR_cons (r : RV) (xs : List RV) (u : RV) : cntR (r :: xs) u = (if r = u then 1 else 0) + cntR xs u := by simp [cntR]
theorem cntR_append (xs ys : List RV) (u : RV) : cntR (xs ++ ys) u = cntR xs u + cntR ys u := by simp [cntR]
theorem cntR_le (xs : List RV) (u : RV) : 0 ≤ cntR xs u ∧ cntR xs u ≤ xs.length := by
  induction xs with
  | nil => exact ⟨Int.le_refl _, Int.le_refl _⟩
  | cons r xs ih =>
    rw [cntR_cons, List.length_cons]
    split <;> omega
theorem cntR_perm {xs ys : List RV} (h : xs.Perm ys) (u : RV) : cntR xs u = cntR ys u := by
  induction h with
  | nil => rfl
  | cons x _ ih => rw [cntR_cons, cntR_cons, ih]
  | swap x y l => rw [cntR_cons, cntR_cons, cntR_cons, cntR_cons]; omega
  | trans _ _ h1 h2 => exact h1.trans h2
/-- each of these once, one by one, as the document says it -/
def ofI (xs : List RV) : List IV := xs.foldl (fun b r => addI b r 1) []
theorem one_good (r : RV) {n : Int} (h : n ≠ 0 ∧ -2147483648 ≤ n ∧ n ≤ 2147483648) : goodI [⟨r, n⟩] :=
  good_cons ((IV.ok_iff _).2 h) (fun d hd => (by cases hd)) goodI_nil
theorem atS_one (r : RV) (n : Int) (u : RV) : atS [⟨r, n⟩] u = if r = u then n else 0 := by rw [atS_cons, atS_nil]; simp
theorem fold_is : ∀ (xs : List RV) (b : List IV), goodI b → (∀ u, 0 ≤ atS b u ∧ atS b u + xs.length ≤ 2147483648) →
    goodI (xs.foldl (fun b r => addI b r 1) b) ∧ (∀ u, atS (xs.foldl (fun b r => addI b r 1) b) u = atS b u + cntR xs u) ∧ (xs.foldl (fun b r => addI b r 1) b).length ≤ b.length + xs.length
  | [], b, hb, _ => ⟨hb, fun u => by rw [cntR_nil]; simp, by simp⟩
  | r :: xs, b, hb, hn => by
    simp only [List.length_cons] at hn
    have P := plusI_is hb (one_good r (n := 1) (by omega))
    have hat : ∀ u, atS (addI b r 1) u = atS b u + (if r = u then 1 else 0) := fun u => by
      show atS (plusI b [⟨r, 1⟩]) u = _
      have h := hn u
      rw [P.at_, atS_one]
      exact addF_fit (by split <;> omega)
    have ih := fold_is xs (addI b r 1) P.good (fun u => by
      have h := hn u
      rw [hat]
      split <;> omega)
    refine ⟨ih.1, fun u => ?_, ?_⟩
    · show atS (xs.foldl _ (addI b r 1)) u = _
      rw [ih.2.1 u, hat, cntR_cons]; omega
    · have h1 := ih.2.2
      have h2 := P.len
      have h3 : (addI b r 1).length ≤ b.length + 1 := h2
      simp only [List.foldl_cons, List.length_cons]
      omega
theorem ofI_is {xs : List RV} (h : xs.length ≤ 2147483648) : goodI (ofI xs) ∧ (∀ u, atS (ofI xs) u = cntR xs u) ∧ (ofI xs).length ≤ xs.length := by
  have := fold_is xs [] goodI_nil (fun u => by rw [atS_nil]; omega)
  refine ⟨this.1, fun u => ?_, by have h := this.2.2; rw [List.length_nil, Nat.zero_add] at h; exact h⟩
  have h2 := this.2.1 u
  rw [atS_nil, Int.zero_add] at h2
  exact h2
/-- what the program does with each of the sorted ones -/
def stepO (acc : List IV) (r : RV) : List IV :=
  match acc.getLast? with
  | some c => if c.t = r then acc.dropLast ++ [⟨c.t, c.n + 1⟩] else acc ++ [⟨r, 1⟩]
  | none => acc ++ [⟨r, 1⟩]
theorem stepO_nil (r : RV) : stepO [] r = [⟨r, 1⟩] := rfl
theorem stepO_same (acc : List IV) (c : IV) : stepO (acc ++ [c]) c.t = acc ++ [⟨c.t, c.n + 1⟩] := by simp [stepO]
theorem stepO_other (acc : List IV) (c : IV) {r : RV} (h : ¬ c.t = r) : stepO (acc ++ [c]) r = (acc ++ [c]) ++ [⟨r, 1⟩] := by simp [stepO, h]
theorem good_append {f g : List IV} (hf : goodI f) (hg : goodI g) (h : ∀ c ∈ f, ∀ d ∈ g, c.t.lt d.t = true) : goodI (f ++ g) := by
  refine ⟨fun c hc => ?_, List.pairwise_append.2 ⟨hf.2, hg.2, h⟩⟩
  rcases List.mem_append.1 hc with hc | hc
  · exact hf.1 c hc
  · exact hg.1 c hc
theorem good_left {f g : List IV} (h : goodI (f ++ g)) : goodI f := ⟨fun c hc => h.1 c (List.mem_append.2 (.inl hc)), (List.pairwise_append.1 h.2).1⟩
structure AccP (p : List RV) (acc : List IV) : Prop where
  good : goodI acc
  at_ : ∀ u, atS acc u = cntR p u
  mem : ∀ c ∈ acc, c.t ∈ p
  pos : ∀ c ∈ acc, 0 < c.n ∧ c.n ≤ p.length
  len : acc.length ≤ p.length
theorem acc_step {p : List RV} {acc : List IV} {r : RV} (hl : p.length < 2147483648) (h : AccP p acc) (hs : ∀ x ∈ p, r.lt x = false) : AccP (p ++ [r]) (stepO acc r) := by
  have hplen : (p ++ [r]).length = p.length + 1 := by simp
  rcases List.eq_nil_or_concat acc with rfl | ⟨acc', c, rfl⟩
  · rw [stepO_nil]
    refine ⟨one_good r (by omega), fun u => ?_, fun c hc => ?_, fun c hc => ?_, by simp⟩
    · rw [atS_one, cntR_append, cntR_cons, cntR_nil, ← h.at_ u, atS_nil]; omega
    · simp at hc; subst hc; simp
    · simp at hc; subst hc; rw [hplen]; simp only; omega
  · rw [List.concat_eq_append] at h ⊢
    by_cases e : c.t = r
    · subst e
      rw [stepO_same]
      have hc := h.pos c (by simp)
      have hlow : ∀ x ∈ acc', x.t.lt c.t = true := fun x hx => (List.pairwise_append.1 h.good.2).2.2 x hx c (by simp)
      refine ⟨good_append (good_left h.good) (one_good c.t (by omega)) (fun x hx d hd => ?_), fun u => ?_, fun x hx => ?_, fun x hx => ?_, ?_⟩
      · simp at hd; subst hd; exact hlow x hx
      · have := h.at_ u
        rw [atS_append, atS_cons, atS_nil] at this
        rw [atS_append, atS_one, cntR_append, cntR_cons, cntR_nil, ← this]
        split <;> omega
      · rcases List.mem_append.1 hx with hx | hx
        · have := h.mem x (by simp [hx]); simp [this]
        · simp at hx; subst hx; simp
      · rcases List.mem_append.1 hx with hx | hx
        · have := h.pos x (by simp [hx]); rw [hplen]; omega
        · simp at hx; subst hx; rw [hplen]; simp only; omega
      · have := h.len; simp at *; omega
    · rw [stepO_other _ _ e]
      have hcr : c.t.lt r = true := by
        cases q : c.t.lt r
        · exact absurd (RV.tri q (hs c.t (h.mem c (by simp)))) e
        · rfl
      have hall : ∀ x ∈ acc' ++ [c], x.t.lt r = true := fun x hx => by
        rcases List.mem_append.1 hx with hx | hx
        · exact RV.lt_trans ((List.pairwise_append.1 h.good.2).2.2 x hx c (by simp)) hcr
        · simp at hx; subst hx; exact hcr
      refine ⟨good_append h.good (one_good r (by omega)) (fun x hx d hd => ?_), fun u => ?_, fun x hx => ?_, fun x hx => ?_, ?_⟩
      · simp at hd; subst hd; exact hall x hx
      · rw [atS_append, atS_one, h.at_ u, cntR_append, cntR_cons, cntR_nil]; omega
      · rcases List.mem_append.1 hx with hx | hx
        · have := h.mem x hx; simp [this]
        · simp at hx; subst hx; simp
      · rcases List.mem_append.1 hx with hx | hx
        · have := h.pos x hx; rw [hplen]; omega
        · simp at hx; subst hx; rw [hplen]; simp only; omega
      · have := h.len; simp at *; omega
theorem acc_nil : AccP [] [] := ⟨goodI_nil, fun _ => rfl, fun _ h => (by cases h), fun _ h => (by cases h), Nat.le_refl _⟩
theorem acc_done {xs ys : List RV} {acc : List IV} (hl : xs.length ≤ 2147483648) (hp : ys.Perm xs) (h : AccP ys acc) : acc = ofI xs := by
  have O := ofI_is hl
  exact good_ext h.good O.1 (fun u => by rw [h.at_, O.2.1, cntR_perm hp])
end Go.Proofs.YthomddbekiknjaaGreat
/- numbers of 64 bits; instructions (NV), rows of them (RC) -/
namespace Go.Proofs.YthomddbekiknjaaGreat
open Go.RowKit
set_option linter.unusedVariables false
set_option linter.unusedSimpArgs false

/-- it has room in 64 bits -/
def inR (x : Int) : Prop := -9223372036854775808 ≤ x ∧ x ≤ 9223372036854775807
instance (x : Int) : Decidable (inR x) := by unfold inR; infer_instance
structure NV where
  op : Int
  n : Int
instance : Inhabited NV := ⟨⟨0, 0⟩⟩
def NV.enc (x : NV) : List Value := [.int .i64 x.op, .int .i64 x.n]
abbrev NV.val (x : NV) : Value := .agg #[.int .i64 x.op, .int .i64 x.n]
def RC : RowKind NV where
  enc := NV.enc
  k := 2
  k0 := by decide
  len := fun _ => rfl
  one := by
    intro c u hu
    simp [NV.enc] at hu
    rcases hu with rfl | rfl <;> rfl
  tE := 157
  tS := 45
  zero := .agg #[.int .i64 0, .int .i64 0]
  bytes := 16
  info := by kernel_rfl
  under := Tryz.underlying45
  zlen := rfl
  byt := by decide
theorem atC7 {w : World} {b off : Nat} {xs : List NV} (h : RC.Row w b off xs) (j : Nat) (hj : j < xs.length) :
    w.cell? ⟨b, off + j * 2, none⟩ = some (.int .i64 xs[j]!.op) ∧ w.cell? ⟨b, off + j * 2 + 1, none⟩ = some (.int .i64 xs[j]!.n) :=
  ⟨h j hj 0 _ rfl, h j hj 1 _ rfl⟩
def NV.ok (len : Nat) (x : NV) : Prop := 1 ≤ x.op ∧ x.op ≤ 16 ∧ ((x.op = 14 ∨ x.op = 15) → 0 ≤ x.n ∧ x.n ≤ (len : Int)) ∧ ((x.op ≠ 1 ∧ x.op ≠ 14 ∧ x.op ≠ 15) → x.n = 0)
instance (len : Nat) (x : NV) : Decidable (x.ok len) := by unfold NV.ok; infer_instance
end Go.Proofs.YthomddbekiknjaaGreat
/- what an operation on two numbers gives (ofN), and the document's Of, sum, product, one -/
namespace Go.Proofs.YthomddbekiknjaaGreat
open Go.RowKit
set_option linter.unusedVariables false
set_option linter.unusedSimpArgs false

/-- a number that has room, or none -/
def roomN (x : Int) : Int × Int := if inR x then (x, 0) else (0, 2)
def ofN (op a b : Int) : Int × Int :=
  if op = 4 then roomN (a + b) else if op = 5 then roomN (a - b) else if op = 6 then roomN (a * b)
  else if op = 7 then (if b = 0 then (0, 3) else roomN (a.tdiv b))
  else if op = 8 then (if b = 0 then (0, 3) else (a.tmod b, 0))
  else if op = 9 then (if a < b then 1 else 0, 0)
  else if op = 10 then (if a = b then 1 else 0, 0)
  else (0, 0)
theorem wrap_in {x : Int} (h : inR x) : wrap64 x = x := by
  unfold inR at h
  unfold wrap64
  omega
theorem wrap_range (x : Int) : inR (wrap64 x) := by
  unfold inR
  unfold wrap64
  omega
theorem wrap_mod (x : Int) : ∃ k : Int, wrap64 x = x + k * 18446744073709551616 := by
  refine ⟨(wrap64 x - x) / 18446744073709551616, ?_⟩
  unfold wrap64
  omega
/-- the test by which the product is told to have had room -/
theorem prod_test {a b : Int} (ha : inR a) (hb : inR b) (h0 : b ≠ 0) : (wrap64 (a * b)).tdiv b = a ↔ inR (a * b) := by
  constructor
  · intro h
    have h1 := Int.mul_tdiv_add_tmod (wrap64 (a * b)) b
    rw [h] at h1
    obtain ⟨k, hk⟩ := wrap_mod (a * b)
    have h2 := Int.natAbs_tmod (wrap64 (a * b)) b
    have h3 := Nat.mod_lt (wrap64 (a * b)).natAbs (show 0 < b.natAbs by omega)
    rw [← h2] at h3
    clear h2
    have hw := wrap_range (a * b)
    rw [Int.mul_comm b a] at h1
    generalize (wrap64 (a * b)).tmod b = r at *
    generalize wrap64 (a * b) = p at *
    generalize a * b = q at *
    unfold inR at *
    omega
  · intro h
    rw [wrap_in h, Int.mul_tdiv_cancel _ h0]

theorem tdiv_in {x b : Int} (hx : inR x) (h0 : b ≠ 0) (h1 : ¬ (b = -1 ∧ x = -9223372036854775808)) : inR (x.tdiv b) := by
  by_cases hb : b = 1
  · subst hb; rw [Int.tdiv_one]; exact hx
  by_cases hb2 : b = -1
  · subst hb2
    have : x.tdiv (-1) = -x := by rw [Int.tdiv_neg, Int.tdiv_one]
    rw [this]
    unfold inR at *
    omega
  have h2 : (x.tdiv b).natAbs = x.natAbs / b.natAbs := Int.natAbs_tdiv x b
  have h3 : x.natAbs / b.natAbs ≤ x.natAbs / 2 := Nat.div_le_div_left (by omega) (by decide)
  rw [← h2] at h3
  unfold inR at *
  omega
def roomV (x : Int) : Value := .tuple #[.int .i64 (roomN x).1, .bool (decide ((roomN x).2 = 0))]
theorem roomV_in {x : Int} (h : inR x) : roomV x = .tuple #[.int .i64 x, .bool true] := by unfold roomV roomN; rw [if_pos h]; rfl
theorem roomV_out {x : Int} (h : ¬ inR x) : roomV x = .tuple #[.int .i64 0, .bool false] := by unfold roomV roomN; rw [if_neg h]; rfl
theorem ret2 {a a' : Int} {b : Bool} {v : Value} (hv : v = .tuple #[.int .i64 a', .bool b]) (h : a = a') : Ending.returned (.tuple #[.int .i64 a, .bool b]) = .returned v := by rw [hv, h]
end Go.Proofs.YthomddbekiknjaaGreat
/- the document's Of on two numbers -/
namespace Go.Proofs.YthomddbekiknjaaGreat
open Go.RowKit
set_option linter.unusedVariables false
set_option linter.unusedSimpArgs false

theorem roomN_in {x : Int} (h : inR x) : roomN x = (x, 0) := if_pos h
theorem roomN_out {x : Int} (h : ¬ inR x) : roomN x = (0, 2) := if_neg h
abbrev ofV2 (r : Int × Int) : Value := .tuple #[.int .i64 r.1, .int .i64 r.2]
theorem tmod_in {a b : Int} (ha : inR a) (h0 : b ≠ 0) : inR (a.tmod b) := by
  have h := Int.natAbs_tmod a b
  have h2 := Nat.mod_le a.natAbs b.natAbs
  have h3 : a.tmod b = 0 ∨ (0 ≤ a ∧ 0 ≤ a.tmod b) ∨ (a < 0 ∧ a.tmod b ≤ 0) := by
    rcases Int.le_total 0 a with q | q
    · exact .inr (.inl ⟨q, Int.tmod_nonneg b q⟩)
    · by_cases z : a = 0
      · subst z; exact .inl (Int.zero_tmod b)
      · refine .inr (.inr ⟨by omega, ?_⟩)
        have := Int.tmod_nonneg b (show 0 ≤ -a by omega)
        rw [Int.neg_tmod] at this
        omega
  rw [← h] at h2
  unfold inR at *
  omega
theorem ret2i {a a' b b' : Int} (h : a = a') (k : b = b') : Ending.returned (.tuple #[.int .i64 a, .int .i64 b]) = .returned (.tuple #[.int .i64 a', .int .i64 b']) := by rw [h, k]
end Go.Proofs.YthomddbekiknjaaGreat
/- instructions (NV), rows of them (RC); right programs (rightC); the document's Right -/
namespace Go.Proofs.YthomddbekiknjaaGreat
open Go.RowKit
set_option linter.unusedVariables false
set_option linter.unusedSimpArgs false

def rightC (p : List NV) : Bool := (p.all fun x => decide (x.ok p.length)) && decide (p.length ≤ 64)
theorem all_drop {p : List NV} {len k : Nat} (h : k < p.length) : ((p.drop k).all fun x => decide (x.ok len)) = (decide (p[k]!.ok len) && (p.drop (k + 1)).all fun x => decide (x.ok len)) := by
  rw [List.drop_eq_getElem_cons h, List.all_cons, getElem!_pos p k h]
end Go.Proofs.YthomddbekiknjaaGreat
