/- plain: what operators make of records (layer 11): the model, and that linear ones go part by part -/
import Derived.Test.YthhceggcdaljdaaGreatG04
import Derived.Test.YthhceggcdaljdaaGreatK02
namespace Go.Proofs.YthhceggcdaljdaaGreat
open Go.RowKit
set_option linter.unusedVariables false
set_option linter.unusedSimpArgs false

/-- an error of reckoning -/
def overO (k : Int) : RV := ⟨k, -9223372036854775806⟩
def sumO (k a b : Int) : RV := if inR (a + b) then ⟨k, a + b⟩ else overO k
/-- what comes of one record -/
def oneO (k arg : Int) (p : List NV) (r : RV) : List RV :=
  if k = 2 then (runC p r).1 else if k = 3 then [sumO r.k r.v arg] else if k = 4 then (if arg < 1 ∨ r.v.tmod arg ≠ 0 then [] else [r]) else [r]
/-- what comes of an operator that takes its records one by one -/
def eachO (k arg : Int) (p : List NV) (b : List IV) : List IV := b.flatMap fun c => (oneO k arg p c.t).map fun r => (⟨r, if k = 8 then 1 else c.n⟩ : IV)
/-- a key's items and what stands behind them -/
def dropO (b : List IV) (k : Int) : List IV := b.dropWhile fun c => decide (c.t.k < k)
def takeO (b : List IV) (k : Int) : List IV := (dropO b k).takeWhile fun c => decide (c.t.k = k)
def restO (b : List IV) (k : Int) : List IV := (dropO b k).dropWhile fun c => decide (c.t.k = k)
theorem dropO_len (b : List IV) (k : Int) : (dropO b k).length ≤ b.length := by
  unfold dropO
  induction b with
  | nil => simp
  | cons c b ih =>
    rw [List.dropWhile_cons]
    split
    · rw [List.length_cons]; omega
    · exact Nat.le_refl _
theorem dropWhile_len {α : Type} (f : α → Bool) (b : List α) : (b.dropWhile f).length ≤ b.length := by
  induction b with
  | nil => simp
  | cons c b ih =>
    rw [List.dropWhile_cons]
    split
    · rw [List.length_cons]; omega
    · exact Nat.le_refl _
theorem restO_head (c : IV) (b : List IV) : (restO (c :: b) c.t.k).length ≤ b.length := by
  unfold restO dropO
  rw [List.dropWhile_cons, if_neg (by simp), List.dropWhile_cons, if_pos (by simp)]
  exact dropWhile_len _ _
/-- the keys of a bag: of each its items there, and those in the other one -/
def keysO : Nat → List IV → List IV → List (List IV × List IV)
  | 0, _, _ => []
  | _ + 1, [], _ => []
  | f + 1, c :: a, b => (takeO (c :: a) c.t.k, takeO b c.t.k) :: keysO f (restO (c :: a) c.t.k) (restO b c.t.k)
def manyO (l : List IV) : Int := (l.map fun c => c.n).sum
def valsO (l : List IV) : Int := (l.map fun c => c.t.v * c.n).sum
def totalO (k : Int) (l : List IV) : RV := if inR (valsO l) then ⟨k, valsO l⟩ else overO k
/-- the one record that tells of a key's items -/
def figureO (kind : Int) (mine others : List IV) : RV :=
  if kind = 7 then ⟨mine[0]!.t.k, manyO mine⟩ else if kind = 14 then totalO mine[0]!.t.k others else totalO mine[0]!.t.k mine
def pairsO (mine others : List IV) : List IV := mine.flatMap fun c => others.map fun d => (⟨sumO c.t.k c.t.v d.t.v, c.n * d.n⟩ : IV)
def keyO (kind : Int) (mine others : List IV) : List IV := if kind = 9 then pairsO mine others else [⟨figureO kind mine others, 1⟩]
def byKeysO (kind : Int) (a b : List IV) : List IV := (keysO a.length a b).flatMap fun m => keyO kind m.1 m.2
def eachKind (k : Int) : Bool := decide (k = 1 ∨ k = 2 ∨ k = 3 ∨ k = 4 ∨ k = 8 ∨ k = 10 ∨ k = 11 ∨ k = 12 ∨ k = 13 ∨ k = 15)
/-- the records that come of an operator, each with how often -/
def comesO (k arg : Int) (p : List NV) (t0 t1 : List IV) : List IV :=
  if k = 5 then eachO k arg p (t0 ++ t1) else if k = 9 ∨ k = 14 then byKeysO k t0 t1 else if k = 6 ∨ k = 7 then byKeysO k t0 []
  else if eachKind k = true then eachO k arg p t0 else []
/-- a bag of items that are there -/
def togO (l : List IV) : List IV := l.foldl (fun b c => addI b c.t c.n) []
/-- what an operator makes of the bags of its two ports -/
def applyO (k arg : Int) (p : List NV) (t0 t1 : List IV) : List IV × Bool :=
  if manyO (comesO k arg p t0 t1) ≤ 65536 then (togO (comesO k arg p t0 t1), true) else ([], false)
def linearO (k : Int) : Bool := decide (k = 1 ∨ k = 2 ∨ k = 3 ∨ k = 4 ∨ k = 5 ∨ k = 10 ∨ k = 11 ∨ k = 12 ∨ k = 13 ∨ k = 15)

theorem manyO_cons (c : IV) (l : List IV) : manyO (c :: l) = c.n + manyO l := by simp [manyO]
theorem manyO_append (l m : List IV) : manyO (l ++ m) = manyO l + manyO m := by simp [manyO]
theorem manyO_pos {l : List IV} (h : ∀ c ∈ l, 0 < c.n) : 0 ≤ manyO l := by
  induction l with
  | nil => exact Int.le_refl _
  | cons c l ih =>
    rw [manyO_cons]
    have := h c (by simp)
    have := ih fun d hd => h d (by simp [hd])
    omega
theorem manyO_len {l : List IV} (h : ∀ c ∈ l, 0 < c.n) : (l.length : Int) ≤ manyO l := by
  induction l with
  | nil => exact Int.le_refl _
  | cons c l ih =>
    rw [manyO_cons, List.length_cons]
    have := h c (by simp)
    have := ih fun d hd => h d (by simp [hd])
    omega
theorem atS_le_many {l : List IV} (h : ∀ c ∈ l, 0 < c.n) (u : RV) : 0 ≤ atS l u ∧ atS l u ≤ manyO l := by
  induction l with
  | nil => exact ⟨Int.le_refl _, Int.le_refl _⟩
  | cons c l ih =>
    rw [manyO_cons, atS_cons]
    have := h c (by simp)
    have := ih fun d hd => h d (by simp [hd])
    split <;> omega
/-- items put together: a bag with as many of each record -/
theorem tog_is : ∀ (l : List IV) (b : List IV), goodI b → (∀ u, 0 ≤ atS b u) → (∀ c ∈ l, 0 < c.n) → (∀ u, atS b u + manyO l ≤ 2147483648) →
    goodI (l.foldl (fun b c => addI b c.t c.n) b) ∧ (∀ u, atS (l.foldl (fun b c => addI b c.t c.n) b) u = atS b u + atS l u) ∧ (l.foldl (fun b c => addI b c.t c.n) b).length ≤ b.length + l.length
  | [], b, hb, _, _, _ => ⟨hb, fun u => by rw [atS_nil]; simp, by simp⟩
  | c :: l, b, hb, h0, hp, hs => by
    have hc := hp c (by simp)
    have hl := manyO_pos fun d (hd : d ∈ l) => hp d (by simp [hd])
    have h1 := hs c.t
    rw [manyO_cons] at h1
    have h2 := h0 c.t
    have hg : goodI [c] := one_good c.t ⟨by omega, by omega, by omega⟩
    have M := plusI_is hb hg
    have hat : ∀ u, atS (addI b c.t c.n) u = atS b u + (if c.t = u then c.n else 0) := fun u => by
      have := M.at_ u
      rw [show addI b c.t c.n = plusI b [c] from rfl, this]
      have e : atS [c] u = if c.t = u then c.n else 0 := atS_one c.t c.n u
      rw [e]
      refine addF_fit ?_
      have h3 := hs u
      rw [manyO_cons] at h3
      have h4 := h0 u
      split
      · rename_i e; subst e; omega
      · omega
    have ih := tog_is l (addI b c.t c.n) M.good (fun u => by rw [hat]; have := h0 u; split <;> omega) (fun d hd => hp d (by simp [hd])) fun u => by
      rw [hat]
      have h3 := hs u
      rw [manyO_cons] at h3
      split <;> omega
    rw [List.foldl_cons]
    refine ⟨ih.1, fun u => ?_, ?_⟩
    · rw [ih.2.1, hat, atS_cons]; omega
    · have h5 := ih.2.2
      have h6 := M.len
      have h7 : (addI b c.t c.n).length ≤ b.length + 1 := h6
      rw [List.length_cons]
      omega
theorem togO_is {l : List IV} (hp : ∀ c ∈ l, 0 < c.n) (hm : manyO l ≤ 65536) : goodI (togO l) ∧ (∀ u, atS (togO l) u = atS l u) ∧ (togO l).length ≤ l.length := by
  have q := tog_is l [] goodI_nil (fun u => by rw [atS_nil]; exact Int.le_refl _) hp fun u => by rw [atS_nil]; omega
  exact ⟨q.1, fun u => by have := q.2.1 u; rw [atS_nil] at this; unfold togO; omega, by have := q.2.2; unfold togO; simpa using this⟩
/-- how much a weight of records comes to -/
def wS (f : RV → Int) (l : List IV) : Int := (l.map fun c => c.n * f c.t).sum
theorem wS_cons (f : RV → Int) (c : IV) (l : List IV) : wS f (c :: l) = c.n * f c.t + wS f l := by simp [wS]
theorem wS_append (f : RV → Int) (l m : List IV) : wS f (l ++ m) = wS f l + wS f m := by simp [wS]
theorem wS_split (f : RV → Int) (t : RV) : ∀ l : List IV, wS f l = atS l t * f t + wS f (l.filter fun c => decide (c.t ≠ t))
  | [] => by simp [wS, atS]
  | c :: l => by
    rw [wS_cons, atS_cons, wS_split f t l, List.filter_cons]
    by_cases h : c.t = t
    · rw [if_pos h, if_neg (by simp [h]), h, Int.add_mul]; omega
    · rw [if_neg h, if_pos (by simp [h]), wS_cons, Int.add_mul]; omega
theorem atS_filter (t u : RV) (l : List IV) : atS (l.filter fun c => decide (c.t ≠ t)) u = if u = t then 0 else atS l u := by
  induction l with
  | nil => simp [atS]
  | cons c l ih =>
    rw [List.filter_cons]
    by_cases h : c.t = t
    · rw [if_neg (by simp [h]), ih, atS_cons]
      split
      · rfl
      · rename_i hu
        rw [if_neg (fun e => hu (e.symm.trans h))]
        omega
    · rw [if_pos (by simp [h]), atS_cons, atS_cons, ih]
      by_cases hu : c.t = u
      · rw [if_pos hu]
        by_cases e : u = t
        · exact absurd (hu.trans e) h
        · rw [if_neg e, if_neg e]
      · rw [if_neg hu]
        split <;> omega
theorem wS_zero (f : RV → Int) : ∀ (n : Nat) (l : List IV), l.length ≤ n → (∀ u, atS l u = 0) → wS f l = 0
  | _, [], _, _ => rfl
  | 0, c :: l, h, _ => by simp at h
  | n + 1, c :: l, h, hz => by
    rw [wS_split f c.t, hz c.t]
    have hl : ((c :: l).filter fun d => decide (d.t ≠ c.t)).length ≤ n := by
      rw [List.filter_cons, if_neg (by simp)]
      have := List.length_filter_le (fun d : IV => decide (d.t ≠ c.t)) l
      rw [List.length_cons] at h
      omega
    rw [wS_zero f n _ hl fun u => by rw [atS_filter]; split; rfl; exact hz u]
    simp
def negL (l : List IV) : List IV := l.map fun c => ⟨c.t, -c.n⟩
theorem atS_neg (l : List IV) (u : RV) : atS (negL l) u = -atS l u := by
  induction l with
  | nil => rfl
  | cons c l ih =>
    show atS (⟨c.t, -c.n⟩ :: negL l) u = _
    rw [atS_cons, atS_cons, ih]
    show (if c.t = u then -c.n else 0) + _ = _
    split <;> omega
theorem wS_neg (f : RV → Int) (l : List IV) : wS f (negL l) = -wS f l := by
  induction l with
  | nil => rfl
  | cons c l ih =>
    show wS f (⟨c.t, -c.n⟩ :: negL l) = _
    rw [wS_cons, wS_cons, ih]
    show -c.n * f c.t + _ = _
    rw [Int.neg_mul]
    omega
/-- a weight hangs on how often each record is there alone -/
theorem wS_ext (f : RV → Int) {l m : List IV} (h : ∀ u, atS l u = atS m u) : wS f l = wS f m := by
  have := wS_zero f (l ++ negL m).length (l ++ negL m) (Nat.le_refl _) fun u => by rw [atS_append, atS_neg, h u]; omega
  rw [wS_append, wS_neg] at this
  omega
theorem manyO_w (l : List IV) : manyO l = wS (fun _ => 1) l := by simp [manyO, wS]
theorem manyO_ext {l m : List IV} (h : ∀ u, atS l u = atS m u) : manyO l = manyO m := by rw [manyO_w, manyO_w]; exact wS_ext _ h
/-! ### records one by one -/
theorem eachO_cons (k arg : Int) (p : List NV) (c : IV) (b : List IV) : eachO k arg p (c :: b) = ((oneO k arg p c.t).map fun r => (⟨r, if k = 8 then 1 else c.n⟩ : IV)) ++ eachO k arg p b := by simp [eachO]
theorem eachO_append (k arg : Int) (p : List NV) (a b : List IV) : eachO k arg p (a ++ b) = eachO k arg p a ++ eachO k arg p b := by simp [eachO]
theorem oneO_len (k arg : Int) (p : List NV) (r : RV) : (oneO k arg p r).length ≤ 8 := by
  unfold oneO
  split
  · exact runC_len p r
  · split
    · simp
    · split
      · split <;> simp
      · simp
theorem eachO_pos {k arg : Int} {p : List NV} {b : List IV} (h : ∀ c ∈ b, 0 < c.n) : ∀ c ∈ eachO k arg p b, 0 < c.n := fun c hc => by
  unfold eachO at hc
  obtain ⟨d, hd, hc⟩ := List.mem_flatMap.1 hc
  obtain ⟨r, _, rfl⟩ := List.mem_map.1 hc
  show 0 < if k = 8 then (1 : Int) else d.n
  split
  · omega
  · exact h d hd
theorem map_at (rs : List RV) (n : Int) (u : RV) : atS (rs.map fun r => (⟨r, n⟩ : IV)) u = n * cntR rs u := by
  induction rs with
  | nil => simp [atS, cntR]
  | cons r rs ih =>
    rw [List.map_cons, atS_cons, cntR_cons, ih, Int.mul_add]
    split <;> simp
theorem map_many (rs : List RV) (n : Int) : manyO (rs.map fun r => (⟨r, n⟩ : IV)) = n * (rs.length : Int) := by
  induction rs with
  | nil => simp [manyO]
  | cons r rs ih =>
    rw [List.map_cons, manyO_cons, ih, List.length_cons]
    push_cast
    rw [Int.mul_add]
    omega
theorem eachO_at {k arg : Int} {p : List NV} (h8 : k ≠ 8) (b : List IV) (u : RV) : atS (eachO k arg p b) u = wS (fun r => cntR (oneO k arg p r) u) b := by
  induction b with
  | nil => rfl
  | cons c b ih => rw [eachO_cons, atS_append, ih, wS_cons, if_neg h8, map_at]
theorem eachO_many {k arg : Int} {p : List NV} (h8 : k ≠ 8) (b : List IV) : manyO (eachO k arg p b) = wS (fun r => ((oneO k arg p r).length : Int)) b := by
  induction b with
  | nil => rfl
  | cons c b ih => rw [eachO_cons, manyO_append, ih, wS_cons, if_neg h8, map_many]
theorem wS_le {f : RV → Int} {M : Int} (hf : ∀ r, f r ≤ M) : ∀ {l : List IV}, (∀ c ∈ l, 0 < c.n) → wS f l ≤ M * manyO l
  | [], _ => by simp [wS, manyO]
  | c :: l, h => by
    rw [wS_cons, manyO_cons, Int.mul_add]
    have ih := wS_le hf fun d (hd : d ∈ l) => h d (by simp [hd])
    have hc := h c (by simp)
    have : c.n * f c.t ≤ c.n * M := Int.mul_le_mul_of_nonneg_left (hf _) (by omega)
    rw [Int.mul_comm c.n M] at this
    omega
/-! ### the laws -/
theorem linear_each {k : Int} (h : linearO k = true) : k ≠ 8 ∧ ∀ arg p t0, comesO k arg p t0 [] = eachO k arg p t0 := by
  have h := of_decide_eq_true h
  refine ⟨by omega, fun arg p t0 => ?_⟩
  unfold comesO
  by_cases h5 : k = 5
  · rw [if_pos h5, List.append_nil]
  · rw [if_neg h5, if_neg (by omega), if_neg (by omega), if_pos (show eachKind k = true from decide_eq_true (by omega))]
/-- what a linear operator makes of a bag with few records -/
theorem linear_apply {k : Int} (h : linearO k = true) (arg : Int) (p : List NV) {b : List IV} (hp : ∀ c ∈ b, 0 < c.n) (hm : manyO b ≤ 8192) :
    applyO k arg p b [] = (togO (eachO k arg p b), true) ∧ goodI (togO (eachO k arg p b)) ∧ (∀ u, atS (togO (eachO k arg p b)) u = wS (fun r => cntR (oneO k arg p r) u) b) ∧ manyO (eachO k arg p b) ≤ 8 * manyO b := by
  obtain ⟨h8, hc⟩ := linear_each h
  have hle : manyO (eachO k arg p b) ≤ 8 * manyO b := by
    rw [eachO_many h8]
    exact wS_le (fun r => by have := oneO_len k arg p r; omega) hp
  have q := togO_is (eachO_pos (k := k) (arg := arg) (p := p) hp) (by omega)
  refine ⟨?_, q.1, fun u => by rw [q.2.1, eachO_at h8], hle⟩
  unfold applyO
  rw [hc, if_pos (by omega)]
theorem of_pos {xs : List RV} (h : xs.length ≤ 2147483648) : (∀ c ∈ ofI xs, 0 < c.n) ∧ manyO (ofI xs) = xs.length := by
  have q := ofI_is h
  have hm : ∀ (l : List IV), goodI l → ∀ c ∈ l, atS l c.t = c.n := fun l => by
    induction l with
    | nil => intro _ c hc; cases hc
    | cons d l ih =>
      intro hg c hc
      rw [atS_cons]
      rcases List.mem_cons.1 hc with rfl | hc
      · rw [if_pos rfl, atS_head hg]; omega
      · have hlt := good_low hg c hc
        rw [if_neg (fun e => by rw [e] at hlt; exact absurd hlt (by simp [RV.lt])), ih (good_tail hg) c hc]
        omega
  constructor
  · intro c hc
    have e := hm _ q.1 c hc
    rw [q.2.1] at e
    have := (cntR_le xs c.t).1
    have hne : c.n ≠ 0 := ((IV.ok_iff c).1 (q.1.1 c hc)).1
    omega
  · have e : manyO (ofI xs) = manyO (xs.map fun r => (⟨r, 1⟩ : IV)) := manyO_ext fun u => by rw [q.2.1, map_at]; omega
    rw [e, map_many]
    omega
theorem plus_at {a b : List IV} (ha : goodI a) (hb : goodI b) (h : ∀ u, -2147483648 ≤ atS a u + atS b u ∧ atS a u + atS b u ≤ 2147483648) : goodI (plusI a b) ∧ ∀ u, atS (plusI a b) u = atS (a ++ b) u := by
  have M := plusI_is ha hb
  exact ⟨M.good, fun u => by rw [M.at_, addF_fit (h u), atS_append]⟩
theorem good_pos {b : List IV} (hg : goodI b) (h : ∀ u, 0 ≤ atS b u) : ∀ c ∈ b, 0 < c.n := by
  induction b with
  | nil => intro c hc; cases hc
  | cons d b ih =>
    intro c hc
    have hd : 0 < d.n := by
      have := h d.t
      rw [atS_cons, if_pos rfl, atS_head hg] at this
      have hne : d.n ≠ 0 := ((IV.ok_iff d).1 (hg.1 d (by simp))).1
      omega
    rcases List.mem_cons.1 hc with rfl | hc
    · exact hd
    · refine ih (good_tail hg) (fun u => ?_) c hc
      by_cases e : d.t = u
      · rw [← e, atS_head hg]; exact Int.le_refl _
      · have := h u
        rw [atS_cons, if_neg e] at this
        omega
/-- what it makes of two bags together is what it makes of each, together -/
theorem linear_parts {k : Int} (h : linearO k = true) (arg : Int) (p : List NV) {c d : List IV} (hc : goodI c) (hd : goodI d) (pc : ∀ x ∈ c, 0 < x.n) (pd : ∀ x ∈ d, 0 < x.n) (mc : manyO c ≤ 60) (md : manyO d ≤ 60) :
    (∀ x ∈ plusI c d, 0 < x.n) ∧ goodI (plusI c d) ∧ (applyO k arg p (plusI c d) []).2 = true ∧ (applyO k arg p c []).2 = true ∧ (applyO k arg p d []).2 = true ∧
    (applyO k arg p (plusI c d) []).1 = plusI (applyO k arg p c []).1 (applyO k arg p d []).1 := by
  have bc := fun u => atS_le_many pc u
  have bd := fun u => atS_le_many pd u
  have P := plus_at hc hd fun u => by have := bc u; have := bd u; omega
  have hpos : ∀ x ∈ plusI c d, 0 < x.n := good_pos P.1 fun u => by rw [P.2, atS_append]; have := bc u; have := bd u; omega
  have hm : manyO (plusI c d) = manyO c + manyO d := by rw [manyO_ext P.2, manyO_append]
  have A := linear_apply h arg p hpos (by omega)
  have B := linear_apply h arg p pc (by omega)
  have C := linear_apply h arg p pd (by omega)
  refine ⟨hpos, P.1, by rw [A.1], by rw [B.1], by rw [C.1], ?_⟩
  rw [A.1, B.1, C.1]
  have hB := fun u => atS_le_many (eachO_pos (k := k) (arg := arg) (p := p) pc) u
  have hC := fun u => atS_le_many (eachO_pos (k := k) (arg := arg) (p := p) pd) u
  obtain ⟨h8, _⟩ := linear_each h
  have Q := plus_at B.2.1 C.2.1 fun u => by
    rw [B.2.2.1, C.2.2.1, ← eachO_at h8, ← eachO_at h8]
    have := hB u; have := hC u; have := B.2.2.2; have := C.2.2.2
    omega
  refine good_ext A.2.1 Q.1 fun u => ?_
  rw [A.2.2.1, Q.2, atS_append, B.2.2.1, C.2.2.1, wS_ext _ P.2, wS_append]
end Go.Proofs.YthhceggcdaljdaaGreat
/- plain: operators that go by keys; of nothing nothing -/
namespace Go.Proofs.YthhceggcdaljdaaGreat
open Go.RowKit
set_option linter.unusedVariables false
set_option linter.unusedSimpArgs false

theorem mem_dropWhile {α : Type} {f : α → Bool} {x : α} : ∀ {l : List α}, x ∈ l.dropWhile f → x ∈ l
  | [], h => by simp at h
  | c :: l, h => by
    rw [List.dropWhile_cons] at h
    split at h
    · exact List.mem_cons_of_mem _ (mem_dropWhile h)
    · exact h
theorem mem_takeWhile {α : Type} {f : α → Bool} {x : α} : ∀ {l : List α}, x ∈ l.takeWhile f → x ∈ l
  | [], h => by simp at h
  | c :: l, h => by
    rw [List.takeWhile_cons] at h
    split at h
    · rcases List.mem_cons.1 h with rfl | h
      · simp
      · exact List.mem_cons_of_mem _ (mem_takeWhile h)
    · simp at h
theorem mem_takeO {b : List IV} {k : Int} {c : IV} (h : c ∈ takeO b k) : c ∈ b := mem_dropWhile (mem_takeWhile h)
theorem mem_restO {b : List IV} {k : Int} {c : IV} (h : c ∈ restO b k) : c ∈ b := mem_dropWhile (mem_dropWhile h)
theorem keysO_sub : ∀ (f : Nat) (a b : List IV), ∀ m ∈ keysO f a b, (∀ c ∈ m.1, c ∈ a) ∧ ∀ c ∈ m.2, c ∈ b
  | 0, _, _, m, h => by simp [keysO] at h
  | f + 1, [], _, m, h => by simp [keysO] at h
  | f + 1, c :: a, b, m, h => by
    rcases List.mem_cons.1 (show m ∈ (takeO (c :: a) c.t.k, takeO b c.t.k) :: keysO f (restO (c :: a) c.t.k) (restO b c.t.k) from h) with rfl | h
    · exact ⟨fun d hd => mem_takeO hd, fun d hd => mem_takeO hd⟩
    · have := keysO_sub f _ _ m h
      exact ⟨fun d hd => mem_restO (this.1 d hd), fun d hd => mem_restO (this.2 d hd)⟩
theorem keyO_pos {kind : Int} {x y : List IV} (hx : ∀ c ∈ x, 0 < c.n) (hy : ∀ c ∈ y, 0 < c.n) : ∀ c ∈ keyO kind x y, 0 < c.n := fun c hc => by
  unfold keyO at hc
  split at hc
  · unfold pairsO at hc
    obtain ⟨d, hd, hc⟩ := List.mem_flatMap.1 hc
    obtain ⟨e, he, rfl⟩ := List.mem_map.1 hc
    exact Int.mul_pos (hx d hd) (hy e he)
  · rw [List.mem_singleton.1 hc]
    show (0 : Int) < 1
    omega
theorem byKeysO_pos {kind : Int} {a b : List IV} (ha : ∀ c ∈ a, 0 < c.n) (hb : ∀ c ∈ b, 0 < c.n) : ∀ c ∈ byKeysO kind a b, 0 < c.n := fun c hc => by
  unfold byKeysO at hc
  obtain ⟨m, hm, hc⟩ := List.mem_flatMap.1 hc
  have s := keysO_sub _ _ _ m hm
  exact keyO_pos (fun d hd => ha d (s.1 d hd)) (fun d hd => hb d (s.2 d hd)) c hc
theorem comesO_pos {k arg : Int} {p : List NV} {a b : List IV} (ha : ∀ c ∈ a, 0 < c.n) (hb : ∀ c ∈ b, 0 < c.n) : ∀ c ∈ comesO k arg p a b, 0 < c.n := fun c hc => by
  unfold comesO at hc
  split at hc
  · exact eachO_pos (fun d hd => (List.mem_append.1 hd).elim (ha d) (hb d)) c hc
  · split at hc
    · exact byKeysO_pos ha hb c hc
    · split at hc
      · exact byKeysO_pos ha (fun d hd => by simp at hd) c hc
      · split at hc
        · exact eachO_pos ha c hc
        · simp at hc
/-- an operator's bag is right, nothing in it is there less than once, and there are no more than there is room for -/
theorem applyO_right {k arg : Int} {p : List NV} {a b : List IV} (ha : ∀ c ∈ a, 0 < c.n) (hb : ∀ c ∈ b, 0 < c.n) :
    goodI (applyO k arg p a b).1 ∧ (∀ c ∈ (applyO k arg p a b).1, 0 < c.n) ∧ manyO (applyO k arg p a b).1 ≤ 65536 ∧ ((applyO k arg p a b).2 = false → (applyO k arg p a b).1 = []) := by
  unfold applyO
  split
  · rename_i h
    have hp := comesO_pos (k := k) (arg := arg) (p := p) ha hb
    have q := togO_is hp h
    have hpos := good_pos q.1 fun u => by rw [q.2.1]; exact (atS_le_many hp u).1
    refine ⟨q.1, hpos, ?_, fun e => by simp at e⟩
    show manyO (togO _) ≤ 65536
    rw [manyO_ext q.2.1]
    exact h
  · exact ⟨goodI_nil, fun c hc => by simp at hc, by show manyO [] ≤ 65536; simp [manyO], fun _ => rfl⟩
/-- of nothing comes nothing -/
theorem applyO_none (k arg : Int) (p : List NV) : applyO k arg p [] [] = ([], true) := by
  have h : comesO k arg p [] [] = [] := by
    unfold comesO
    split
    · rfl
    · split
      · rfl
      · split
        · rfl
        · split <;> rfl
  unfold applyO
  rw [h]
  rfl
/-! ### by keys -/
/-- the keys, in the order of the bag -/
def ksO : Nat → List IV → List Int
  | 0, _ => []
  | _ + 1, [] => []
  | f + 1, c :: a => c.t.k :: ksO f (restO (c :: a) c.t.k)
/-- a key's items -/
def atK (b : List IV) (k : Int) : List IV := b.filter fun c => decide (c.t.k = k)
/-- keys don't fall -/
def upK (b : List IV) : Prop := b.Pairwise fun x y => x.t.k ≤ y.t.k
theorem good_up {b : List IV} (h : goodI b) : upK b := h.2.imp fun {x y} hxy => by
  have : x.t.k < y.t.k ∨ (x.t.k = y.t.k ∧ x.t.v < y.t.v) := by simpa [RV.lt] using hxy
  omega
theorem take_is : ∀ {b : List IV}, upK b → ∀ k, takeO b k = atK b k ∧ restO b k = b.filter fun c => decide (k < c.t.k)
  | [], _, k => ⟨rfl, rfl⟩
  | c :: b, h, k => by
    have hb := (List.pairwise_cons.1 h).2
    have hc := (List.pairwise_cons.1 h).1
    have ih := take_is hb k
    by_cases h1 : c.t.k < k
    · have e : dropO (c :: b) k = dropO b k := by unfold dropO; rw [List.dropWhile_cons, if_pos (by simpa using h1)]
      unfold takeO restO at ih ⊢
      rw [e]
      refine ⟨?_, ?_⟩
      · rw [ih.1]; unfold atK; rw [List.filter_cons, if_neg (by simp; omega)]
      · rw [ih.2, List.filter_cons, if_neg (by simp; omega)]
    · have e : dropO (c :: b) k = c :: b := by unfold dropO; rw [List.dropWhile_cons, if_neg (by simpa using h1)]
      unfold takeO restO
      rw [e]
      by_cases h2 : c.t.k = k
      · have e2 : dropO b k = b := by
          unfold dropO
          cases b with
          | nil => rfl
          | cons d b => rw [List.dropWhile_cons, if_neg (by have := hc d (by simp); simp; omega)]
        unfold takeO restO at ih
        rw [e2] at ih
        refine ⟨?_, ?_⟩
        · rw [List.takeWhile_cons, if_pos (by simpa using h2), ih.1]
          unfold atK
          rw [List.filter_cons, if_pos (by simpa using h2)]
        · rw [List.dropWhile_cons, if_pos (by simpa using h2), ih.2, List.filter_cons, if_neg (by simp; omega)]
      · have hgt : ∀ d ∈ b, k < d.t.k := fun d hd => by have := hc d hd; omega
        refine ⟨?_, ?_⟩
        · rw [List.takeWhile_cons, if_neg (by simpa using h2)]
          unfold atK
          rw [List.filter_cons, if_neg (by simpa using h2)]
          symm
          rw [List.filter_eq_nil_iff]
          intro d hd
          have := hgt d hd
          simp
          omega
        · rw [List.dropWhile_cons, if_neg (by simpa using h2)]
          symm
          rw [List.filter_eq_self]
          intro d hd
          rcases List.mem_cons.1 hd with rfl | hd
          · simp; omega
          · have := hgt d hd; simp; omega
theorem up_filter {b : List IV} (h : upK b) (f : IV → Bool) : upK (b.filter f) := h.filter f
/-- the keys of a bag, each with its items there and in the other one -/
theorem keysO_is : ∀ (f : Nat) (a b : List IV), upK a → upK b → keysO f a b = (ksO f a).map fun k => (atK a k, atK b k)
  | 0, _, _, _, _ => rfl
  | f + 1, [], _, _, _ => rfl
  | f + 1, c :: a, b, ha, hb => by
    have ta := take_is ha c.t.k
    have tb := take_is hb c.t.k
    have ih := keysO_is f (restO (c :: a) c.t.k) (restO b c.t.k) (by rw [ta.2]; exact up_filter ha _) (by rw [tb.2]; exact up_filter hb _)
    show (takeO (c :: a) c.t.k, takeO b c.t.k) :: keysO f (restO (c :: a) c.t.k) (restO b c.t.k) = (c.t.k :: ksO f (restO (c :: a) c.t.k)).map _
    rw [ih, List.map_cons, ta.1, tb.1]
    congr 1
    refine List.map_congr_left fun k hk => ?_
    have hlt : c.t.k < k := by
      have : ∀ (f : Nat) (r : List IV), (∀ d ∈ r, c.t.k < d.t.k) → ∀ k ∈ ksO f r, c.t.k < k := fun f => by
        induction f with
        | zero => intro r _ k hk; simp [ksO] at hk
        | succ f ihf =>
          intro r hr k hk
          cases r with
          | nil => simp [ksO] at hk
          | cons d r =>
            rcases List.mem_cons.1 (show k ∈ d.t.k :: ksO f (restO (d :: r) d.t.k) from hk) with rfl | hk
            · exact hr d (by simp)
            · exact ihf _ (fun e he => hr e (mem_restO he)) k hk
      refine this f _ (fun d hd => ?_) k hk
      rw [ta.2] at hd
      have := (List.mem_filter.1 hd).2
      simpa using this
    have fil : ∀ l : List IV, atK (l.filter fun d => decide (c.t.k < d.t.k)) k = atK l k := fun l => by
      unfold atK
      rw [List.filter_filter]
      refine List.filter_congr fun d _ => ?_
      by_cases e : d.t.k = k
      · simp [e, hlt]
      · simp [e]
    rw [ta.2, tb.2, fil, fil]
theorem mem_ks : ∀ (f : Nat) (a : List IV), upK a → a.length ≤ f → ∀ k, k ∈ ksO f a ↔ ∃ c ∈ a, c.t.k = k
  | 0, a, _, hl, k => by
    obtain rfl : a = [] := List.length_eq_zero_iff.1 (Nat.le_zero.1 hl)
    simp [ksO]
  | f + 1, [], _, _, k => by simp [ksO]
  | f + 1, c :: a, ha, hl, k => by
    have ta := take_is ha c.t.k
    have ih := mem_ks f (restO (c :: a) c.t.k) (by rw [ta.2]; exact up_filter ha _) (by have := restO_head c a; rw [List.length_cons] at hl; omega) k
    show k ∈ c.t.k :: ksO f (restO (c :: a) c.t.k) ↔ _
    rw [List.mem_cons, ih, ta.2]
    constructor
    · rintro (rfl | ⟨d, hd, rfl⟩)
      · exact ⟨c, by simp, rfl⟩
      · exact ⟨d, (List.mem_filter.1 hd).1, rfl⟩
    · rintro ⟨d, hd, rfl⟩
      by_cases e : d.t.k = c.t.k
      · exact .inl e
      · refine .inr ⟨d, List.mem_filter.2 ⟨hd, ?_⟩, rfl⟩
        rcases List.mem_cons.1 hd with rfl | hd
        · exact absurd rfl e
        · have := (List.pairwise_cons.1 ha).1 d hd
          simp; omega
end Go.Proofs.YthhceggcdaljdaaGreat
