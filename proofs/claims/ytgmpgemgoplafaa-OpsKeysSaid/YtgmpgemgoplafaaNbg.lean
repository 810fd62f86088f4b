/- operators that go by keys: each key's part hangs on that key's records alone -/
import Derived.Test.YtgmpgemgoplafaaNbd
namespace Go.Proofs.Ytgmpgemgoplafaa
open Go.RowKit
set_option linter.unusedVariables false
set_option linter.unusedSimpArgs false

/-- the items whose keys leave k by n -/
def resK (n k : Int) (b : List IV) : List IV := b.filter fun c => decide (c.t.k % n = k)
theorem at_keyed (P : Int → Bool) (f : List IV) (u : RV) : atS (f.filter fun c => P c.t.k) u = if P u.k = true then atS f u else 0 := by
  induction f with
  | nil => simp [atS]
  | cons c f ih =>
    rw [List.filter_cons, atS_cons]
    by_cases h : P c.t.k = true
    · rw [if_pos h, atS_cons, ih]
      by_cases e : c.t = u
      · subst e
        simp [h]
      · simp [e]
    · rw [if_neg h, ih]
      by_cases e : c.t = u
      · subst e
        simp [h]
      · simp [e]
theorem cnt_keyed (P : Int → Bool) (L : List RV) (u : RV) : cntR (L.filter fun r => P r.k) u = if P u.k = true then cntR L u else 0 := by
  induction L with
  | nil => simp [cntR]
  | cons c f ih =>
    rw [List.filter_cons]
    by_cases h : P c.k = true
    · rw [if_pos h]
      by_cases e : c = u
      · subst e
        simp [cntR, h] at ih ⊢
        exact ih
      · simp [cntR, e] at ih ⊢
        exact ih
    · rw [if_neg h]
      by_cases e : c = u
      · subst e
        simp [cntR, h] at ih ⊢
        exact ih
      · simp [cntR, e] at ih ⊢
        exact ih
theorem good_filter {f : List IV} (h : goodI f) (P : IV → Bool) : goodI (f.filter P) := ⟨fun c hc => h.1 c (List.mem_filter.1 hc).1, h.2.filter _⟩
theorem ofI_res (n k : Int) {L : List RV} (hl : L.length ≤ 60) : ofI (L.filter fun r => decide (r.k % n = k)) = resK n k (ofI L) := by
  have h1 := ofI_is (xs := L) (by omega)
  have h2 := ofI_is (xs := L.filter fun r => decide (r.k % n = k)) (by have := List.length_filter_le (fun r : RV => decide (r.k % n = k)) L; omega)
  refine good_ext h2.1 (good_filter h1.1 _) fun u => ?_
  rw [h2.2.1]
  unfold resK
  rw [at_keyed (fun x => decide (x % n = k)) (ofI L) u, h1.2.1, cnt_keyed (fun x => decide (x % n = k)) L u]
theorem bagQ_res (n k : Int) {C : List IV} {m : Int} (h : BagQ C m) : BagQ (resK n k C) m := by
  have hs : ∀ (P : IV → Bool) (l : List IV), (∀ c ∈ l, 0 < c.n) → manyO (l.filter P) ≤ manyO l := fun P l => by
    induction l with
    | nil => intro _; exact Int.le_refl _
    | cons c l ih =>
      intro hp
      have hc := hp c (by simp)
      have := ih fun d hd => hp d (by simp [hd])
      rw [List.filter_cons, manyO_cons]
      split
      · rw [manyO_cons]; omega
      · omega
  exact ⟨good_filter h.g _, fun x hx => h.p x (List.mem_filter.1 hx).1, Int.le_trans (hs _ C h.p) h.m, fun x hx => h.q x (List.mem_filter.1 hx).1⟩
theorem flat_at (u : RV) (g : Int → List IV) : ∀ (ks : List Int), ks.Nodup → (∀ j ∈ ks, ∀ x ∈ g j, x.t.k = j) → atS (ks.flatMap g) u = if u.k ∈ ks then atS (g u.k) u else 0
  | [], _, _ => by simp [atS]
  | j :: ks, hn, hk => by
    have ih := flat_at u g ks (List.nodup_cons.1 hn).2 fun i hi => hk i (List.mem_cons_of_mem _ hi)
    rw [List.flatMap_cons, atS_append, ih]
    by_cases e : u.k = j
    · subst e
      rw [if_neg (List.nodup_cons.1 hn).1, if_pos (List.mem_cons_self)]
      omega
    · have h0 : atS (g j) u = 0 := atS_zero fun c hc e2 => e (by rw [← e2]; exact hk j (List.mem_cons_self) c hc)
      rw [h0]
      by_cases h : u.k ∈ ks
      · rw [if_pos h, if_pos (List.mem_cons_of_mem _ h)]; omega
      · rw [if_neg h, if_neg (fun h2 => by rcases List.mem_cons.1 h2 with q | q; exact e q; exact h q)]; omega
theorem ks_nodup : ∀ (f : Nat) (a : List IV), upK a → a.length ≤ f → (ksO f a).Nodup
  | 0, _, _, _ => List.nodup_nil
  | f + 1, [], _, _ => List.nodup_nil
  | f + 1, c :: a, ha, hl => by
    have ta := take_is ha c.t.k
    have hr : upK (restO (c :: a) c.t.k) := by rw [ta.2]; exact up_filter ha _
    have hrl : (restO (c :: a) c.t.k).length ≤ f := by have := restO_head c a; rw [List.length_cons] at hl; omega
    show (c.t.k :: ksO f (restO (c :: a) c.t.k)).Nodup
    refine List.nodup_cons.2 ⟨fun hm => ?_, ks_nodup f _ hr hrl⟩
    obtain ⟨d, hd, e⟩ := (mem_ks f _ hr hrl _).1 hm
    rw [ta.2] at hd
    have := (List.mem_filter.1 hd).2
    simp at this
    omega
theorem sumO_key (k a b : Int) : (sumO k a b).k = k := by unfold sumO overO; split <;> rfl
theorem totalO_key (k : Int) (l : List IV) : (totalO k l).k = k := by unfold totalO overO; split <;> rfl
theorem keyO_key {kind j : Int} {m o : List IV} (h0 : m ≠ []) (h : ∀ c ∈ m, c.t.k = j) : ∀ x ∈ keyO kind m o, x.t.k = j := fun x hx => by
  unfold keyO at hx
  split at hx
  · obtain ⟨c, hc, hx⟩ := List.mem_flatMap.1 hx
    obtain ⟨d, hd, rfl⟩ := List.mem_map.1 hx
    show (sumO c.t.k c.t.v d.t.v).k = j
    rw [sumO_key]
    exact h c hc
  · have e0 : (m[0]!).t.k = j := h _ (getA_mem (List.length_pos_iff.2 h0))
    obtain rfl := List.mem_singleton.1 hx
    show (figureO kind m o).k = j
    unfold figureO
    split
    · exact e0
    · split
      · rw [totalO_key]; exact e0
      · rw [totalO_key]; exact e0
theorem byKeys_at (kind : Int) {a b : List IV} (ha : upK a) (hb : upK b) (u : RV) : atS (byKeysO kind a b) u = if atK a u.k = [] then 0 else atS (keyO kind (atK a u.k) (atK b u.k)) u := by
  unfold byKeysO
  rw [keysO_is _ a b ha hb, List.flatMap_map]
  have hm := mem_ks a.length a ha (Nat.le_refl _)
  have hne : ∀ j, j ∈ ksO a.length a ↔ atK a j ≠ [] := fun j => by
    rw [hm]
    unfold atK
    constructor
    · rintro ⟨c, hc, e⟩ h
      have := List.filter_eq_nil_iff.1 h c hc
      simp [e] at this
    · intro h
      refine Classical.byContradiction fun hn => h (List.filter_eq_nil_iff.2 fun c hc => ?_)
      simp
      exact fun e => hn ⟨c, hc, e⟩
  rw [flat_at u (fun j => keyO kind (atK a j) (atK b j)) _ (ks_nodup _ a ha (Nat.le_refl _)) fun j hj x hx => keyO_key ((hne j).1 hj) (fun c hc => by simpa [atK] using (List.mem_filter.1 hc).2) x hx]
  by_cases h : atK a u.k = []
  · rw [if_pos h, if_neg (fun hk => (hne _).1 hk h)]
  · rw [if_neg h, if_pos ((hne _).2 h)]
theorem atK_res (n k j : Int) (b : List IV) : atK (resK n k b) j = if j % n = k then atK b j else [] := by
  unfold atK resK
  rw [List.filter_filter]
  split
  · rename_i h
    refine List.filter_congr fun c _ => ?_
    by_cases e : c.t.k = j
    · simp [e, h]
    · simp [e]
  · rename_i h
    refine List.filter_eq_nil_iff.2 fun c _ => ?_
    simp
    intro e e2
    rw [e] at e2
    exact h e2
theorem byKeys_res (n k kind : Int) {a b : List IV} (ha : upK a) (hb : upK b) (u : RV) : atS (byKeysO kind (resK n k a) (resK n k b)) u = if u.k % n = k then atS (byKeysO kind a b) u else 0 := by
  rw [byKeys_at kind (a := resK n k a) (b := resK n k b) (up_filter ha _) (up_filter hb _), byKeys_at kind ha hb, atK_res, atK_res]
  by_cases h : u.k % n = k
  · simp [h]
  · simp [h]
theorem each8_at (arg : Int) (p : List NV) (P : Int → Bool) (b : List IV) (u : RV) : atS (eachO 8 arg p (b.filter fun c => P c.t.k)) u = if P u.k = true then atS (eachO 8 arg p b) u else 0 := by
  have h1 : ∀ r, oneO 8 arg p r = [r] := fun r => rfl
  induction b with
  | nil => simp [eachO, atS]
  | cons c b ih =>
    rw [List.filter_cons, eachO_cons, atS_append]
    by_cases h : P c.t.k = true
    · rw [if_pos h, eachO_cons, atS_append, ih, h1]
      by_cases e : c.t = u
      · subst e
        simp [h]
      · simp [atS, e]
    · rw [if_neg h, ih, h1]
      by_cases e : c.t = u
      · subst e
        simp [h]
      · simp [atS, e]
/-- the operators that go by keys -/
def keyed (k : Int) : Bool := decide (k = 6 ∨ k = 7 ∨ k = 8 ∨ k = 9 ∨ k = 14)
theorem comes_res {kind : Int} (hk : keyed kind = true) (arg : Int) (p : List NV) (n j : Int) {a b : List IV} (ha : upK a) (hb : upK b) (u : RV) :
    atS (comesO kind arg p (resK n j a) (resK n j b)) u = if u.k % n = j then atS (comesO kind arg p a b) u else 0 := by
  have h0 : resK n j [] = [] := rfl
  have hn : upK [] := List.Pairwise.nil
  have hk : kind = 6 ∨ kind = 7 ∨ kind = 8 ∨ kind = 9 ∨ kind = 14 := of_decide_eq_true hk
  rcases hk with rfl | rfl | rfl | rfl | rfl
  · have := byKeys_res n j 6 ha hn u
    rw [h0] at this
    exact this
  · have := byKeys_res n j 7 ha hn u
    rw [h0] at this
    exact this
  · have := each8_at arg p (fun x => decide (x % n = j)) a u
    simp only [decide_eq_true_eq] at this
    exact this
  · exact byKeys_res n j 9 ha hb u
  · exact byKeys_res n j 14 ha hb u
theorem many_take_rest (c : IV) (a : List IV) (hp : ∀ x ∈ c :: a, 0 < x.n) : manyO (takeO (c :: a) c.t.k) + manyO (restO (c :: a) c.t.k) = manyO (c :: a) := by
  have e : dropO (c :: a) c.t.k = c :: a := by unfold dropO; rw [List.dropWhile_cons, if_neg (by simp)]
  unfold takeO restO
  rw [e, ← manyO_append, List.takeWhile_append_dropWhile]
theorem many_sub {l m : List IV} (h : List.Sublist l m) (hp : ∀ x ∈ m, 0 < x.n) : manyO l ≤ manyO m := by
  induction h with
  | slnil => exact Int.le_refl _
  | cons a _ ih =>
    have := ih fun x hx => hp x (by simp [hx])
    have := hp a (by simp)
    rw [manyO_cons]; omega
  | cons_cons a _ ih =>
    have := ih fun x hx => hp x (by simp [hx])
    rw [manyO_cons, manyO_cons]; omega
theorem many_pairs (m o : List IV) : manyO (pairsO m o) = manyO m * manyO o := by
  have h1 : ∀ c : IV, manyO (o.map fun d => (⟨sumO c.t.k c.t.v d.t.v, c.n * d.n⟩ : IV)) = c.n * manyO o := fun c => by
    induction o with
    | nil => simp [manyO]
    | cons d o ih =>
      rw [List.map_cons, manyO_cons, manyO_cons, ih, Int.mul_add]
  induction m with
  | nil => simp [pairsO, manyO]
  | cons c m ih =>
    have e : pairsO (c :: m) o = (o.map fun d => (⟨sumO c.t.k c.t.v d.t.v, c.n * d.n⟩ : IV)) ++ pairsO m o := by simp [pairsO]
    rw [e, manyO_append, h1, ih, manyO_cons, Int.add_mul]
theorem keys_many (kind : Int) : ∀ (f : Nat) (a b : List IV), (∀ x ∈ a, 0 < x.n) → (∀ x ∈ b, 0 < x.n) → manyO ((keysO f a b).flatMap fun m => keyO kind m.1 m.2) ≤ manyO a * (manyO b + 1)
  | 0, a, b, ha, hb => by
    have h1 := manyO_pos ha; have h2 := manyO_pos hb
    simp only [keysO, List.flatMap_nil]
    exact Int.mul_nonneg h1 (by omega)
  | f + 1, [], b, ha, hb => by simp [keysO, manyO]
  | f + 1, c :: a, b, ha, hb => by
    have hpart := many_take_rest c a ha
    have st : List.Sublist (takeO b c.t.k) b := (List.takeWhile_sublist _).trans (List.dropWhile_sublist _)
    have sr : List.Sublist (restO b c.t.k) b := (List.dropWhile_sublist _).trans (List.dropWhile_sublist _)
    have sa : List.Sublist (restO (c :: a) c.t.k) (c :: a) := (List.dropWhile_sublist _).trans (List.dropWhile_sublist _)
    have sta : List.Sublist (takeO (c :: a) c.t.k) (c :: a) := (List.takeWhile_sublist _).trans (List.dropWhile_sublist _)
    have ih := keys_many kind f (restO (c :: a) c.t.k) (restO b c.t.k) (fun x hx => ha x (sa.subset hx)) (fun x hx => hb x (sr.subset hx))
    have h1 := many_sub st hb
    have h2 := many_sub sr hb
    have hr := manyO_pos (l := restO (c :: a) c.t.k) fun x hx => ha x (sa.subset hx)
    have hb0 := manyO_pos hb
    have ht1 : 1 ≤ manyO (takeO (c :: a) c.t.k) := by
      have hne : 0 < (takeO (c :: a) c.t.k).length := (keysO_len (f + 1) (c :: a) b _ (by rw [keysO]; exact List.mem_cons_self)).1
      have := manyO_len (l := takeO (c :: a) c.t.k) fun x hx => ha x (sta.subset hx)
      omega
    have hk : manyO (keyO kind (takeO (c :: a) c.t.k) (takeO b c.t.k)) ≤ manyO (takeO (c :: a) c.t.k) * (manyO b + 1) := by
      unfold keyO
      split
      · rw [many_pairs]
        exact Int.mul_le_mul_of_nonneg_left (by omega) (by omega)
      · have e : manyO [(⟨figureO kind (takeO (c :: a) c.t.k) (takeO b c.t.k), 1⟩ : IV)] = 1 := rfl
        rw [e]
        have := Int.mul_le_mul ht1 (show (1 : Int) ≤ manyO b + 1 by omega) (by omega) (by omega)
        omega
    rw [keysO, List.flatMap_cons, manyO_append, ← hpart, Int.add_mul]
    have hm2 : manyO (restO (c :: a) c.t.k) * (manyO (restO b c.t.k) + 1) ≤ manyO (restO (c :: a) c.t.k) * (manyO b + 1) := Int.mul_le_mul_of_nonneg_left (by omega) hr
    show manyO (keyO kind (takeO (c :: a) c.t.k) (takeO b c.t.k)) + _ ≤ _
    omega
theorem each8_many (arg : Int) (p : List NV) (b : List IV) : manyO (eachO 8 arg p b) = b.length := by
  induction b with
  | nil => rfl
  | cons c b ih =>
    rw [eachO_cons, manyO_append, ih]
    have e : manyO ((oneO 8 arg p c.t).map fun r => (⟨r, if (8 : Int) = 8 then 1 else c.n⟩ : IV)) = 1 := rfl
    rw [e, List.length_cons]
    omega
theorem keyed_many {kind : Int} (hk : keyed kind = true) (arg : Int) (p : List NV) {a b : List IV} (ha : BagQ a 60) (hb : BagQ b 60) : manyO (comesO kind arg p a b) ≤ 65536 := by
  have h1 := manyO_pos ha.p
  have h2 := manyO_pos hb.p
  have h3 := ha.m
  have h4 := hb.m
  have hK := keys_many kind a.length a b ha.p hb.p
  have hK0 := keys_many kind a.length a [] ha.p (fun x hx => by cases hx)
  have hbd : manyO a * (manyO b + 1) ≤ 60 * 61 := Int.mul_le_mul h3 (by omega) (by omega) (by omega)
  have hbd0 : manyO a * (manyO [] + 1) ≤ 60 * 61 := Int.mul_le_mul h3 (by simp [manyO]) (by simp [manyO]) (by omega)
  have h8 := each8_many arg p a
  have hl := ha.len
  have hk : kind = 6 ∨ kind = 7 ∨ kind = 8 ∨ kind = 9 ∨ kind = 14 := of_decide_eq_true hk
  rcases hk with rfl | rfl | rfl | rfl | rfl
  · show manyO (byKeysO 6 a []) ≤ _; unfold byKeysO; omega
  · show manyO (byKeysO 7 a []) ≤ _; unfold byKeysO; omega
  · show manyO (eachO 8 arg p a) ≤ _; omega
  · show manyO (byKeysO 9 a b) ≤ _; unfold byKeysO; omega
  · show manyO (byKeysO 14 a b) ≤ _; unfold byKeysO; omega
/-- what it makes of the part of a residue is the part of what it makes -/
theorem keyed_part {kind : Int} (hk : keyed kind = true) (arg : Int) (p : List NV) (n j : Int) {a b : List IV} (ha : BagQ a 60) (hb : BagQ b 60) :
    (applyO kind arg p a b).2 = true ∧ (applyO kind arg p (resK n j a) (resK n j b)).2 = true ∧ (applyO kind arg p (resK n j a) (resK n j b)).1 = resK n j (applyO kind arg p a b).1 := by
  have hm := keyed_many hk arg p ha hb
  have hm2 := keyed_many hk arg p (bagQ_res n j ha) (bagQ_res n j hb)
  have hp := comesO_pos (k := kind) (arg := arg) (p := p) ha.p hb.p
  have hp2 := comesO_pos (k := kind) (arg := arg) (p := p) (bagQ_res n j ha).p (bagQ_res n j hb).p
  have T := togO_is hp hm
  have T2 := togO_is hp2 hm2
  unfold applyO
  rw [if_pos hm, if_pos hm2]
  refine ⟨rfl, rfl, good_ext T2.1 (good_filter T.1 _) fun u => ?_⟩
  show atS (togO _) u = atS ((togO _).filter fun c => decide (c.t.k % n = j)) u
  rw [T2.2.1, at_keyed (fun x => decide (x % n = j)), T.2.1, comes_res hk arg p n j (good_up ha.g) (good_up hb.g)]
  simp
/-- the items whose keys leave less than j by n -/
def lowK (n j : Int) (b : List IV) : List IV := b.filter fun c => decide (c.t.k % n < j)
theorem lowK_zero {n : Int} (hn : 1 ≤ n) (b : List IV) : lowK n 0 b = [] := List.filter_eq_nil_iff.2 fun c _ => by
  have := Int.emod_nonneg c.t.k (show n ≠ 0 by omega)
  simp
  omega
theorem lowK_all {n : Int} (hn : 1 ≤ n) (b : List IV) : lowK n n b = b := List.filter_eq_self.2 fun c _ => by
  have := Int.emod_lt_of_pos c.t.k (show 0 < n by omega)
  simp
  omega
theorem lowK_succ {n j : Int} {W : List IV} (hg : goodI W) (hp : ∀ x ∈ W, 0 < x.n) (hm : manyO W ≤ 65536) : plusI (lowK n j W) (resK n j W) = lowK n (j + 1) W := by
  have hw := fun u => atS_le_many hp u
  have e1 : ∀ u, atS (lowK n j W) u = if u.k % n < j then atS W u else 0 := fun u => by
    have := at_keyed (fun x => decide (x % n < j)) W u
    simpa [lowK] using this
  have e2 : ∀ u, atS (resK n j W) u = if u.k % n = j then atS W u else 0 := fun u => by
    have := at_keyed (fun x => decide (x % n = j)) W u
    simpa [resK] using this
  have e3 : ∀ u, atS (lowK n (j + 1) W) u = if u.k % n < j + 1 then atS W u else 0 := fun u => by
    have := at_keyed (fun x => decide (x % n < j + 1)) W u
    simpa [lowK] using this
  have P := plus_at (a := lowK n j W) (b := resK n j W) (good_filter hg _) (good_filter hg _) fun u => by
    rw [e1, e2]
    have := hw u
    split <;> split <;> omega
  refine good_ext P.1 (good_filter hg _) fun u => ?_
  rw [P.2, atS_append, e1, e2, e3]
  have := hw u
  split <;> split <;> split <;> omega
theorem low_len (n j : Int) (W : List IV) : (lowK n j W).length ≤ W.length := List.length_filter_le _ _
theorem res_len (n j : Int) (W : List IV) : (resK n j W).length ≤ W.length := List.length_filter_le _ _
end Go.Proofs.Ytgmpgemgoplafaa
