/- cells as plain facts: a record comes; two records come in whatever order -/
import Derived.Test.YthhceggcdaljdaaGreatG02
import Derived.Test.YthhceggcdaljdaaGreatG04
namespace Go.Proofs.YthhceggcdaljdaaGreat
open Go.RowKit
set_option linter.unusedVariables false
set_option linter.unusedSimpArgs false

/-- a slot -/
structure SV where
  t : TV
  a : List IV
  b : List IV
  s : List IV
  dirty : Bool
  fired : Bool
instance : Inhabited SV := ⟨⟨TV.zero, [], [], [], false, false⟩⟩
def SV.empty (x : SV) : Bool := x.a.isEmpty && (x.b.isEmpty && x.s.isEmpty)
def okS (x : SV) : Bool := x.t.ok && (!x.empty && (rightI x.a && (rightI x.b && rightI x.s)))
theorem okS_iff (x : SV) : okS x = true ↔ x.t.ok = true ∧ x.empty = false ∧ rightI x.a = true ∧ rightI x.b = true ∧ rightI x.s = true := by
  simp [okS]
def GoodSl (c : List SV) : Prop := (∀ x ∈ c, okS x = true) ∧ c.Pairwise fun x y => x.t.lt y.t = true
theorem lt_irreflT (t : TV) : ¬ t.lt t = true := fun h => by have := ((TV.lt_iff t t).1 h).2.2; omega
theorem lt_or {t u : TV} (ht : t.ok = true) (hu : u.ok = true) (hne : ¬ t = u) (h : ¬ t.lt u = true) : u.lt t = true := by
  rw [TV.lt_iff] at h ⊢
  refine ⟨hu, ht, ?_⟩
  have h1 : ¬ t.key < u.key := fun q => h ⟨ht, hu, q⟩
  have h2 : t.key ≠ u.key := fun q => hne (TV.key_inj ht hu q)
  omega
theorem lt_transT {t u v : TV} (h : t.lt u = true) (k : u.lt v = true) : t.lt v = true := by
  rw [TV.lt_iff] at *
  exact ⟨h.1, k.2.1, by omega⟩
def lookS (c : List SV) (t : TV) : Option SV := c.find? fun x => decide (x.t = t)
theorem lookS_cons (x : SV) (c : List SV) (t : TV) : lookS (x :: c) t = if x.t = t then some x else lookS c t := by
  unfold lookS
  rw [List.find?_cons]
  by_cases h : x.t = t
  · simp [h]
  · simp [h]
theorem lookS_nil (t : TV) : lookS [] t = none := rfl
theorem lookS_none {c : List SV} {t : TV} (h : ∀ x ∈ c, x.t ≠ t) : lookS c t = none := by
  induction c with
  | nil => rfl
  | cons x c ih => rw [lookS_cons, if_neg (h x List.mem_cons_self)]; exact ih fun y hy => h y (List.mem_cons_of_mem _ hy)
theorem lookS_mem {c : List SV} {t : TV} {x : SV} (h : lookS c t = some x) : x ∈ c ∧ x.t = t := by
  induction c with
  | nil => cases h
  | cons y c ih =>
    rw [lookS_cons] at h
    split at h
    · cases h; exact ⟨List.mem_cons_self, by assumption⟩
    · exact ⟨List.mem_cons_of_mem _ (ih h).1, (ih h).2⟩
theorem goodSl_tail {x : SV} {c : List SV} (h : GoodSl (x :: c)) : GoodSl c := ⟨fun y hy => h.1 y (List.mem_cons_of_mem _ hy), (List.pairwise_cons.1 h.2).2⟩
theorem goodSl_low {x : SV} {c : List SV} (h : GoodSl (x :: c)) : ∀ y ∈ c, x.t.lt y.t = true := (List.pairwise_cons.1 h.2).1
theorem goodSl_cons {x : SV} {c : List SV} (hx : okS x = true) (hl : ∀ y ∈ c, x.t.lt y.t = true) (h : GoodSl c) : GoodSl (x :: c) :=
  ⟨fun y hy => by rcases List.mem_cons.1 hy with rfl | hy; exact hx; exact h.1 y hy, List.pairwise_cons.2 ⟨hl, h.2⟩⟩
theorem goodSl_head {x : SV} {c : List SV} (h : GoodSl (x :: c)) : lookS c x.t = none := lookS_none fun y hy e => by
  have := goodSl_low h y hy
  rw [e] at this
  exact lt_irreflT _ this
/-- two right cells with the same slots are one -/
theorem look_ext : ∀ {c d : List SV}, GoodSl c → GoodSl d → (∀ t, lookS c t = lookS d t) → c = d
  | [], [], _, _, _ => rfl
  | [], y :: d, _, _, h => by have := h y.t; rw [lookS_nil, lookS_cons, if_pos rfl] at this; cases this
  | x :: c, [], _, _, h => by have := h x.t; rw [lookS_nil, lookS_cons, if_pos rfl] at this; cases this
  | x :: c, y :: d, hc, hd, h => by
    have hx := ((okS_iff x).1 (hc.1 x List.mem_cons_self)).1
    have hy := ((okS_iff y).1 (hd.1 y List.mem_cons_self)).1
    by_cases e : x.t = y.t
    · have h1 := h x.t
      rw [lookS_cons, if_pos rfl, lookS_cons, if_pos e.symm] at h1
      cases h1
      congr 1
      refine look_ext (goodSl_tail hc) (goodSl_tail hd) fun t => ?_
      by_cases q : x.t = t
      · subst q; rw [goodSl_head hc, goodSl_head hd]
      · have := h t
        rwa [lookS_cons, if_neg q, lookS_cons, if_neg q] at this
    · exfalso
      by_cases l : x.t.lt y.t = true
      · have h1 := h x.t
        rw [lookS_cons, if_pos rfl, lookS_none (c := y :: d) fun z hz q => ?_] at h1
        · cases h1
        · rcases List.mem_cons.1 hz with rfl | hz
          · exact e q.symm
          · have := lt_transT l (goodSl_low hd z hz)
            rw [q] at this
            exact lt_irreflT _ this
      · have l := lt_or hx hy e l
        have h1 := h y.t
        rw [lookS_cons (x := y), if_pos rfl, lookS_none (c := x :: c) fun z hz q => ?_] at h1
        · cases h1
        · rcases List.mem_cons.1 hz with rfl | hz
          · exact e q
          · have := lt_transT l (goodSl_low hc z hz)
            rw [q] at this
            exact lt_irreflT _ this
/-! ### a record comes -/
def freshS (t : TV) : SV := ⟨t, [], [], [], false, false⟩
def putS (x : SV) (port : Int) (r : RV) (n : Int) : SV := if port = 0 then ⟨x.t, addI x.a r n, x.b, x.s, true, x.fired⟩ else ⟨x.t, x.a, addI x.b r n, x.s, true, x.fired⟩
def ownS (c : List SV) (port : Int) (t : TV) (r : RV) (n : Int) : SV := putS ((lookS c t).getD (freshS t)) port r n
def markS (kind : Int) (t : TV) (x : SV) : SV := ⟨x.t, x.a, x.b, x.s, x.dirty || (decide (kind = 14) && t.le x.t), x.fired⟩
theorem markS_t (kind : Int) (t : TV) (x : SV) : (markS kind t x).t = x.t := rfl
theorem markS_ok (kind : Int) (t : TV) (x : SV) : okS (markS kind t x) = okS x := rfl
def outS (kind : Int) (own : SV) : List SV → Bool → List SV
  | [], done => if done = true then [] else [own]
  | x :: c, done => if x.t = own.t then outS kind own c done
    else if done = false ∧ own.t.lt x.t = true then own :: markS kind own.t x :: outS kind own c true
    else markS kind own.t x :: outS kind own c done
def comeS (c : List SV) (kind port : Int) (t : TV) (r : RV) (n : Int) : List SV := outS kind (ownS c port t r n) c (ownS c port t r n).empty
theorem outS_mem {kind : Int} {own : SV} : ∀ {c : List SV} {done : Bool} {y : SV}, y ∈ outS kind own c done → (done = false ∧ y = own) ∨ ∃ x ∈ c, x.t ≠ own.t ∧ y = markS kind own.t x
  | [], done, y, h => by
    unfold outS at h
    split at h
    · cases h
    · rw [List.mem_singleton] at h
      exact .inl ⟨by simpa using ‹¬ done = true›, h⟩
  | x :: c, done, y, h => by
    unfold outS at h
    split at h
    · rcases outS_mem h with h | ⟨z, hz, q⟩
      · exact .inl h
      · exact .inr ⟨z, List.mem_cons_of_mem _ hz, q⟩
    · rename_i hne
      split at h
      · rename_i hd
        rcases List.mem_cons.1 h with h | h
        · exact .inl ⟨hd.1, h⟩
        · rcases List.mem_cons.1 h with h | h
          · exact .inr ⟨x, List.mem_cons_self, hne, h⟩
          · rcases outS_mem h with ⟨h, _⟩ | ⟨z, hz, q⟩
            · cases h
            · exact .inr ⟨z, List.mem_cons_of_mem _ hz, q⟩
      · rcases List.mem_cons.1 h with h | h
        · exact .inr ⟨x, List.mem_cons_self, hne, h⟩
        · rcases outS_mem h with h | ⟨z, hz, q⟩
          · exact .inl h
          · exact .inr ⟨z, List.mem_cons_of_mem _ hz, q⟩
theorem outS_look {kind : Int} {own : SV} : ∀ {c : List SV} {done : Bool}, ∀ t, lookS (outS kind own c done) t = if t = own.t then (if done = true then none else some own) else (lookS c t).map (markS kind own.t)
  | [], done, t => by
    unfold outS
    by_cases hd : done = true
    · rw [if_pos hd, if_pos hd]; split <;> rfl
    · rw [if_neg hd, if_neg hd, lookS_cons]
      by_cases e : t = own.t
      · rw [if_pos e.symm, if_pos e]
      · rw [if_neg (fun q => e q.symm), if_neg e]; rfl
  | x :: c, done, t => by
    unfold outS
    split
    · rename_i he
      rw [outS_look t]
      by_cases e : t = own.t
      · rw [if_pos e, if_pos e]
      · rw [if_neg e, if_neg e, lookS_cons, if_neg (fun q => e (q.symm.trans he))]
    · rename_i hne
      split
      · rename_i hd
        rw [lookS_cons, lookS_cons, markS_t, outS_look t]
        by_cases e : t = own.t
        · rw [if_pos e.symm, if_pos e, if_neg (by rw [hd.1]; decide)]
        · rw [if_neg (fun q => e q.symm), if_neg e, if_neg e, lookS_cons]
          split <;> rfl
      · rw [lookS_cons, markS_t, outS_look t]
        by_cases e : t = own.t
        · rw [if_neg (fun q => hne (q.trans e)), if_pos e, if_pos e]
        · rw [if_neg e, if_neg e, lookS_cons]
          split <;> rfl
theorem outS_good {kind : Int} {own : SV} (ht : own.t.ok = true) : ∀ {c : List SV} {done : Bool}, GoodSl c → (done = false → okS own = true) → GoodSl (outS kind own c done)
  | [], done, _, ho => by
    unfold outS
    split
    · exact ⟨fun _ h => (by cases h), List.Pairwise.nil⟩
    · exact goodSl_cons (ho (by simpa using ‹¬ done = true›)) (fun _ h => by cases h) ⟨fun _ h => (by cases h), List.Pairwise.nil⟩
  | x :: c, done, hc, ho => by
    have hx := hc.1 x List.mem_cons_self
    have I := fun {d : Bool} (h : d = false → okS own = true) => outS_good (kind := kind) ht (c := c) (done := d) (goodSl_tail hc) h
    have hlow : ∀ d : Bool, (d = false → x.t.lt own.t = true) → ∀ y ∈ outS kind own c d, (markS kind own.t x).t.lt y.t = true := fun d hd y hy => by
      rw [markS_t]
      rcases outS_mem hy with ⟨h1, rfl⟩ | ⟨z, hz, _, rfl⟩
      · exact hd h1
      · rw [markS_t]; exact goodSl_low hc z hz
    unfold outS
    split
    · exact I ho
    · rename_i hne
      split
      · rename_i hd
        have g1 := goodSl_cons (x := markS kind own.t x) (by rw [markS_ok]; exact hx) (hlow true fun q => by cases q) (I fun q => by cases q)
        refine goodSl_cons (ho hd.1) (fun y hy => ?_) g1
        rcases List.mem_cons.1 hy with rfl | hy
        · rw [markS_t]; exact hd.2
        · have := hlow true (fun q => by cases q) y hy
          rw [markS_t] at this
          exact lt_transT hd.2 this
      · rename_i hd
        refine goodSl_cons (by rw [markS_ok]; exact hx) (hlow done fun q => ?_) (I ho)
        refine lt_or ht ((okS_iff x).1 hx).1 (fun e => hne e.symm) fun l => hd ⟨q, l⟩
theorem putS_t (x : SV) (port : Int) (r : RV) (n : Int) : (putS x port r n).t = x.t := by unfold putS; split <;> rfl
theorem ownS_t (c : List SV) (port : Int) (t : TV) (r : RV) (n : Int) : (ownS c port t r n).t = t := by
  unfold ownS
  rw [putS_t]
  cases h : lookS c t with
  | none => rfl
  | some x => exact (lookS_mem h).2
theorem addI_right {f : List IV} (h : rightI f = true) (r : RV) (n : Int) : rightI (addI f r n) = true := by
  unfold addI plusI
  split
  · rename_i q
    exact (rightI_iff _).2 (merged_is _ _ ((rightI_iff _).1 q.1) ((rightI_iff _).1 q.2)).good
  · exact h
theorem ownS_ok {c : List SV} (hc : GoodSl c) {t : TV} (ht : t.ok = true) (port : Int) (r : RV) (n : Int) (he : (ownS c port t r n).empty = false) : okS (ownS c port t r n) = true := by
  have hr : rightI ((lookS c t).getD (freshS t)).a = true ∧ rightI ((lookS c t).getD (freshS t)).b = true ∧ rightI ((lookS c t).getD (freshS t)).s = true := by
    cases h : lookS c t with
    | none => exact ⟨rfl, rfl, rfl⟩
    | some x => have q := (okS_iff x).1 (hc.1 x (lookS_mem h).1); exact ⟨q.2.2.1, q.2.2.2.1, q.2.2.2.2⟩
  refine (okS_iff _).2 ⟨by rw [ownS_t]; exact ht, he, ?_⟩
  unfold ownS putS
  split
  · exact ⟨addI_right hr.1 r n, hr.2.1, hr.2.2⟩
  · exact ⟨hr.1, addI_right hr.2.1 r n, hr.2.2⟩
theorem comeS_good {c : List SV} (hc : GoodSl c) {t : TV} (ht : t.ok = true) (kind port : Int) (r : RV) (n : Int) : GoodSl (comeS c kind port t r n) := by
  unfold comeS
  exact outS_good (by rw [ownS_t]; exact ht) hc fun q => ownS_ok hc ht port r n q
theorem comeS_look (c : List SV) (kind port : Int) (t : TV) (r : RV) (n : Int) (u : TV) : lookS (comeS c kind port t r n) u = if u = t then (if (ownS c port t r n).empty = true then none else some (ownS c port t r n)) else (lookS c u).map (markS kind t) := by
  unfold comeS
  rw [outS_look u, ownS_t]
/-! ### two records, in whatever order -/
theorem atS_near {f : List IV} (h : goodI f) {K : Int} (h0 : 0 ≤ K) (hl : ∀ c ∈ f, -K ≤ c.n ∧ c.n ≤ K) (u : RV) : -K ≤ atS f u ∧ atS f u ≤ K := by
  induction f with
  | nil => rw [atS_nil]; omega
  | cons c f ih =>
    rw [atS_cons]
    by_cases e : c.t = u
    · subst e
      rw [if_pos rfl, atS_head h]
      have := hl c List.mem_cons_self
      omega
    · rw [if_neg e]
      have := ih (good_tail h) fun d hd => hl d (List.mem_cons_of_mem _ hd)
      omega
theorem addI_at {f : List IV} (h : goodI f) {r : RV} {n : Int} (hn : n ≠ 0) {K : Int} (hK : 0 ≤ K ∧ K ≤ 2147483000) (hs : -128 ≤ n ∧ n ≤ 128) (hl : ∀ u, -K ≤ atS f u ∧ atS f u ≤ K) : goodI (addI f r n) ∧ ∀ u, atS (addI f r n) u = atS f u + if r = u then n else 0 := by
  have h1 := one_good r (n := n) ⟨hn, by omega, by omega⟩
  have q := plusI_is h h1
  refine ⟨q.good, fun u => ?_⟩
  have := q.at_ u
  have hu := hl u
  rw [atS_one] at this
  show atS (plusI f [⟨r, n⟩]) u = _
  rw [this]
  refine addF_fit ?_
  split <;> omega
theorem addI_comm {f : List IV} (h : goodI f) (hl : ∀ c ∈ f, -1073741824 ≤ c.n ∧ c.n ≤ 1073741824) {r s : RV} {n m : Int} (hn : n ≠ 0) (hm : m ≠ 0) (h1 : -128 ≤ n ∧ n ≤ 128) (h2 : -128 ≤ m ∧ m ≤ 128) : addI (addI f r n) s m = addI (addI f s m) r n := by
  have hf := atS_near h (K := 1073741824) (by omega) hl
  obtain ⟨g1, a1⟩ := addI_at h (r := r) hn (K := 1073741824) (by omega) h1 hf
  obtain ⟨g2, a2⟩ := addI_at h (r := s) hm (K := 1073741824) (by omega) h2 hf
  obtain ⟨g3, a3⟩ := addI_at g1 (r := s) hm (K := 1073741952) (by omega) h2 fun u => by rw [a1 u]; have := hf u; split <;> omega
  obtain ⟨g4, a4⟩ := addI_at g2 (r := r) hn (K := 1073741952) (by omega) h1 fun u => by rw [a2 u]; have := hf u; split <;> omega
  refine good_ext g3 g4 fun u => ?_
  rw [a3, a4, a1, a2]
  omega
/-- all of a slot but whether it was made -/
def nfS (x : SV) : SV := ⟨x.t, x.a, x.b, x.s, x.dirty, false⟩
theorem nf_look (c : List SV) (t : TV) : lookS (c.map nfS) t = (lookS c t).map nfS := by
  induction c with
  | nil => rfl
  | cons x c ih =>
    rw [List.map_cons, lookS_cons, lookS_cons, ih]
    show (if x.t = t then _ else _) = _
    split <;> rfl
theorem nf_good {c : List SV} (h : GoodSl c) : GoodSl (c.map nfS) := by
  refine ⟨fun y hy => ?_, ?_⟩
  · obtain ⟨x, hx, rfl⟩ := List.mem_map.1 hy
    exact h.1 x hx
  · rw [List.pairwise_map]
    exact h.2
def LowS (c : List SV) : Prop := ∀ x ∈ c, (∀ i ∈ x.a, -1073741824 ≤ i.n ∧ i.n ≤ 1073741824) ∧ (∀ i ∈ x.b, -1073741824 ≤ i.n ∧ i.n ≤ 1073741824)
def xS (c : List SV) (t : TV) : SV := (lookS c t).getD (freshS t)
theorem xS_t (c : List SV) (t : TV) : (xS c t).t = t := by
  unfold xS
  cases h : lookS c t with
  | none => rfl
  | some x => exact (lookS_mem h).2
def slotF (t : TV) (a b s : List IV) : Option SV := if (a.isEmpty && (b.isEmpty && s.isEmpty)) = true then none else some ⟨t, a, b, s, true, false⟩
theorem own_nf (c : List SV) (t : TV) (r : RV) (n : Int) : (if (ownS c 0 t r n).empty = true then none else some (ownS c 0 t r n)).map nfS = slotF t (addI (xS c t).a r n) (xS c t).b (xS c t).s := by
  have e : ownS c 0 t r n = ⟨t, addI (xS c t).a r n, (xS c t).b, (xS c t).s, true, (xS c t).fired⟩ := by
    show putS (xS c t) 0 r n = _
    unfold putS
    rw [if_pos rfl, xS_t]
  rw [e]
  unfold slotF SV.empty
  simp only
  split <;> rfl
theorem own_mark (c : List SV) (kind : Int) (v t : TV) (r : RV) (n : Int) : ((if (ownS c 0 t r n).empty = true then none else some (ownS c 0 t r n)).map (markS kind v)).map nfS = slotF t (addI (xS c t).a r n) (xS c t).b (xS c t).s := by
  rw [← own_nf]
  split
  · rfl
  · show some (nfS (markS kind v (ownS c 0 t r n))) = some (nfS (ownS c 0 t r n))
    have : (ownS c 0 t r n).dirty = true := by unfold ownS putS; rw [if_pos rfl]
    simp [markS, nfS, this]
theorem xS_same (c : List SV) (kind : Int) (t : TV) (r : RV) (n : Int) : (xS (comeS c kind 0 t r n) t).a = addI (xS c t).a r n ∧ (xS (comeS c kind 0 t r n) t).b = (xS c t).b ∧ (xS (comeS c kind 0 t r n) t).s = (xS c t).s := by
  have e : ownS c 0 t r n = ⟨t, addI (xS c t).a r n, (xS c t).b, (xS c t).s, true, (xS c t).fired⟩ := by
    show putS (xS c t) 0 r n = _
    unfold putS
    rw [if_pos rfl, xS_t]
  have h := comeS_look c kind 0 t r n t
  rw [if_pos rfl] at h
  generalize hc2 : comeS c kind 0 t r n = c2 at h
  unfold xS
  rw [h, e]
  split
  · rename_i q
    simp only [SV.empty, Bool.and_eq_true, List.isEmpty_iff] at q
    exact ⟨q.1.symm, q.2.1.symm, q.2.2.symm⟩
  · exact ⟨rfl, rfl, rfl⟩
theorem xS_other (c : List SV) (kind : Int) {t u : TV} (hne : u ≠ t) (r : RV) (n : Int) : (xS (comeS c kind 0 t r n) u).a = (xS c u).a ∧ (xS (comeS c kind 0 t r n) u).b = (xS c u).b ∧ (xS (comeS c kind 0 t r n) u).s = (xS c u).s := by
  have h := comeS_look c kind 0 t r n u
  rw [if_neg hne] at h
  unfold xS
  rw [h]
  cases lookS c u with
  | none => exact ⟨rfl, rfl, rfl⟩
  | some x =>
    show (markS kind t x).a = x.a ∧ (markS kind t x).b = x.b ∧ (markS kind t x).s = x.s
    exact ⟨rfl, rfl, rfl⟩
theorem mark_comm (kind : Int) (t u : TV) (x : SV) : nfS (markS kind u (markS kind t x)) = nfS (markS kind t (markS kind u x)) := by
  simp only [markS, nfS, SV.mk.injEq, true_and, and_true]
  rw [Bool.or_assoc, Bool.or_assoc, Bool.or_comm (decide (kind = 14) && t.le x.t)]
theorem xS_right {c : List SV} (hc : GoodSl c) (t : TV) : goodI (xS c t).a := by
  unfold xS
  cases h : lookS c t with
  | none => exact goodI_nil
  | some x => exact (rightI_iff _).1 ((okS_iff x).1 (hc.1 x (lookS_mem h).1)).2.2.1
theorem come_comm {c : List SV} (hc : GoodSl c) (hl : LowS c) {t u : TV} (ht : t.ok = true) (hu : u.ok = true) (kind : Int) {r s : RV} {n m : Int} (hn : n ≠ 0) (hm : m ≠ 0) (h1 : -128 ≤ n ∧ n ≤ 128) (h2 : -128 ≤ m ∧ m ≤ 128) :
    (comeS (comeS c kind 0 t r n) kind 0 u s m).map nfS = (comeS (comeS c kind 0 u s m) kind 0 t r n).map nfS := by
  refine look_ext (nf_good (comeS_good (comeS_good hc ht _ _ _ _) hu _ _ _ _)) (nf_good (comeS_good (comeS_good hc hu _ _ _ _) ht _ _ _ _)) fun v => ?_
  rw [nf_look, nf_look, comeS_look (comeS c kind 0 t r n), comeS_look (comeS c kind 0 u s m)]
  by_cases e : t = u
  · subst e
    by_cases q : v = t
    · rw [if_pos q, if_pos q, own_nf, own_nf]
      obtain ⟨a1, b1, s1⟩ := xS_same c kind t r n
      obtain ⟨a2, b2, s2⟩ := xS_same c kind t s m
      rw [a1, b1, s1, a2, b2, s2]
      congr 1
      refine addI_comm (xS_right hc t) (fun i hi => ?_) hn hm h1 h2
      unfold xS at hi
      cases h : lookS c t with
      | none => rw [h] at hi; cases hi
      | some x => rw [h] at hi; exact (hl x (lookS_mem h).1).1 i hi
    · rw [if_neg q, if_neg q, comeS_look, comeS_look, if_neg q, if_neg q]
  · by_cases q : v = u
    · subst q
      rw [if_pos (rfl : v = v), if_neg (show ¬ v = t from fun x => e x.symm), own_nf, comeS_look c kind 0 v s m v, if_pos (rfl : v = v), own_mark]
      obtain ⟨a1, b1, s1⟩ := xS_other c kind (t := t) (u := v) (fun x => e x.symm) r n
      rw [a1, b1, s1]
    · by_cases q2 : v = t
      · subst q2
        rw [if_neg q, if_pos (rfl : v = v), own_nf, comeS_look c kind 0 v r n v, if_pos (rfl : v = v), own_mark]
        obtain ⟨a1, b1, s1⟩ := xS_other c kind (t := u) (u := v) q s m
        rw [a1, b1, s1]
      · rw [if_neg q, if_neg q2, comeS_look, comeS_look, if_neg q2, if_neg q]
        cases lookS c v with
        | none => rfl
        | some x =>
          show some (nfS (markS kind u (markS kind t x))) = some (nfS (markS kind t (markS kind u x)))
          rw [mark_comm]
end Go.Proofs.YthhceggcdaljdaaGreat
/- append to a row of the call's own leaves a box of another type as it was, even one that is younger than the row -/
namespace Go.Proofs.YthhceggcdaljdaaGreat
open Go.RowKit
set_option linter.unusedVariables false
set_option linter.unusedSimpArgs false

/-- block k holds just these cells, none of them frozen, and is of type t -/
def Boxed (w : World) (k : Nat) (c : Array Value) (t : TypeId) : Prop := w.heap[k]? = some (.cells c t (0, 0))
theorem Boxed.lt {w : World} {k : Nat} {c : Array Value} {t : TypeId} (h : Boxed w k c t) : k < w.heap.size := (Array.getElem?_eq_some_iff.1 h).1
theorem Boxed.new (w : World) (c : Array Value) (t : TypeId) : Boxed (w.alloc (.cells c t)) w.heap.size c t := heap_alloc_new w _
theorem Boxed.alloc {w : World} {k : Nat} {c : Array Value} {t : TypeId} (h : Boxed w k c t) (o : Obj) : Boxed (w.alloc o) k c t := (Below.heap_alloc w o k h.lt).trans h
theorem Boxed.below {w w' : World} {B k : Nat} {c : Array Value} {t : TypeId} (h : Boxed w k c t) (hb : Below B w w') (hk : k < B) : Boxed w' k c t := (hb.block k hk).trans h
theorem Boxed.cell {w : World} {k : Nat} {c : Array Value} {t : TypeId} (h : Boxed w k c t) (i : Nat) : w.cell? ⟨k, i, none⟩ = c[i]? := by
  unfold Boxed at h
  simp [World.cell?, h]
theorem Boxed.frozen {w : World} {k : Nat} {c : Array Value} {t : TypeId} (h : Boxed w k c t) (i : Nat) : w.frozen? ⟨k, i, none⟩ = false := by
  unfold Boxed at h
  simp [World.frozen?, h]
theorem Boxed.three {w : World} {k : Nat} {a b c : Value} {t : TypeId} (h : Boxed w k #[a, b, c] t) : w.cell? ⟨k, 0, none⟩ = some a ∧ w.cell? ⟨k, 1, none⟩ = some b ∧ w.cell? ⟨k, 2, none⟩ = some c := ⟨h.cell 0, h.cell 1, h.cell 2⟩
theorem Boxed.two {w : World} {k : Nat} {a b : Value} {t : TypeId} (h : Boxed w k #[a, b] t) : w.cell? ⟨k, 0, none⟩ = some a ∧ w.cell? ⟨k, 1, none⟩ = some b := ⟨h.cell 0, h.cell 1⟩
namespace RowKind
variable {α : Type} {R : RowKind α}
theorem Own.ne_boxed {B : Nat} {w : World} {v : Value} {xs : List α} (h : R.Own B w v xs) {k : Nat} {c : Array Value} {t : TypeId} (hb : Boxed w k c t) (ht : t ≠ R.tE) : some k ≠ v.ownBlock := by
  intro e
  obtain ⟨_, ⟨rfl, _⟩ | ⟨g, cap, cur, rfl, _, hg, _⟩⟩ := h
  · cases e
  · have e2 : k = g := Option.some.inj e
    subst e2
    unfold Boxed at hb
    rw [hb] at hg
    simp only [Option.some.injEq, Obj.cells.injEq] at hg
    exact ht hg.2.1
theorem Own.ne_late {B : Nat} {w : World} {v : Value} {xs : List α} (h : R.Own B w v xs) {k : Nat} (hk : w.heap.size ≤ k) : some k ≠ v.ownBlock := fun e => by
  have := (h.lt k e.symm).2
  omega
variable [Inhabited α]
theorem Own.pushK {ops : Array Oper} {rest : List Oper} {o : Oper} {a : Act} {Q : Exit → Act → World → Prop} {w0 w : World} {B : Nat} {v : Value} {xs : List α} {y : α} (hown : R.Own B w v xs) (hb : Below B w0 w) (hB : B ≤ w.heap.size)
    {k : Nat} {c : Array Value} {tb : TypeId} (hbx : Boxed w k c tb) (htb : tb ≠ R.tE)
    (hgd : o.guard = none) (s x : Operand) (ho : o.op = .call { callee := .builtin .append, args := #[s, x], argTypes := #[R.tS, R.tS] }) (hs : a.eval s = v) (t : TypeId)
    (hx : a.eval x = .slice (some ⟨w.heap.size, 0, none⟩) 1 1) (hlen : xs.length ≤ 900000)
    (h : ∀ v' w', R.Own B w' v' (xs ++ [y]) → Below B w0 w' → w.heap.size ≤ w'.heap.size → Boxed w' k c tb → wpList Tryz.prog ops Q rest (a.put o.dst v') w') :
    wpList Tryz.prog ops Q (o :: rest) a (w.alloc (.cells (R.enc y).toArray t)) := by
  have hown' : R.Own B (w.alloc (.cells (R.enc y).toArray t)) v xs := hown.alloc _
  have hbx' := hbx.alloc (.cells (R.enc y).toArray t)
  have hne := hown'.ne_boxed hbx' htb
  refine Own.append (R := R) hgd s x ho hown' hs [y] hx (Row.app (ys := [y]) (Row.new w y t)) (by simp; omega) (by simp; omega) ?_
  intro v' w' h1 h2
  have hlt := hown'.lt
  have hsz := h2.size
  refine h v' w' h1 ?_ (by simp at hsz; omega) ((h2.block k hbx'.lt hne).trans hbx')
  exact (hb.alloc hB _).grown h2 (by simp; omega) (fun k hk => (hlt k hk).1)
/-- the same, where the box is told to be another block -/
theorem Own.pushN {ops : Array Oper} {rest : List Oper} {o : Oper} {a : Act} {Q : Exit → Act → World → Prop} {w0 w : World} {B : Nat} {v : Value} {xs : List α} {y : α} (hown : R.Own B w v xs) (hb : Below B w0 w) (hB : B ≤ w.heap.size)
    {k : Nat} {c : Array Value} {tb : TypeId} (hbx : Boxed w k c tb) (hne : some k ≠ v.ownBlock)
    (hgd : o.guard = none) (s x : Operand) (ho : o.op = .call { callee := .builtin .append, args := #[s, x], argTypes := #[R.tS, R.tS] }) (hs : a.eval s = v) (t : TypeId)
    (hx : a.eval x = .slice (some ⟨w.heap.size, 0, none⟩) 1 1) (hlen : xs.length ≤ 900000)
    (h : ∀ v' w', R.Own B w' v' (xs ++ [y]) → Below B w0 w' → w.heap.size ≤ w'.heap.size → Boxed w' k c tb → wpList Tryz.prog ops Q rest (a.put o.dst v') w') :
    wpList Tryz.prog ops Q (o :: rest) a (w.alloc (.cells (R.enc y).toArray t)) := by
  have hown' : R.Own B (w.alloc (.cells (R.enc y).toArray t)) v xs := hown.alloc _
  have hbx' := hbx.alloc (.cells (R.enc y).toArray t)
  refine Own.append (R := R) hgd s x ho hown' hs [y] hx (Row.app (ys := [y]) (Row.new w y t)) (by simp; omega) (by simp; omega) ?_
  intro v' w' h1 h2
  have hlt := hown'.lt
  have hsz := h2.size
  refine h v' w' h1 ?_ (by simp at hsz; omega) ((h2.block k hbx'.lt hne).trans hbx')
  exact (hb.alloc hB _).grown h2 (by simp; omega) (fun k hk => (hlt k hk).1)
end RowKind
end Go.Proofs.YthhceggcdaljdaaGreat
/- slots as they lie in a row; a row of slots that is read -/
namespace Go.Proofs.YthhceggcdaljdaaGreat
open Go.RowKit
set_option linter.unusedVariables false
set_option linter.unusedSimpArgs false

/-- a slot as it lies in its row -/
structure SW where
  t : TV
  p0 : Option Addr
  n0 : Nat
  c0 : Nat
  p1 : Option Addr
  n1 : Nat
  c1 : Nat
  p2 : Option Addr
  n2 : Nat
  c2 : Nat
  d : Bool
  f : Bool
instance : Inhabited SW := ⟨⟨TV.zero, none, 0, 0, none, 0, 0, none, 0, 0, false, false⟩⟩
def SW.enc (x : SW) : List Value := [.int .i64 x.t.d, .int .i64 x.t.c0, .int .i64 x.t.c1, .int .i64 x.t.c2, .int .i64 x.t.c3, .slice x.p0 x.n0 x.c0, .slice x.p1 x.n1 x.c1, .slice x.p2 x.n2 x.c2, .bool x.d, .bool x.f]
abbrev SW.val (x : SW) : Value := .agg #[.int .i64 x.t.d, .int .i64 x.t.c0, .int .i64 x.t.c1, .int .i64 x.t.c2, .int .i64 x.t.c3, .slice x.p0 x.n0 x.c0, .slice x.p1 x.n1 x.c1, .slice x.p2 x.n2 x.c2, .bool x.d, .bool x.f]
abbrev swRow (x : SW) : Array Value := #[.int .i64 x.t.d, .int .i64 x.t.c0, .int .i64 x.t.c1, .int .i64 x.t.c2, .int .i64 x.t.c3, .slice x.p0 x.n0 x.c0, .slice x.p1 x.n1 x.c1, .slice x.p2 x.n2 x.c2, .bool x.d, .bool x.f]
def RSl : RowKind SW where
  enc := SW.enc
  k := 10
  k0 := by decide
  len := fun _ => rfl
  one := by
    intro c u hu
    simp [SW.enc] at hu
    rcases hu with rfl | rfl | rfl | rfl | rfl | rfl | rfl | rfl | rfl | rfl <;> rfl
  tE := 40
  tS := 22
  zero := .agg #[.int .i64 0, .int .i64 0, .int .i64 0, .int .i64 0, .int .i64 0, .slice none 0 0, .slice none 0 0, .slice none 0 0, .bool false, .bool false]
  bytes := 120
  info := by kernel_rfl
  under := Tryz.underlying22
  zlen := rfl
  byt := by decide
theorem atSl {w : World} {b off : Nat} {xs : List SW} (h : RSl.Row w b off xs) (j : Nat) (hj : j < xs.length) :
    w.cell? ⟨b, off + j * 10, none⟩ = some (.int .i64 xs[j]!.t.d) ∧ w.cell? ⟨b, off + j * 10 + 1, none⟩ = some (.int .i64 xs[j]!.t.c0) ∧ w.cell? ⟨b, off + j * 10 + 2, none⟩ = some (.int .i64 xs[j]!.t.c1) ∧ w.cell? ⟨b, off + j * 10 + 3, none⟩ = some (.int .i64 xs[j]!.t.c2) ∧ w.cell? ⟨b, off + j * 10 + 4, none⟩ = some (.int .i64 xs[j]!.t.c3) ∧ w.cell? ⟨b, off + j * 10 + 5, none⟩ = some (.slice xs[j]!.p0 xs[j]!.n0 xs[j]!.c0) ∧ w.cell? ⟨b, off + j * 10 + 6, none⟩ = some (.slice xs[j]!.p1 xs[j]!.n1 xs[j]!.c1) ∧ w.cell? ⟨b, off + j * 10 + 7, none⟩ = some (.slice xs[j]!.p2 xs[j]!.n2 xs[j]!.c2) ∧ w.cell? ⟨b, off + j * 10 + 8, none⟩ = some (.bool xs[j]!.d) ∧ w.cell? ⟨b, off + j * 10 + 9, none⟩ = some (.bool xs[j]!.f) :=
  ⟨h j hj 0 _ rfl, h j hj 1 _ rfl, h j hj 2 _ rfl, h j hj 3 _ rfl, h j hj 4 _ rfl, h j hj 5 _ rfl, h j hj 6 _ rfl, h j hj 7 _ rfl, h j hj 8 _ rfl, h j hj 9 _ rfl⟩
/-- this raw slot is that slot -/
structure isSl (w : World) (x : SW) (b : SV) : Prop where
  t : x.t = b.t
  d : x.d = b.dirty
  f : x.f = b.fired
  n0 : x.n0 = b.a.length
  k0 : x.n0 ≤ x.c0
  l0 : RI.Is w (.slice x.p0 x.n0 x.c0) b.a
  n1 : x.n1 = b.b.length
  k1 : x.n1 ≤ x.c1
  l1 : RI.Is w (.slice x.p1 x.n1 x.c1) b.b
  n2 : x.n2 = b.s.length
  k2 : x.n2 ≤ x.c2
  l2 : RI.Is w (.slice x.p2 x.n2 x.c2) b.s
theorem isSl.below {w w' : World} {x : SW} {b : SV} (h : isSl w x b) (hb : Below w.heap.size w w') : isSl w' x b := ⟨h.t, h.d, h.f, h.n0, h.k0, h.l0.below hb, h.n1, h.k1, h.l1.below hb, h.n2, h.k2, h.l2.below hb⟩
def areSl (w : World) (xs : List SW) (c : List SV) : Prop := xs.length = c.length ∧ ∀ i, i < c.length → isSl w xs[i]! c[i]!
theorem areSl.below {w w' : World} {xs : List SW} {c : List SV} (h : areSl w xs c) (hb : Below w.heap.size w w') : areSl w' xs c := ⟨h.1, fun i hi => (h.2 i hi).below hb⟩
/-- v is a row of these slots -/
def IsCl (w : World) (v : Value) (c : List SV) : Prop := ∃ xs : List SW, RSl.Is w v xs ∧ areSl w xs c
theorem IsCl.below {w w' : World} {v : Value} {c : List SV} (h : IsCl w v c) (hb : Below w.heap.size w w') : IsCl w' v c := by
  obtain ⟨xs, h1, h2⟩ := h
  exact ⟨xs, h1.below hb, h2.below hb⟩
theorem IsCl.nil (w : World) : IsCl w (.slice none 0 0) [] := ⟨[], RowKind.Is.nil _, rfl, fun i hi => absurd hi (Nat.not_lt_zero i)⟩
theorem isOpenedD {α : Type} [Inhabited α] {R : RowKind α} {w : World} {v : Value} {xs : List α} (h : R.Is w v xs) : ∃ p c, v = .slice p xs.length c ∧ ∀ j, j < xs.length → ∃ b off, p = some ⟨b, off, none⟩ ∧ b < w.heap.size ∧ R.Row w b off xs := by
  rcases h with ⟨rfl, p, cap, rfl, _⟩ | ⟨h0, b, off, cap, rfl, hb, hr⟩
  · exact ⟨p, cap, rfl, fun j hj => absurd hj (by simp)⟩
  · exact ⟨_, cap, rfl, fun j _ => ⟨b, off, rfl, hb, hr⟩⟩
theorem IsCl.slice {w : World} {v : Value} {c : List SV} (h : IsCl w v c) : ∃ p k, v = .slice p c.length k := by
  obtain ⟨xs, h1, h2, _⟩ := h
  obtain ⟨p, k, e⟩ := h1.slice
  exact ⟨p, k, by rw [e, h2]⟩
end Go.Proofs.YthhceggcdaljdaaGreat
