/- plain: ways gone along one after the other, as the program goes: what it keeps are the lowest steps of all ways, and it ends -/
import Derived.Test.YtjaahmgokiobjaaGreatG27
import Derived.Test.YtjaahmgokiobjaaGreatG12
namespace Go.Proofs.YtjaahmgokiobjaaGreat
open Go.RowKit
set_option linter.unusedVariables false
set_option linter.unusedSimpArgs false
set_option linter.unusedSectionVars false

theorem get_left {α : Type} [Inhabited α] (l m : List α) {j : Nat} (h : j < l.length) : (l ++ m)[j]! = l[j]! := by
  rw [getElem!_pos (l ++ m) j (by rw [List.length_append]; omega), getElem!_pos l j h, List.getElem_append_left]
theorem get_right {α : Type} [Inhabited α] (l m : List α) {j : Nat} (h : l.length ≤ j) (h2 : j < l.length + m.length) : (l ++ m)[j]! = m[j - l.length]! := by
  rw [getElem!_pos (l ++ m) j (by rw [List.length_append]; omega), getElem!_pos m (j - l.length) (by omega), List.getElem_append_right h]
/-- the ways that go along one edge more -/
def longerW (E : List NE) (m : Nat) (x : HV) : List (Nat × HV) := E.filterMap fun e => if e.src = m ∧ thenOk x e.s = true then some (e.dst, thenV x e.s) else none
theorem mem_longer {E : List NE} {m : Nat} {x : HV} {p : Nat × HV} : p ∈ longerW E m x ↔ ∃ e ∈ E, e.src = m ∧ thenOk x e.s = true ∧ p = (e.dst, thenV x e.s) := by
  unfold longerW
  rw [List.mem_filterMap]
  constructor
  · rintro ⟨e, he, q⟩
    split at q
    · rename_i h
      exact ⟨e, he, h.1, h.2, (Option.some.inj q).symm⟩
    · cases q
  · rintro ⟨e, he, h1, h2, rfl⟩
    exact ⟨e, he, by rw [if_pos ⟨h1, h2⟩]⟩
/-- the ways that are known, and the lowest steps to each -/
structure BS where
  ws : List (Nat × HV)
  low : List (List HV)
def bstepW (E : List NE) (i : Nat) (s : BS) : BS :=
  ⟨if putNo s.low[(s.ws[i]!).1]! (s.ws[i]!).2 = true then s.ws else s.ws ++ longerW E (s.ws[i]!).1 (s.ws[i]!).2, s.low.set (s.ws[i]!).1 (putL s.low[(s.ws[i]!).1]! (s.ws[i]!).2)⟩
def biter (E : List NE) (s : BS) : Nat → BS
  | 0 => s
  | k + 1 => bstepW E k (biter E s k)
def bstart (n N : Nat) (h0 : HV) : BS := ⟨[(n, h0)], List.replicate N []⟩
theorem bstep_len (E : List NE) (i : Nat) (s : BS) : s.ws.length ≤ (bstepW E i s).ws.length := by
  unfold bstepW
  show s.ws.length ≤ List.length (if _ then _ else _)
  split
  · exact Nat.le_refl _
  · rw [List.length_append]; omega
theorem biter_mono (E : List NE) (s : BS) (k : Nat) : ∀ d, (biter E s k).ws.length ≤ (biter E s (k + d)).ws.length
  | 0 => Nat.le_refl _
  | d + 1 => Nat.le_trans (biter_mono E s k d) (bstep_len E _ _)
theorem bstep_low (E : List NE) (i : Nat) (s : BS) : (bstepW E i s).low.length = s.low.length := by
  unfold bstepW
  show List.length (s.low.set _ _) = _
  rw [List.length_set]
theorem biter_low (E : List NE) (s : BS) : ∀ k, (biter E s k).low.length = s.low.length
  | 0 => rfl
  | k + 1 => (bstep_low E k _).trans (biter_low E s k)
theorem biter_few (E : List NE) (n N : Nat) (h0 : HV) : ∀ k m : Nat, List.length ((biter E (bstart n N h0) k).low)[m]! ≤ k
  | 0, m => by
    show List.length (List.replicate N ([] : List HV))[m]! ≤ 0
    by_cases h : m < N
    · rw [getElem!_pos _ m (by rw [List.length_replicate]; exact h), List.getElem_replicate]; exact Nat.le_refl _
    · rw [getElem!_neg _ m (by rw [List.length_replicate]; exact h)]; exact Nat.le_refl _
  | k + 1, m => by
    have ih := biter_few E n N h0 k
    show List.length ((biter E (bstart n N h0) k).low.set _ (putL _ _))[m]! ≤ k + 1
    generalize biter E (bstart n N h0) k = s at ih ⊢
    by_cases hp : (s.ws[k]!).1 < s.low.length
    · rw [set_get _ _ _ _ hp]
      split
      · have := putL_len s.low[(s.ws[k]!).1]! (s.ws[k]!).2
        have := ih (s.ws[k]!).1
        omega
      · have := ih m; omega
    · rw [List.set_eq_of_length_le (by omega)]
      have := ih m; omega
/-- none that is ahead of it leads there at or before it -/
def acc (ws : List (Nat × HV)) (j : Nat) : Prop := ∀ q, q < j → (ws[q]!).1 = (ws[j]!).1 → leH (ws[q]!).2 (ws[j]!).2 = false
theorem acc_left {ws m : List (Nat × HV)} {j : Nat} (h : j < ws.length) (a : acc (ws ++ m) j) : acc ws j := fun q hq e => by
  have := a q hq
  rw [get_left _ _ h, get_left _ _ (by omega)] at this
  exact this e
theorem sum_set {E : List NE} {ac : List (List HV)} {m : Nat} (hm : m < ac.length) (x : HV) : (E.map fun e => List.length (ac.set m (ac[m]! ++ [x]))[e.src]!).sum = (E.map fun e => List.length ac[e.src]!).sum + E.countP fun e => decide (e.src = m) := by
  induction E with
  | nil => rfl
  | cons e E ih =>
    simp only [List.map_cons, List.sum_cons, List.countP_cons]
    rw [ih, set_get _ _ _ _ hm]
    by_cases q : m = e.src
    · subst q
      simp
      omega
    · rw [if_neg q, if_neg (by simp; omega)]
      omega
theorem longer_len (E : List NE) (m : Nat) (x : HV) : (longerW E m x).length ≤ E.countP fun e => decide (e.src = m) := by
  unfold longerW
  induction E with
  | nil => exact Nat.le_refl _
  | cons e E ih =>
    rw [List.filterMap_cons, List.countP_cons]
    split
    · omega
    · rename_i b hb
      split at hb
      · rename_i h
        rw [if_pos (by simp; exact h.1), List.length_cons]
        omega
      · cases hb
theorem sum_le {E : List NE} {f : NE → Nat} {M : Nat} (h : ∀ e ∈ E, f e ≤ M) : (E.map f).sum ≤ E.length * M := by
  induction E with
  | nil => simp
  | cons e E ih =>
    rw [List.map_cons, List.sum_cons, List.length_cons, Nat.add_mul]
    have := ih fun a ha => h a (List.mem_cons_of_mem _ ha)
    have := h e List.mem_cons_self
    omega
theorem WayIn.mono {E : List NE} {n : Nat} {h0 : HV} {r r' : Nat} {m : Nat} {h : HV} (w : WayIn E n h0 r m h) (hr : r ≤ r') : WayIn E n h0 r' m h := by
  obtain ⟨es, hE, hl, q⟩ := w
  exact ⟨es, hE, by omega, q⟩
theorem WayIn.way {E : List NE} {n : Nat} {h0 : HV} {r : Nat} {m : Nat} {h : HV} (w : WayIn E n h0 r m h) : Way E n h0 m h := by
  obtain ⟨es, hE, hl, q⟩ := w
  exact ⟨es, hE, q⟩
/-- the state ahead of round i; lv: of how many edges each way is; ac: the steps that were put -/
structure Bf (E : List NE) (N n : Nat) (h0 : HV) (i : Nat) (s : BS) (lv : List Nat) (ac : List (List HV)) : Prop where
  i_le : i ≤ s.ws.length
  pos : 0 < s.ws.length
  first : s.ws[0]! = (n, h0)
  lvl : lv.length = s.ws.length
  lv0 : lv[0]! = 0
  sorted : ∀ a b, a ≤ b → b < s.ws.length → lv[a]! ≤ lv[b]!
  near : i < s.ws.length → ∀ b, b < s.ws.length → lv[b]! ≤ lv[i]! + 1
  place : ∀ j, j < s.ws.length → (s.ws[j]!).1 < N
  way : ∀ j, j < s.ws.length → WayIn E n h0 lv[j]! (s.ws[j]!).1 (s.ws[j]!).2
  lowlen : s.low.length = N
  low : ∀ m, m < N → LeastOf (fun x => ∃ j, j < i ∧ s.ws[j]! = (m, x)) s.low[m]!
  more : ∀ j, j < i → acc s.ws j → ∀ e ∈ E, e.src = (s.ws[j]!).1 → thenOk (s.ws[j]!).2 e.s = true → ∃ q, q < s.ws.length ∧ s.ws[q]! = (e.dst, thenV (s.ws[j]!).2 e.s) ∧ lv[q]! ≤ lv[j]! + 1
  aclen : ac.length = N
  acn : ∀ m, m < N → List.Nodup ac[m]!
  acw : ∀ m, m < N → ∀ x ∈ ac[m]!, WayIn E n h0 (4 * N) m x ∧ ∃ j, j < i ∧ s.ws[j]! = (m, x)
  size : s.ws.length ≤ 1 + (E.map fun e => List.length ac[e.src]!).sum
theorem Bf.start (E : List NE) {N n : Nat} {h0 : HV} (hn : n < N) : Bf E N n h0 0 (bstart n N h0) [0] (List.replicate N []) where
  i_le := Nat.zero_le _
  pos := Nat.zero_lt_one
  first := rfl
  lvl := rfl
  lv0 := rfl
  sorted := fun a b hab hb => by
    have hb : b < 1 := hb
    obtain rfl : b = 0 := by omega
    obtain rfl : a = 0 := by omega
    exact Nat.le_refl _
  near := fun _ b hb => by
    have hb : b < 1 := hb
    obtain rfl : b = 0 := by omega
    omega
  place := fun j hj => by
    have hj : j < 1 := hj
    obtain rfl : j = 0 := by omega
    exact hn
  way := fun j hj => by
    have hj : j < 1 := hj
    obtain rfl : j = 0 := by omega
    exact ⟨[], fun _ h => by simp at h, Nat.zero_le _, rfl⟩
  lowlen := List.length_replicate
  low := fun m hm => by
    show LeastOf _ (List.replicate N ([] : List HV))[m]!
    rw [getElem!_pos _ m (by rw [List.length_replicate]; exact hm), List.getElem_replicate]
    exact LeastOf.none.congr fun x => by simp
  more := fun j hj => by omega
  aclen := List.length_replicate
  acn := fun m hm => by
    rw [getElem!_pos _ m (by rw [List.length_replicate]; exact hm), List.getElem_replicate]
    exact List.nodup_nil
  acw := fun m hm x hx => by
    rw [getElem!_pos _ m (by rw [List.length_replicate]; exact hm), List.getElem_replicate] at hx
    simp at hx
  size := by
    show 1 ≤ 1 + _
    omega
section
variable {E : List NE} {D : Nat → Int} {N : Nat} (F : Fine E D N) {n : Nat} {h0 : HV} (hn : n < N) (h0r : h0.rightB = true) (h0d : h0.k + h0.t = D n)
include F h0r h0d
theorem way_right {m : Nat} {h : HV} (w : Way E n h0 m h) : h.rightB = true := by
  obtain ⟨es, hE, q⟩ := w
  exact (run_ok F hE h0r h0d q).1
theorem Bf.below {i : Nat} {s : BS} {lv : List Nat} {ac : List (List HV)} (B : Bf E N n h0 i s lv ac) : ∀ j, j < s.ws.length → ∃ q, q ≤ j ∧ acc s.ws q ∧ (s.ws[q]!).1 = (s.ws[j]!).1 ∧ leH (s.ws[q]!).2 (s.ws[j]!).2 = true := by
  intro j
  induction j using Nat.strongRecOn with
  | _ j ih =>
    intro hj
    by_cases ha : acc s.ws j
    · exact ⟨j, Nat.le_refl _, ha, rfl, leH_self (way_right F h0r h0d (B.way j hj).way)⟩
    · unfold acc at ha
      obtain ⟨q, hq⟩ := Classical.not_forall.1 ha
      obtain ⟨hq, hr⟩ := Classical.not_imp.1 hq
      obtain ⟨he, hl⟩ := Classical.not_imp.1 hr
      have hl : leH (s.ws[q]!).2 (s.ws[j]!).2 = true := by cases c : leH (s.ws[q]!).2 (s.ws[j]!).2 <;> simp_all
      obtain ⟨p, hp, hpa, hpe, hpl⟩ := ih q hq (by omega)
      exact ⟨p, by omega, hpa, hpe.trans he, leH_trans hpl hl⟩
theorem Bf.reach {i : Nat} {s : BS} {lv : List Nat} {ac : List (List HV)} (B : Bf E N n h0 i s lv ac) {c : Nat} (hc : ∀ q, q < s.ws.length → lv[q]! ≤ c → q < i) : ∀ (k : Nat), k ≤ c → ∀ {es : List NE} {m : Nat} {h : HV}, es.length ≤ k → (∀ e ∈ es, e ∈ E) → run n h0 es = some (m, h) →
    ∃ q, q < i ∧ acc s.ws q ∧ (s.ws[q]!).1 = m ∧ leH (s.ws[q]!).2 h = true ∧ lv[q]! ≤ es.length := by
  intro k
  induction k with
  | zero =>
    intro hk es m h hl hE q
    obtain rfl : es = [] := List.length_eq_zero_iff.1 (by omega)
    simp only [run, Option.some.injEq, Prod.mk.injEq] at q
    obtain ⟨rfl, rfl⟩ := q
    refine ⟨0, hc 0 B.pos (by rw [B.lv0]; omega), fun q hq => by omega, by rw [B.first], by rw [B.first]; exact leH_self h0r, by rw [B.lv0]; omega⟩
  | succ k ih =>
    intro hk es m h hl hE q
    rcases way_last hE q with ⟨rfl, rfl, rfl⟩ | ⟨P, e, y, rfl, hP, he, hp, ho, rfl, rfl⟩
    · exact ⟨0, hc 0 B.pos (by rw [B.lv0]; omega), fun q hq => by omega, by rw [B.first], by rw [B.first]; exact leH_self h0r, by rw [B.lv0]; omega⟩
    · simp only [List.length_append, List.length_singleton] at hl
      obtain ⟨q1, h1, ha1, hm1, hl1, hv1⟩ := ih (by omega) (by omega) hP hp
      obtain ⟨o1, hle⟩ := then_lower hl1 ho
      obtain ⟨q2, h2, he2, hv2⟩ := B.more q1 h1 ha1 e he hm1.symm o1
      obtain ⟨q3, h3, ha3, hm3, hl3⟩ := B.below F h0r h0d q2 h2
      have hs := B.sorted q3 q2 h3 h2
      have hq2 : q2 < i := hc q2 h2 (by omega)
      rw [he2] at hm3 hl3
      exact ⟨q3, by omega, ha3, hm3, leH_trans hl3 hle, by simp only [List.length_append, List.length_singleton]; omega⟩
include hn
theorem Bf.put_no {i : Nat} {s : BS} {lv : List Nat} {ac : List (List HV)} (B : Bf E N n h0 i s lv ac) (hi : i < s.ws.length) : putNo s.low[(s.ws[i]!).1]! (s.ws[i]!).2 = true ↔ ¬ acc s.ws i := by
  have hm := B.place i hi
  have L := B.low _ hm
  have hr := way_right F h0r h0d (B.way i hi).way
  unfold putNo
  rw [hr]
  simp only [Bool.not_true, Bool.false_or]
  constructor
  · intro h a
    obtain ⟨y, hy, hl⟩ := List.any_eq_true.1 h
    obtain ⟨j, hj, he⟩ := L.mem y hy
    have := a j hj (by rw [he])
    rw [he] at this
    rw [this] at hl
    cases hl
  · intro ha
    unfold acc at ha
    obtain ⟨q, hq⟩ := Classical.not_forall.1 ha
    obtain ⟨hq, hr⟩ := Classical.not_imp.1 hq
    obtain ⟨he, hl⟩ := Classical.not_imp.1 hr
    have hl : leH (s.ws[q]!).2 (s.ws[i]!).2 = true := by cases c : leH (s.ws[q]!).2 (s.ws[i]!).2 <;> simp_all
    obtain ⟨y, hy, hyl⟩ := L.cover (s.ws[q]!).2 ⟨q, hq, by rw [← he]⟩
    exact List.any_eq_true.2 ⟨y, hy, leH_trans hyl hl⟩
theorem Bf.short (hN : N ≤ 10000) (h0z : ∀ j : Nat, (j : Int) < h0.k + h0.t → h0.at j ≤ 0) {i : Nat} {s : BS} {lv : List Nat} {ac : List (List HV)} (B : Bf E N n h0 i s lv ac) (hi : i < s.ws.length) (ha : acc s.ws i) : lv[i]! < 4 * N := by
  by_cases hlt : lv[i]! < 4 * N
  · exact hlt
  · exfalso
    obtain ⟨es, hE, hl, q⟩ := B.way i hi
    obtain ⟨es', h', hE', hl', q', hle⟩ := short_way F hn h0r h0d h0z hN (Nat.le_refl _) hE q
    obtain ⟨p, hp, _, hpm, hpl, _⟩ := B.reach F h0r h0d (c := es'.length) (fun q hq hv => by
      by_cases hqi : q < i
      · exact hqi
      · have := B.sorted i q (by omega) hq
        omega) es'.length (Nat.le_refl _) (Nat.le_refl _) hE' q'
    have := ha p hp hpm
    rw [leH_trans hpl hle] at this
    cases this
theorem Bf.next (hN : N ≤ 10000) (h0z : ∀ j : Nat, (j : Int) < h0.k + h0.t → h0.at j ≤ 0) {i : Nat} {s : BS} {lv : List Nat} {ac : List (List HV)} (B : Bf E N n h0 i s lv ac) (hi : i < s.ws.length) : ∃ lv' ac', Bf E N n h0 (i + 1) (bstepW E i s) lv' ac' := by
  have hm := B.place i hi
  have hml : (s.ws[i]!).1 < s.low.length := by rw [B.lowlen]; exact hm
  have hr := way_right F h0r h0d (B.way i hi).way
  have hpn := B.put_no F hn h0r h0d hi
  have hlow : ∀ m, m < N → LeastOf (fun x => ∃ j, j < i + 1 ∧ s.ws[j]! = (m, x)) (s.low.set (s.ws[i]!).1 (putL s.low[(s.ws[i]!).1]! (s.ws[i]!).2))[m]! := fun m hmN => by
    rw [set_get _ _ _ _ hml]
    split
    · rename_i e
      subst e
      refine (put_least (B.low _ hm) (s.ws[i]!).2).congr fun x => ?_
      constructor
      · rintro (⟨j, hj, e⟩ | ⟨rfl, _⟩)
        · exact ⟨j, by omega, e⟩
        · exact ⟨i, by omega, rfl⟩
      · rintro ⟨j, hj, e⟩
        by_cases hji : j < i
        · exact .inl ⟨j, hji, e⟩
        · obtain rfl : j = i := by omega
          exact .inr ⟨by rw [e], hr⟩
    · rename_i hne
      refine (B.low m hmN).congr fun x => ?_
      constructor
      · rintro ⟨j, hj, e⟩
        exact ⟨j, by omega, e⟩
      · rintro ⟨j, hj, e⟩
        by_cases hji : j < i
        · exact ⟨j, hji, e⟩
        · obtain rfl : j = i := by omega
          exact absurd (by rw [e]) hne
  by_cases hp : putNo s.low[(s.ws[i]!).1]! (s.ws[i]!).2 = true
  · have hs : bstepW E i s = ⟨s.ws, s.low.set (s.ws[i]!).1 (putL s.low[(s.ws[i]!).1]! (s.ws[i]!).2)⟩ := by
      unfold bstepW
      rw [if_pos hp]
    rw [hs]
    refine ⟨lv, ac, ⟨by show i + 1 ≤ s.ws.length; omega, B.pos, B.first, B.lvl, B.lv0, B.sorted, fun hi2 b hb => ?_, B.place, B.way, by rw [List.length_set]; exact B.lowlen, hlow, fun j hj a => ?_, B.aclen, B.acn, fun m hmN x hx => ?_, B.size⟩⟩
    · have := B.near hi b hb
      have := B.sorted i (i + 1) (by omega) hi2
      omega
    · by_cases hji : j < i
      · exact B.more j hji a
      · obtain rfl : j = i := by omega
        exact absurd a (hpn.1 hp)
    · obtain ⟨h1, j, hj, e⟩ := B.acw m hmN x hx
      exact ⟨h1, j, by omega, e⟩
  · have ha : acc s.ws i := Classical.byContradiction fun h => hp (hpn.2 h)
    have hs : bstepW E i s = ⟨s.ws ++ longerW E (s.ws[i]!).1 (s.ws[i]!).2, s.low.set (s.ws[i]!).1 (putL s.low[(s.ws[i]!).1]! (s.ws[i]!).2)⟩ := by
      unfold bstepW
      rw [if_neg hp]
    rw [hs]
    have hshort := B.short F hn h0r h0d hN h0z hi ha
    have hnear := B.near hi
    generalize hL : longerW E (s.ws[i]!).1 (s.ws[i]!).2 = L
    have hLl : L.length ≤ E.countP fun e => decide (e.src = (s.ws[i]!).1) := by rw [← hL]; exact longer_len E _ _
    have hlv : ∀ b, b < s.ws.length + L.length → (lv ++ List.replicate L.length (lv[i]! + 1))[b]! = if b < s.ws.length then lv[b]! else lv[i]! + 1 := fun b hb => by
      split
      · rename_i h
        exact get_left _ _ (by rw [B.lvl]; exact h)
      · rename_i h
        rw [get_right _ _ (by rw [B.lvl]; omega) (by rw [B.lvl, List.length_replicate]; exact hb), getElem!_pos _ _ (by rw [List.length_replicate, B.lvl]; omega), List.getElem_replicate]
    have hsort : ∀ a b, a ≤ b → b < s.ws.length + L.length → (lv ++ List.replicate L.length (lv[i]! + 1))[a]! ≤ (lv ++ List.replicate L.length (lv[i]! + 1))[b]! := fun a b hab hb => by
      rw [hlv a (by omega), hlv b hb]
      by_cases h1 : b < s.ws.length
      · rw [if_pos h1, if_pos (by omega)]
        exact B.sorted a b hab h1
      · rw [if_neg h1]
        split
        · rename_i h2
          exact hnear a h2
        · exact Nat.le_refl _
    refine ⟨lv ++ List.replicate L.length (lv[i]! + 1), ac.set (s.ws[i]!).1 (ac[(s.ws[i]!).1]! ++ [(s.ws[i]!).2]), ?_⟩
    have hacl : (s.ws[i]!).1 < ac.length := by rw [B.aclen]; exact hm
    constructor
    case i_le => show i + 1 ≤ List.length (s.ws ++ L); rw [List.length_append]; omega
    case pos => show 0 < List.length (s.ws ++ L); rw [List.length_append]; omega
    case first => show (s.ws ++ L)[0]! = _; rw [get_left _ _ B.pos]; exact B.first
    case lvl => show _ = List.length (s.ws ++ L); rw [List.length_append, List.length_append, List.length_replicate, B.lvl]
    case lv0 => rw [hlv 0 (by omega), if_pos B.pos]; exact B.lv0
    case sorted =>
      intro a b hab hb
      have hb : b < List.length (s.ws ++ L) := hb
      rw [List.length_append] at hb
      exact hsort a b hab hb
    case near =>
      intro hi2 b hb
      have hb : b < List.length (s.ws ++ L) := hb
      have hi2 : i + 1 < List.length (s.ws ++ L) := hi2
      rw [List.length_append] at hb hi2
      have h1 := hsort i (i + 1) (by omega) hi2
      rw [hlv i (by omega), if_pos hi] at h1
      rw [hlv b hb]
      split
      · rename_i h
        have := hnear b h
        omega
      · omega
    case place =>
      intro j hj
      have hj : j < List.length (s.ws ++ L) := hj
      rw [List.length_append] at hj
      show ((s.ws ++ L)[j]!).1 < N
      by_cases h1 : j < s.ws.length
      · rw [get_left _ _ h1]; exact B.place j h1
      · rw [get_right _ _ (by omega) hj]
        have hmem : L[j - s.ws.length]! ∈ L := by rw [getElem!_pos L _ (by omega)]; exact List.getElem_mem _
        rw [← hL] at hmem
        obtain ⟨e, he, _, _, hpe⟩ := mem_longer.1 hmem
        rw [← hL, hpe]
        exact (F.lt e he).2
    case way =>
      intro j hj
      have hj : j < List.length (s.ws ++ L) := hj
      rw [List.length_append] at hj
      show WayIn E n h0 _ ((s.ws ++ L)[j]!).1 ((s.ws ++ L)[j]!).2
      rw [hlv j hj]
      by_cases h1 : j < s.ws.length
      · rw [get_left _ _ h1, if_pos h1]; exact B.way j h1
      · rw [get_right _ _ (by omega) hj, if_neg h1]
        have hmem : L[j - s.ws.length]! ∈ L := by rw [getElem!_pos L _ (by omega)]; exact List.getElem_mem _
        rw [← hL] at hmem
        obtain ⟨e, he, hsrc, hok, hpe⟩ := mem_longer.1 hmem
        rw [← hL, hpe]
        have w := B.way i hi
        rw [← hsrc] at w
        exact w.more he hok
    case lowlen => show List.length (s.low.set _ _) = N; rw [List.length_set]; exact B.lowlen
    case low =>
      intro m hmN
      refine (hlow m hmN).congr fun x => ?_
      constructor
      · rintro ⟨j, hj, e⟩
        exact ⟨j, hj, by show (s.ws ++ L)[j]! = _; rw [get_left _ _ (by omega)]; exact e⟩
      · rintro ⟨j, hj, e⟩
        have e : (s.ws ++ L)[j]! = _ := e
        rw [get_left _ _ (by omega)] at e
        exact ⟨j, hj, e⟩
    case more =>
      intro j hj a e he hsrc hok
      have hjl : j < s.ws.length := by omega
      have a : acc (s.ws ++ L) j := a
      have hsrc : e.src = ((s.ws ++ L)[j]!).1 := hsrc
      have hok : thenOk ((s.ws ++ L)[j]!).2 e.s = true := hok
      show ∃ q, q < List.length (s.ws ++ L) ∧ (s.ws ++ L)[q]! = (e.dst, thenV ((s.ws ++ L)[j]!).2 e.s) ∧ _
      have hs1 : e.src = (s.ws[j]!).1 := by rw [get_left _ _ hjl] at hsrc; exact hsrc
      have ho1 : thenOk (s.ws[j]!).2 e.s = true := by rw [get_left _ _ hjl] at hok; exact hok
      rw [get_left _ _ hjl, List.length_append]
      by_cases hji : j < i
      · obtain ⟨q, hq, hqe, hqv⟩ := B.more j hji (acc_left hjl a) e he hs1 ho1
        refine ⟨q, by omega, by rw [get_left _ _ hq]; exact hqe, ?_⟩
        rw [hlv q (by omega), hlv j (by omega), if_pos hq, if_pos hjl]
        exact hqv
      · obtain rfl : j = i := by omega
        have hmem : (e.dst, thenV (s.ws[j]!).2 e.s) ∈ L := by rw [← hL]; exact mem_longer.2 ⟨e, he, hs1, ho1, rfl⟩
        obtain ⟨q, hq, hqe⟩ := List.getElem_of_mem hmem
        refine ⟨s.ws.length + q, by omega, ?_, ?_⟩
        · rw [get_right _ _ (by omega) (by omega), Nat.add_sub_cancel_left, getElem!_pos L q hq]
          exact hqe
        · rw [hlv _ (by omega), hlv j (by omega), if_neg (by omega), if_pos hjl]
          exact Nat.le_refl _
    case aclen => rw [List.length_set]; exact B.aclen
    case acn =>
      intro m hmN
      rw [set_get _ _ _ _ hacl]
      split
      · rw [List.nodup_append]
        refine ⟨B.acn _ hm, by simp, fun x hx y hy e => ?_⟩
        have hy : y = (s.ws[i]!).2 := by simpa using hy
        rw [hy] at e
        obtain ⟨_, j, hj, he⟩ := B.acw _ hm x hx
        have := ha j hj (by rw [he])
        rw [he, e, leH_self hr] at this
        cases this
      · exact B.acn m hmN
    case acw =>
      intro m hmN x hx
      rw [set_get _ _ _ _ hacl] at hx
      show _ ∧ ∃ j, j < i + 1 ∧ (s.ws ++ L)[j]! = (m, x)
      split at hx
      · rename_i e
        rcases List.mem_append.1 hx with hx | hx
        · obtain ⟨h1, j, hj, he⟩ := B.acw _ hm x hx
          rw [← e]
          exact ⟨h1, j, by omega, by rw [get_left _ _ (by omega)]; exact he⟩
        · have hx : x = (s.ws[i]!).2 := by simpa using hx
          subst hx
          subst e
          exact ⟨(B.way i hi).mono (by omega), i, by omega, by rw [get_left _ _ hi]⟩
      · obtain ⟨h1, j, hj, he⟩ := B.acw m hmN x hx
        exact ⟨h1, j, by omega, by rw [get_left _ _ (by omega)]; exact he⟩
    case size =>
      show List.length (s.ws ++ L) ≤ _
      rw [List.length_append, sum_set hacl]
      have := B.size
      omega
theorem Bf.few (hN : N ≤ 32) (h0z : ∀ j : Nat, (j : Int) < h0.k + h0.t → h0.at j ≤ 0) {i : Nat} {s : BS} {lv : List Nat} {ac : List (List HV)} (B : Bf E N n h0 i s lv ac) : s.ws.length ≤ 1 + E.length * 7140250000 := by
  have h := B.size
  have h2 : (E.map fun e => List.length ac[e.src]!).sum ≤ E.length * 7140250000 := sum_le fun e he => by
    have hm := (F.lt e he).1
    refine few_steps (f := h0.f) (B.acn _ hm) fun x hx => ?_
    obtain ⟨⟨es, hE, hl, q⟩, _⟩ := B.acw _ hm x hx
    have ok := run_ok F hE h0r h0d q
    have bd := run_bound F hE h0r h0d (Int.le_refl 0) h0z q
    exact ⟨ok.1, ok.2.2, fun j hj => by have := bd j hj; omega⟩
  omega
theorem bgo (hN : N ≤ 10000) (h0z : ∀ j : Nat, (j : Int) < h0.k + h0.t → h0.at j ≤ 0) : ∀ k, (∃ K, K < k ∧ (∀ q, q < K → q < (biter E (bstart n N h0) q).ws.length) ∧ (biter E (bstart n N h0) K).ws.length = K ∧ ∃ lv ac, Bf E N n h0 K (biter E (bstart n N h0) K) lv ac) ∨
    ((∀ q, q < k → q < (biter E (bstart n N h0) q).ws.length) ∧ ∃ lv ac, Bf E N n h0 k (biter E (bstart n N h0) k) lv ac)
  | 0 => .inr ⟨fun q hq => by omega, _, _, Bf.start E hn⟩
  | k + 1 => by
    rcases bgo hN h0z k with ⟨K, hK, h⟩ | ⟨h1, lv, ac, B⟩
    · exact .inl ⟨K, by omega, h⟩
    · have hi := B.i_le
      by_cases hlt : k < (biter E (bstart n N h0) k).ws.length
      · refine .inr ⟨fun q hq => ?_, B.next F hn h0r h0d hN h0z hlt⟩
        by_cases e : q < k
        · exact h1 q e
        · obtain rfl : q = k := by omega
          exact hlt
      · exact .inl ⟨k, by omega, h1, by omega, lv, ac, B⟩
/-- the program's way of going comes to an end, and what it keeps then are the lowest steps of all ways -/
theorem bdone (hN : N ≤ 32) (hE : E.length ≤ 64) (h0z : ∀ j : Nat, (j : Int) < h0.k + h0.t → h0.at j ≤ 0) : ∃ K, K ≤ 460000000000 ∧ (∀ q, q < K → q < (biter E (bstart n N h0) q).ws.length) ∧ (biter E (bstart n N h0) K).ws.length = K ∧
    ∀ m, m < N → LeastOf (Way E n h0 m) ((biter E (bstart n N h0) K).low)[m]! := by
  have hg := bgo F hn h0r h0d (by omega) h0z 460000000000
  rcases hg with ⟨K, hK, h1, h2, lv, ac, B⟩ | ⟨h1, lv, ac, B⟩
  · refine ⟨K, by omega, h1, h2, fun m hm => ?_⟩
    have L := B.low m hm
    refine ⟨L.nodup, fun x hx => ?_, L.right, L.anti, fun x hx => ?_⟩
    · obtain ⟨j, hj, e⟩ := L.mem x hx
      have w := (B.way j (by omega)).way
      rw [e] at w
      exact w
    · obtain ⟨es, hes, q⟩ := hx
      obtain ⟨p, hp, _, hpm, hpl, _⟩ := B.reach F h0r h0d (c := es.length) (fun q hq _ => by omega) es.length (Nat.le_refl _) (Nat.le_refl _) hes q
      obtain ⟨y, hy, hl⟩ := L.cover _ ⟨p, hp, Prod.ext hpm rfl⟩
      exact ⟨y, hy, leH_trans hl hpl⟩
  · exfalso
    have := B.few F hn h0r h0d hN h0z
    have := B.i_le
    have : E.length * 7140250000 ≤ 64 * 7140250000 := Nat.mul_le_mul_right _ hE
    omega
end
end Go.Proofs.YtjaahmgokiobjaaGreat
