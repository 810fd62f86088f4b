import Derived.Test.YthhceggcdaljdaaGreatG02
import Derived.Deep.OwnRows
import Derived.Laws.AppendOwnNone
import Derived.Test.YthhceggcdaljdaaGreatG01
namespace Go.Proofs.YthhceggcdaljdaaGreat
open Go.RowKit
set_option linter.unusedVariables false
set_option linter.unusedSimpArgs false

/- the lowest of a list, as plain facts -/
def cov (xs : List TV) (t : TV) : Bool := xs.any fun x => x.le t
theorem cov_iff {xs : List TV} {t : TV} : cov xs t = true ↔ ∃ x, x ∈ xs ∧ x.le t = true := by simp [cov]
theorem cov_append (xs ys : List TV) (t : TV) : cov (xs ++ ys) t = (cov xs t || cov ys t) := by simp [cov]
def sortedT (xs : List TV) : List TV := (xs.filter TV.ok).mergeSort fun x y => decide (x.key ≤ y.key)
def lowStep (acc : List TV) (t : TV) : List TV := if cov acc t then acc else acc ++ [t]
def ofT (xs : List TV) : List TV := (sortedT xs).foldl lowStep []

/-- no one is ahead of an earlier one, and none is covered by an earlier one -/
def strict (l : List TV) : Prop := l.Pairwise fun x y => x.lt y = true ∧ x.le y = false
theorem lt_of {x t : TV} (hx : x.ok = true) (ht : t.ok = true) (h : t.lt x = false) (hl : x.le t = false) : x.lt t = true := by
  rw [TV.lt_iff]
  refine ⟨hx, ht, ?_⟩
  rcases Int.lt_trichotomy x.key t.key with k | k | k
  · exact k
  · have e := TV.key_inj hx ht k
    subst e
    rw [TV.le_refl hx] at hl
    cases hl
  · have := (TV.lt_iff t x).2 ⟨ht, hx, k⟩
    rw [h] at this
    cases this
theorem low_mem : ∀ (ys acc : List TV) (t : TV), t ∈ ys.foldl lowStep acc → t ∈ acc ∨ t ∈ ys
  | [], acc, t, h => .inl h
  | y :: ys, acc, t, h => by
    rcases low_mem ys (lowStep acc y) t h with h | h
    · unfold lowStep at h
      split at h
      · exact .inl h
      · rcases List.mem_append.1 h with h | h
        · exact .inl h
        · simp at h; subst h; exact .inr (by simp)
    · exact .inr (by simp [h])
theorem low_keeps : ∀ (ys acc : List TV) (t : TV), t ∈ acc → t ∈ ys.foldl lowStep acc
  | [], acc, t, h => h
  | y :: ys, acc, t, h => low_keeps ys _ t (by unfold lowStep; split; exact h; exact List.mem_append.2 (.inl h))
theorem low_covers : ∀ (ys acc : List TV) (s : TV), s ∈ ys → s.ok = true → cov (ys.foldl lowStep acc) s = true
  | y :: ys, acc, s, h, hs => by
    rcases List.mem_cons.1 h with h | h
    · subst h
      show cov (ys.foldl lowStep (lowStep acc s)) s = true
      rw [cov_iff]
      by_cases hc : cov acc s = true
      · obtain ⟨x, h1, h2⟩ := cov_iff.1 hc
        exact ⟨x, low_keeps ys _ x (by unfold lowStep; rw [if_pos hc]; exact h1), h2⟩
      · exact ⟨s, low_keeps ys _ s (by unfold lowStep; rw [if_neg hc]; simp), TV.le_refl hs⟩
    · exact low_covers ys _ s h hs
theorem low_strict : ∀ (ys acc : List TV), strict acc → (∀ x ∈ acc, x.ok = true) → (∀ y ∈ ys, y.ok = true) → ys.Pairwise (fun x y => y.lt x = false) → (∀ x ∈ acc, ∀ y ∈ ys, y.lt x = false) → strict (ys.foldl lowStep acc)
  | [], acc, h, _, _, _, _ => h
  | y :: ys, acc, h, ha, hy, hp, hc => by
    rw [List.pairwise_cons] at hp
    have hyo := hy y (by simp)
    refine low_strict ys (lowStep acc y) ?_ ?_ (fun z hz => hy z (by simp [hz])) hp.2 ?_
    · unfold lowStep
      split
      · exact h
      · rename_i hn
        refine List.pairwise_append.2 ⟨h, by simp, ?_⟩
        intro x hx z hz
        simp at hz
        subst hz
        have hl : x.le z = false := by
          cases hq : x.le z
          · rfl
          · exact absurd (cov_iff.2 ⟨x, hx, hq⟩) hn
        exact ⟨lt_of (ha x hx) hyo (hc x hx z (by simp)) hl, hl⟩
    · intro x hx
      unfold lowStep at hx
      split at hx
      · exact ha x hx
      · rcases List.mem_append.1 hx with hx | hx
        · exact ha x hx
        · simp at hx; subst hx; exact hyo
    · intro x hx z hz
      unfold lowStep at hx
      split at hx
      · exact hc x hx z (by simp [hz])
      · rcases List.mem_append.1 hx with hx | hx
        · exact hc x hx z (by simp [hz])
        · simp at hx; subst hx; exact hp.1 z hz
theorem sortedT_perm (xs : List TV) : (sortedT xs).Perm (xs.filter TV.ok) := List.mergeSort_perm _ _
theorem mem_sortedT {xs : List TV} {t : TV} : t ∈ sortedT xs ↔ t ∈ xs ∧ t.ok = true := by
  rw [(sortedT_perm xs).mem_iff, List.mem_filter]
/-- what is right stands in the order of the keys -/
theorem lt_false {x y : TV} (hx : x.ok = true) (hy : y.ok = true) : y.lt x = false ↔ x.key ≤ y.key := by
  constructor
  · intro h
    by_cases k : x.key ≤ y.key
    · exact k
    · rw [(TV.lt_iff y x).2 ⟨hy, hx, by omega⟩] at h
      cases h
  · intro h
    cases q : y.lt x
    · rfl
    · have := ((TV.lt_iff y x).1 q).2.2
      omega
theorem ofT_strict_of {ys : List TV} (ho : ∀ y ∈ ys, y.ok = true) (hp : ys.Pairwise fun x y => y.lt x = false) : strict (ys.foldl lowStep []) :=
  low_strict ys [] List.Pairwise.nil (by simp) ho hp (by simp)
theorem sortedT_sorted (xs : List TV) : (sortedT xs).Pairwise fun x y => y.lt x = false := by
  have h : (sortedT xs).Pairwise fun x y => decide (x.key ≤ y.key) = true :=
    List.pairwise_mergeSort (fun a b c h k => by simp only [decide_eq_true_eq] at *; omega) (fun a b => by simp only [Bool.or_eq_true, decide_eq_true_eq]; omega) _
  refine h.imp_of_mem fun {x y} hx hy k => ?_
  exact (lt_false (mem_sortedT.1 hx).2 (mem_sortedT.1 hy).2).2 (of_decide_eq_true k)
/-- a row of what is right, in the one order, is what the sort gives -/
theorem sortedT_eq {xs ys : List TV} (hp : ys.Perm (xs.filter TV.ok)) (hs : ys.Pairwise fun x y => y.lt x = false) : ys = sortedT xs := by
  have ok : ∀ y ∈ ys, y.ok = true := fun y hy => (List.mem_filter.1 (hp.mem_iff.1 hy)).2
  refine List.Perm.eq_of_pairwise (le := fun x y => y.lt x = false) ?_ hs (sortedT_sorted xs) (hp.trans (sortedT_perm xs).symm)
  intro a b ha hb h1 h2
  have ka := ok a ha
  have kb := (mem_sortedT.1 hb).2
  have := (lt_false ka kb).1 h1
  have := (lt_false kb ka).1 h2
  exact TV.key_inj ka kb (by omega)
theorem ofT_strict (xs : List TV) : strict (ofT xs) := ofT_strict_of (fun y hy => (mem_sortedT.1 hy).2) (sortedT_sorted xs)
theorem ofT_mem {xs : List TV} {t : TV} (h : t ∈ ofT xs) : t ∈ xs ∧ t.ok = true := by
  rcases low_mem _ _ _ h with h | h
  · cases h
  · exact mem_sortedT.1 h
theorem ofT_cov (xs : List TV) (t : TV) : cov (ofT xs) t = cov xs t := by
  rw [Bool.eq_iff_iff, cov_iff, cov_iff]
  constructor
  · rintro ⟨x, h1, h2⟩; exact ⟨x, (ofT_mem h1).1, h2⟩
  · rintro ⟨x, h1, h2⟩
    obtain ⟨m, h3, h4⟩ := cov_iff.1 (low_covers (sortedT xs) [] x (mem_sortedT.2 ⟨h1, TV.le_left h2⟩) (TV.le_left h2))
    exact ⟨m, h3, TV.le_trans h4 h2⟩
theorem strict_apart : ∀ {l : List TV}, strict l → ∀ x ∈ l, ∀ y ∈ l, x.le y = true → x = y
  | a :: l, h, x, hx, y, hy, hl => by
    rw [strict, List.pairwise_cons] at h
    rcases List.mem_cons.1 hx with e | hx' <;> rcases List.mem_cons.1 hy with k | hy'
    · rw [e, k]
    · subst e
      rw [(h.1 y hy').2] at hl; cases hl
    · subst k
      have := ((TV.lt_iff _ _).1 (h.1 x hx').1).2.2
      have := TV.le_key hl
      omega
    · exact strict_apart h.2 x hx' y hy' hl
theorem ofT_char {xs : List TV} {t : TV} : t ∈ ofT xs ↔ t.ok = true ∧ cov xs t = true ∧ ∀ s, cov xs s = true → s.le t = true → s = t := by
  constructor
  · intro h
    have hm := ofT_mem h
    refine ⟨hm.2, cov_iff.2 ⟨t, hm.1, TV.le_refl hm.2⟩, fun s hs hl => ?_⟩
    rw [← ofT_cov] at hs
    obtain ⟨m, h1, h2⟩ := cov_iff.1 hs
    have e := strict_apart (ofT_strict xs) m h1 t h (TV.le_trans h2 hl)
    subst e
    exact TV.le_antisymm hl h2
  · rintro ⟨h1, h2, h3⟩
    rw [← ofT_cov] at h2
    obtain ⟨m, h4, h5⟩ := cov_iff.1 h2
    have hm := ofT_mem h4
    have e := h3 m (cov_iff.2 ⟨m, hm.1, TV.le_refl hm.2⟩) h5
    subst e
    exact h4
theorem strict_ext : ∀ {l m : List TV}, strict l → strict m → (∀ t, t ∈ l ↔ t ∈ m) → l = m
  | [], [], _, _, _ => rfl
  | [], b :: m, _, _, h => by have := (h b).2 (by simp); cases this
  | a :: l, [], _, _, h => by have := (h a).1 (by simp); cases this
  | a :: l, b :: m, hl, hm, h => by
    rw [strict, List.pairwise_cons] at hl hm
    have key : ∀ {x y : TV}, x.lt y = true → x.key < y.key := fun q => ((TV.lt_iff _ _).1 q).2.2
    have e : a = b := by
      rcases List.mem_cons.1 ((h a).1 (by simp)) with q | q
      · exact q
      · rcases List.mem_cons.1 ((h b).2 (by simp)) with r | r
        · exact r.symm
        · have := key (hm.1 a q).1
          have := key (hl.1 b r).1
          omega
    subst e
    rw [strict_ext hl.2 hm.2 fun t => ?_]
    constructor
    · intro q
      rcases List.mem_cons.1 ((h t).1 (by simp [q])) with r | r
      · subst r; have := key (hl.1 t q).1; omega
      · exact r
    · intro q
      rcases List.mem_cons.1 ((h t).2 (by simp [q])) with r | r
      · subst r; have := key (hm.1 t q).1; omega
      · exact r
/-- the lowest hang on what is covered alone -/
theorem ofT_congr {xs ys : List TV} (h : ∀ t, cov xs t = cov ys t) : ofT xs = ofT ys :=
  strict_ext (ofT_strict xs) (ofT_strict ys) fun t => by rw [ofT_char, ofT_char]; simp only [h]
theorem ofT_idem (xs : List TV) : ofT (ofT xs) = ofT xs := ofT_congr (ofT_cov xs)
theorem cov_turned (xs : List TV) (t : TV) : cov (xs.reverse.flatMap fun x => [x, x]) t = cov xs t := by
  rw [Bool.eq_iff_iff, cov_iff, cov_iff]
  constructor
  · rintro ⟨x, h1, h2⟩; simp at h1; exact ⟨x, h1, h2⟩
  · rintro ⟨x, h1, h2⟩; exact ⟨x, by simp [h1], h2⟩
theorem order_all (a b c : List TV) : ofT (ofT (a ++ b) ++ c) = ofT (a ++ ofT (c ++ b)) := ofT_congr fun t => by
  simp only [cov_append, ofT_cov]
  cases cov a t <;> cases cov b t <;> cases cov c t <;> rfl
theorem order_turned (x : List TV) : ofT ((ofT x).reverse.flatMap fun x => [x, x]) = ofT x := ofT_congr fun t => by rw [cov_turned, ofT_cov]
theorem order_again (a b c : List TV) : ofT (ofT (ofT (a ++ b) ++ c) ++ a) = ofT (ofT (a ++ b) ++ c) := ofT_congr fun t => by
  simp only [cov_append, ofT_cov]
  cases cov a t <;> cases cov b t <;> cases cov c t <;> rfl
theorem low_length : ∀ (ys acc : List TV), (ys.foldl lowStep acc).length ≤ acc.length + ys.length
  | [], acc => by simp
  | y :: ys, acc => by
    have h := low_length ys (lowStep acc y)
    have : (lowStep acc y).length ≤ acc.length + 1 := by unfold lowStep; split <;> simp
    simp only [List.foldl_cons, List.length_cons]
    omega
theorem sortedT_length (xs : List TV) : (sortedT xs).length ≤ xs.length := by
  rw [(sortedT_perm xs).length_eq]; exact List.length_filter_le _ _
theorem ofT_length (xs : List TV) : (ofT xs).length ≤ xs.length := by
  have := low_length (sortedT xs) []
  have := sortedT_length xs
  simp only [List.length_nil] at *
  unfold ofT
  omega
end Go.Proofs.YthhceggcdaljdaaGreat
namespace Go.Proofs.YthhceggcdaljdaaGreat
open Go.RowKit
set_option linter.unusedVariables false
set_option linter.unusedSimpArgs false

/- slices of timestamps: read (IsT), made by the call itself (OwnTT) -/
instance : Inhabited TV := ⟨⟨1, 0, 0, 0, 0⟩⟩
def TV.enc (t : TV) : List Value := [.int .i64 t.d, .int .i64 t.c0, .int .i64 t.c1, .int .i64 t.c2, .int .i64 t.c3]
theorem enc_len (t : TV) : t.enc.length = 5 := rfl
theorem enc_one (t : TV) : ∀ u ∈ t.enc, u.oneCell' = true := by
  intro u hu
  simp [TV.enc] at hu
  rcases hu with rfl | rfl | rfl | rfl | rfl <;> rfl
theorem enc_val (t : TV) : Value.agg t.enc.toArray = t.val := rfl
def cellsT (xs : List TV) : List Value := xs.flatMap TV.enc
theorem cellsT_nil : cellsT [] = [] := rfl
theorem cellsT_append (xs ys : List TV) : cellsT (xs ++ ys) = cellsT xs ++ cellsT ys := by simp [cellsT]
theorem cellsT_len : ∀ xs : List TV, (cellsT xs).length = xs.length * 5
  | [] => rfl
  | x :: xs => by
    have := cellsT_len xs
    simp only [cellsT, List.flatMap_cons, List.length_append, enc_len, List.length_cons] at *
    omega
theorem cellsT_get : ∀ (xs : List TV) (j : Nat) (hj : j < xs.length) (i : Nat) (hi : i < 5), (cellsT xs)[j * 5 + i]? = (xs[j]!.enc)[i]?
  | x :: xs, 0, _, i, hi => by
    simp only [cellsT, List.flatMap_cons, Nat.zero_mul, Nat.zero_add]
    rw [List.getElem?_append_left (by rw [enc_len]; exact hi)]
    rfl
  | x :: xs, j + 1, hj, i, hi => by
    have h := cellsT_get xs j (by simpa using hj) i hi
    simp only [cellsT, List.flatMap_cons] at *
    rw [List.getElem?_append_right (by rw [enc_len]; omega), enc_len, show (j + 1) * 5 + i - 5 = j * 5 + i by omega, h]
    simp

/-- the cells from an address on hold these timestamps -/
def RowT (w : World) (b off : Nat) (xs : List TV) : Prop := ∀ j, j < xs.length → ∀ i u, (xs[j]!.enc)[i]? = some u → w.cell? ⟨b, off + j * 5 + i, none⟩ = some u
/-- v is a slice of these timestamps -/
def IsT (w : World) (v : Value) (xs : List TV) : Prop :=
  (xs = [] ∧ ∃ p cap, v = .slice p 0 cap ∧ (p = none → cap = 0)) ∨ (xs ≠ [] ∧ ∃ b off cap, v = .slice (some ⟨b, off, none⟩) xs.length cap ∧ b < w.heap.size ∧ RowT w b off xs)
theorem RowT.below {w w' : World} {B b off : Nat} {xs : List TV} (h : RowT w b off xs) (hb : Below B w w') (hl : b < B) : RowT w' b off xs :=
  fun j hj i u hu => by rw [hb.cell (p := ⟨b, off + j * 5 + i, none⟩) hl]; exact h j hj i u hu
theorem IsT.below {w w' : World} {v : Value} {xs : List TV} (h : IsT w v xs) (hb : Below w.heap.size w w') : IsT w' v xs := by
  rcases h with h | ⟨h, b, off, cap, e, hl, hr⟩
  · exact .inl h
  · exact .inr ⟨h, b, off, cap, e, Nat.lt_of_lt_of_le hl hb.size, hr.below hb hl⟩
theorem IsT.slice {w : World} {v : Value} {xs : List TV} (h : IsT w v xs) : ∃ p cap, v = .slice p xs.length cap := by
  rcases h with ⟨h, p, cap, e, _⟩ | ⟨h, b, off, cap, e, _⟩
  · subst h; exact ⟨p, cap, e⟩
  · exact ⟨_, cap, e⟩
theorem IsT.nil (w : World) : IsT w (.slice none 0 0) [] := .inl ⟨rfl, none, 0, rfl, fun _ => rfl⟩

theorem infoT : (Tryz.prog.info? 25).map (fun i => (i.zero, i.size, i.bytes)) = some (some (.agg #[.int .i64 0, .int .i64 0, .int .i64 0, .int .i64 0, .int .i64 0]), 5, 40) := by kernel_rfl
/-- v is a slice of the call's own (nil, or in a block from B on) with these timestamps -/
def OwnTT (B : Nat) (w : World) (v : Value) (xs : List TV) : Prop := w.ownsRow B 25 5 v xs.length (cellsT xs)
theorem OwnTT.nil (B : Nat) (w : World) : OwnTT B w (.slice none 0 0) [] := ⟨rfl, .inl ⟨rfl, rfl⟩⟩
theorem OwnTT.is {B : Nat} {w : World} {v : Value} {xs : List TV} (h : OwnTT B w v xs) : IsT w v xs := by
  obtain ⟨h1, h2⟩ := h
  rcases h2 with ⟨e, hn⟩ | ⟨g, cap, cur, e, hb, hg, hc, hm, hs, ht⟩
  · have : xs = [] := List.length_eq_zero_iff.1 hn
    subst this
    exact .inl ⟨rfl, none, 0, e, fun _ => rfl⟩
  · by_cases hx : xs = []
    · subst hx; exact .inl ⟨rfl, _, _, e, fun h => by cases h⟩
    · refine .inr ⟨hx, g, 0, cap, e, ?_, ?_⟩
      · exact (Array.getElem?_eq_some_iff.1 hg).1
      · intro j hj i u hu
        have hi : i < 5 := by have := (List.getElem?_eq_some_iff.1 hu).1; rw [enc_len] at this; exact this
        have hk := cellsT_get xs j hj i hi
        rw [hu, ← ht] at hk
        rw [List.getElem?_take] at hk
        split at hk
        · unfold World.cell?
          simp only [hg, Nat.zero_add]
          simpa using hk
        · cases hk
theorem OwnTT.below {B : Nat} {w w' : World} {v : Value} {xs : List TV} (h : OwnTT B w v xs) (hb : Below w.heap.size w w') : OwnTT B w' v xs := by
  obtain ⟨h1, h2⟩ := h
  refine ⟨h1, ?_⟩
  rcases h2 with h2 | ⟨g, cap, cur, e, hB, hg, rest⟩
  · exact .inl h2
  · exact .inr ⟨g, cap, cur, e, hB, (hb.block g (Array.getElem?_eq_some_iff.1 hg).1).trans hg, rest⟩
theorem OwnTT.mono {B B' : Nat} {w : World} {v : Value} {xs : List TV} (h : OwnTT B w v xs) (hb : B' ≤ B) : OwnTT B' w v xs := by
  obtain ⟨h1, h2⟩ := h
  refine ⟨h1, ?_⟩
  rcases h2 with h2 | ⟨g, cap, cur, e, hB, rest⟩
  · exact .inl h2
  · exact .inr ⟨g, cap, cur, e, Nat.le_trans hb hB, rest⟩
theorem OwnTT.alloc {B : Nat} {w : World} {v : Value} {xs : List TV} (h : OwnTT B w v xs) (o : Obj) : OwnTT B (w.alloc o) v xs := World.ownsRow.alloc h o
theorem OwnTT.drew {B : Nat} {w : World} {v : Value} {xs : List TV} (h : OwnTT B w v xs) : OwnTT B w.drew v xs := h

/-- append of a row that lies in memory -/
theorem OwnTT.append {ops : Array Oper} {rest : List Oper} {o : Oper} {a : Act} {Q : Exit → Act → World → Prop} {w : World} (hgd : o.guard = none) (s x : Operand)
    (ho : o.op = .call { callee := .builtin .append, args := #[s, x], argTypes := #[33, 33] }) {B : Nat} {v : Value} {xs : List TV} (hown : OwnTT B w v xs) (hs : a.eval s = v) (b off c : Nat) (ys : List TV)
    (hx : a.eval x = .slice (some ⟨b, off, none⟩) ys.length c) (hz : RowT w b off ys) (hlen : xs.length + ys.length ≤ 3000000000000) (hbase : B ≤ w.heap.size)
    (h : ∀ v' w', OwnTT B w' v' (xs ++ ys) → w.grownBy w' v.ownBlock → wpList Tryz.prog ops Q rest (a.put o.dst v') w') : wpList Tryz.prog ops Q (o :: rest) a w := by
  obtain ⟨i0, hi, hz0, hz1, hz2⟩ := info_parts infoT
  refine wpList_append_own _ hgd s x 33 ho B 25 i0 (.agg #[.int .i64 0, .int .i64 0, .int .i64 0, .int .i64 0, .int .i64 0]) 5 40 Tryz.underlying33 hi hz0 hz1 hz2 rfl (by decide) v xs.length (cellsT xs) hs hown ⟨b, off, none⟩ ys.length c (cellsT ys) hx (cellsT_len ys) ?_ ?_ ?_ ?_ hbase ?_
  · intro j u hu
    have hj : j < ys.length * 5 := by have := (List.getElem?_eq_some_iff.1 hu).1; rw [cellsT_len] at this; exact this
    have e : j = j / 5 * 5 + j % 5 := by omega
    have hq : j / 5 < ys.length := by omega
    rw [e, cellsT_get ys _ hq _ (by omega)] at hu
    have := hz _ hq _ _ hu
    rw [show off + j / 5 * 5 + j % 5 = off + j by omega] at this
    rw [Addr.add_lit]
    exact this
  · intro u hu
    obtain ⟨y, _, hy⟩ := List.mem_flatMap.1 hu
    exact enc_one y u hy
  · unfold maxLen; omega
  · omega
  · intro v' w' h1 h2 _
    refine h v' w' ?_ h2
    unfold OwnTT
    rw [cellsT_append, List.length_append]
    exact h1
theorem RowT.new (w : World) (y : TV) (t : TypeId) : RowT (w.alloc (.cells #[.int .i64 y.d, .int .i64 y.c0, .int .i64 y.c1, .int .i64 y.c2, .int .i64 y.c3] t)) w.heap.size 0 [y] := by
  intro j hj i u hu
  have hj0 : j = 0 := by simpa using hj
  subst hj0
  have hi : i < 5 := by have := (List.getElem?_eq_some_iff.1 hu).1; rw [enc_len] at this; exact this
  match i, hi, hu with
  | 0, _, hu => simp [TV.enc] at hu; subst hu; simp
  | 1, _, hu => simp [TV.enc] at hu; subst hu; simp
  | 2, _, hu => simp [TV.enc] at hu; subst hu; simp
  | 3, _, hu => simp [TV.enc] at hu; subst hu; simp
  | 4, _, hu => simp [TV.enc] at hu; subst hu; simp
/-- append of one timestamp -/
theorem OwnTT.push {ops : Array Oper} {rest : List Oper} {o : Oper} {a : Act} {Q : Exit → Act → World → Prop} {w0 w : World} {B : Nat} {v : Value} {xs : List TV} {y : TV} (hown : OwnTT B w v xs) (hb : Below B w0 w) (hB : B ≤ w.heap.size)
    (hgd : o.guard = none) (s x : Operand) (ho : o.op = .call { callee := .builtin .append, args := #[s, x], argTypes := #[33, 33] }) (hs : a.eval s = v) (t : TypeId)
    (hx : a.eval x = .slice (some ⟨w.heap.size, 0, none⟩) 1 1) (hlen : xs.length ≤ 2000000000000)
    (h : ∀ v' w', OwnTT B w' v' (xs ++ [y]) → Below B w0 w' → w.heap.size ≤ w'.heap.size → wpList Tryz.prog ops Q rest (a.put o.dst v') w') :
    wpList Tryz.prog ops Q (o :: rest) a (w.alloc (.cells #[.int .i64 y.d, .int .i64 y.c0, .int .i64 y.c1, .int .i64 y.c2, .int .i64 y.c3] t)) := by
  have hown' : OwnTT B (w.alloc (.cells #[.int .i64 y.d, .int .i64 y.c0, .int .i64 y.c1, .int .i64 y.c2, .int .i64 y.c3] t)) v xs := hown.alloc _
  refine OwnTT.append hgd s x ho hown' hs w.heap.size 0 1 [y] hx (RowT.new w y t) (by simp; omega) (by simp; omega) ?_
  intro v' w' h1 h2
  have hlt := World.ownsRow.lt hown'
  have hsz := h2.size
  refine h v' w' h1 ?_ (by simp at hsz; omega)
  exact (hb.alloc hB _).grown h2 (by simp; omega) (fun k hk => (hlt k hk).1)
theorem ok_any (t : TV) (w : World) : Calls Tryz.prog 47 #[t.val] w (Ret (.bool t.ok) w) := right_any _ _ _ _ _ w
theorem tle_any (t u : TV) (w : World) : Calls Tryz.prog 64 #[t.val, u.val] w (Ret (.bool (t.le u)) w) := le_any _ _ _ _ _ _ _ _ _ _ w
theorem RowT.at {w : World} {b off : Nat} {xs : List TV} (h : RowT w b off xs) (j : Nat) (hj : j < xs.length) :
    w.cell? ⟨b, off + j * 5, none⟩ = some (.int .i64 xs[j]!.d) ∧ w.cell? ⟨b, off + j * 5 + 1, none⟩ = some (.int .i64 xs[j]!.c0) ∧ w.cell? ⟨b, off + j * 5 + 2, none⟩ = some (.int .i64 xs[j]!.c1) ∧ w.cell? ⟨b, off + j * 5 + 3, none⟩ = some (.int .i64 xs[j]!.c2) ∧ w.cell? ⟨b, off + j * 5 + 4, none⟩ = some (.int .i64 xs[j]!.c3) :=
  ⟨h j hj 0 _ rfl, h j hj 1 _ rfl, h j hj 2 _ rfl, h j hj 3 _ rfl, h j hj 4 _ rfl⟩
theorem take_get (xs : List TV) (k : Nat) (hk : k < xs.length) : xs.take (k + 1) = xs.take k ++ [xs[k]!] := by
  rw [List.take_add_one, List.getElem?_eq_getElem hk]
  simp [hk]
/-- append of a slice, wherever it lies, nil too -/
theorem OwnTT.appendAny {ops : Array Oper} {rest : List Oper} {o : Oper} {a : Act} {Q : Exit → Act → World → Prop} {w0 w : World} {B : Nat} {v vx : Value} {xs ys : List TV} (hown : OwnTT B w v xs) (hb : Below B w0 w) (hB : B ≤ w.heap.size)
    (hgd : o.guard = none) (s x : Operand) (ho : o.op = .call { callee := .builtin .append, args := #[s, x], argTypes := #[33, 33] }) (hs : a.eval s = v)
    (hx : a.eval x = vx) (his : IsT w vx ys) (hlen : xs.length + ys.length ≤ 3000000000000)
    (h : ∀ v' w', OwnTT B w' v' (xs ++ ys) → Below B w0 w' → w.heap.size ≤ w'.heap.size → wpList Tryz.prog ops Q rest (a.put o.dst v') w') :
    wpList Tryz.prog ops Q (o :: rest) a w := by
  have hlt := World.ownsRow.lt hown
  have fin : ∀ v' w', OwnTT B w' v' (xs ++ ys) → w.grownBy w' v.ownBlock → wpList Tryz.prog ops Q rest (a.put o.dst v') w' := fun v' w' h1 h2 =>
    h v' w' h1 (hb.grown h2 hB (fun k hk => (hlt k hk).1)) h2.size
  rcases his with ⟨rfl, p, cap, rfl, hp⟩ | ⟨_, b, off, cap, rfl, _, hr⟩
  · cases p with
    | none =>
      obtain rfl := hp rfl
      obtain ⟨i0, hi, _⟩ := info_parts infoT
      refine wpList_append_own_none hgd s x 33 ho B 25 i0 5 Tryz.underlying33 hi v _ _ hs hown hx ?_
      exact h v w (by rw [List.append_nil]; exact hown) hb (Nat.le_refl _)
    | some ad =>
      obtain ⟨i0, hi, hz0, hz1, hz2⟩ := info_parts infoT
      refine wpList_append_own _ hgd s x 33 ho B 25 i0 (.agg #[.int .i64 0, .int .i64 0, .int .i64 0, .int .i64 0, .int .i64 0]) 5 40 Tryz.underlying33 hi hz0 hz1 hz2 rfl (by decide) v xs.length (cellsT xs) hs hown ad 0 cap [] hx rfl (by simp) (by simp) (by unfold maxLen; simp at hlen; omega) (by simp at hlen; omega) hB ?_
      intro v' w' h1 h2 _
      refine fin v' w' ?_ h2
      rw [List.append_nil]
      unfold OwnTT
      simpa using h1
  · exact OwnTT.append hgd s x ho hown hs b off cap ys hx hr hlen hB fin
end Go.Proofs.YthhceggcdaljdaaGreat
namespace Go.Proofs.YthhceggcdaljdaaGreat
open Go.RowKit
set_option linter.unusedVariables false
set_option linter.unusedSimpArgs false
attribute [local go_sem] ix4_0 ix4_1 ix4_2 ix4_3

set_option maxHeartbeats 2000000 in
theorem right_exact (d c0 c1 c2 c3 : Int) (w : World) :
    Calls Tryz.prog 47 #[.agg #[.int .i64 d, .int .i64 c0, .int .i64 c1, .int .i64 c2, .int .i64 c3]] w (fun e w' => e = .returned (.bool (rightB d c0 c1 c2 c3)) ∧ w' = w.alloc (.cells #[.int .i64 d, .int .i64 c0, .int .i64 c1, .int .i64 c2, .int .i64 c3] 25)) := by
  by_cases hb : 1 ≤ d ∧ d ≤ 4
  · obtain ⟨hd, hd4⟩ := hb
    go_enter Tryz.func47, Tryz.ntmps47
    go_wp2
    refine wp_loop_rounds 5 ?_
    repeat any_goals (rw [rounds_succ]; go_wp2_with (go_at_call 88; refine (greatest_any _ _ _).mono ?_; rintro e w' ⟨rfl, rfl⟩))
    all_goals go_returns
    all_goals (refine ⟨ret_bool ?_, rfl⟩)
    all_goals (simp only [rightB, rightP]; first | (apply Eq.symm; apply decide_eq_true; omega) | (apply Eq.symm; apply decide_eq_false; omega))
  · go_enter Tryz.func47, Tryz.ntmps47
    have hr : rightB d c0 c1 c2 c3 = false := by simp only [rightB, rightP]; exact decide_eq_false (by omega)
    rw [hr]
    by_cases h1 : d < 1
    · go_wp2
      all_goals go_returns
      all_goals exact ⟨rfl, rfl⟩
    · have h4 : 4 < d := by omega
      go_wp2
      all_goals go_returns
      all_goals exact ⟨rfl, rfl⟩
end Go.Proofs.YthhceggcdaljdaaGreat
namespace Go.Proofs.YthhceggcdaljdaaGreat
open Go.RowKit
set_option linter.unusedVariables false
set_option linter.unusedSimpArgs false
attribute [local go_sem ↓] run_imax run_imin

theorem ret_boolD {a b : Bool} {w w' : World} (h : a = b) (hb : Below w.heap.size w w') (hd : w.drawn ≤ w'.drawn) : RetD (.bool b) w (.returned (.bool a)) w' := ⟨by rw [h], hb, hd⟩

set_option maxHeartbeats 4000000 in
theorem less_drawn (d c0 c1 c2 c3 e0 x0 x1 x2 x3 : Int) (w : World) :
    Calls Tryz.prog 58 #[.agg #[.int .i64 d, .int .i64 c0, .int .i64 c1, .int .i64 c2, .int .i64 c3], .agg #[.int .i64 e0, .int .i64 x0, .int .i64 x1, .int .i64 x2, .int .i64 x3]] w (RetD (.bool (lessB d c0 c1 c2 c3 e0 x0 x1 x2 x3)) w) := by
  cases hp : rightB d c0 c1 c2 c3
  · have he : lessB d c0 c1 c2 c3 e0 x0 x1 x2 x3 = false := by simp [lessB, hp]
    rw [he]; clear he
    go_enter Tryz.func58, Tryz.ntmps58
    go_wp2_with fail
    refine (right_exact _ _ _ _ _ _).mono ?_
    rintro e w1 ⟨rfl, rfl⟩
    go_wp2
    go_returns
    exact ret_boolD rfl (by repeat' (first | (with_reducible refine below_drewN ?_ _) | go_grown)) (by simp only [drawn_alloc, drawn_drew, drawn_drewN]; omega)
  · cases hp2 : rightB e0 x0 x1 x2 x3
    · have he : lessB d c0 c1 c2 c3 e0 x0 x1 x2 x3 = false := by simp [lessB, hp2]
      rw [he]; clear he
      go_enter Tryz.func58, Tryz.ntmps58
      go_wp2_with fail
      refine (right_exact _ _ _ _ _ _).mono ?_
      rintro e w1 ⟨rfl, rfl⟩
      go_wp2_with fail
      refine (right_exact _ _ _ _ _ _).mono ?_
      rintro e w2 ⟨rfl, rfl⟩
      go_wp2
      go_returns
      exact ret_boolD rfl (by repeat' (first | (with_reducible refine below_drewN ?_ _) | go_grown)) (by simp only [drawn_alloc, drawn_drew, drawn_drewN]; omega)
    · have he : lessB d c0 c1 c2 c3 e0 x0 x1 x2 x3 = lexB d c0 c1 c2 c3 e0 x0 x1 x2 x3 := by simp [lessB, hp2, hp]
      rw [he]; clear he
      have hm : imin d e0 ≤ 4 := imin_le d e0 (right_of hp).2.1
      go_enter Tryz.func58, Tryz.ntmps58
      go_wp2_with fail
      refine (right_exact _ _ _ _ _ _).mono ?_
      rintro e w1 ⟨rfl, rfl⟩
      go_wp2_with fail
      refine (right_exact _ _ _ _ _ _).mono ?_
      rintro e w2 ⟨rfl, rfl⟩
      go_wp2
      refine wp_loop_rounds 5 ?_
      by_cases hk0 : 0 < imin d e0
      · by_cases he0 : c0 = x0
        · have hn0 : (c0 != x0) = false := by simp [he0]
          have He0 := Lib.hid he0; clear he0
          rw [rounds_succ]; go_wp2
          go_quiet (fail)
          go_wp2
          by_cases hk1 : 1 < imin d e0
          · by_cases he1 : c1 = x1
            · have hn1 : (c1 != x1) = false := by simp [he1]
              have He1 := Lib.hid he1; clear he1
              rw [rounds_succ]; go_wp2
              go_quiet (fail)
              go_wp2
              by_cases hk2 : 2 < imin d e0
              · by_cases he2 : c2 = x2
                · have hn2 : (c2 != x2) = false := by simp [he2]
                  have He2 := Lib.hid he2; clear he2
                  rw [rounds_succ]; go_wp2
                  go_quiet (fail)
                  go_wp2
                  by_cases hk3 : 3 < imin d e0
                  · by_cases he3 : c3 = x3
                    · have hn3 : (c3 != x3) = false := by simp [he3]
                      have He3 := Lib.hid he3; clear he3
                      rw [rounds_succ]; go_wp2
                      go_quiet (fail)
                      go_wp2
                      rw [rounds_succ]; go_wp2
                      go_returns
                      exact ret_boolD (by unfold lexB; rw [if_neg (fun h => h.2 (by simpa using hn0)), if_neg (fun h => h.2 (by simpa using hn1)), if_neg (fun h => h.2 (by simpa using hn2)), if_neg (fun h => h.2 (by simpa using hn3))]) (by repeat' (first | (with_reducible refine below_drewN ?_ _) | go_grown)) (by simp only [drawn_alloc, drawn_drew, drawn_drewN]; omega)
                    · have hn3 : (c3 != x3) = true := by simp [he3]
                      rw [rounds_succ]; go_wp2
                      go_quiet (fail)
                      go_wp2
                      go_quiet (fail)
                      go_wp2
                      go_returns
                      exact ret_boolD (by unfold lexB; rw [if_neg (fun h => h.2 (by simpa using hn0)), if_neg (fun h => h.2 (by simpa using hn1)), if_neg (fun h => h.2 (by simpa using hn2)), if_pos ⟨hk3, by simpa using hn3⟩]) (by repeat' (first | (with_reducible refine below_drewN ?_ _) | go_grown)) (by simp only [drawn_alloc, drawn_drew, drawn_drewN]; omega)
                  · rw [rounds_succ]; go_wp2
                    go_returns
                    exact ret_boolD (by unfold lexB; rw [if_neg (fun h => h.2 (by simpa using hn0)), if_neg (fun h => h.2 (by simpa using hn1)), if_neg (fun h => h.2 (by simpa using hn2)), if_neg (fun h => absurd h.1 (by omega))]) (by repeat' (first | (with_reducible refine below_drewN ?_ _) | go_grown)) (by simp only [drawn_alloc, drawn_drew, drawn_drewN]; omega)
                · have hn2 : (c2 != x2) = true := by simp [he2]
                  rw [rounds_succ]; go_wp2
                  go_quiet (fail)
                  go_wp2
                  go_quiet (fail)
                  go_wp2
                  go_returns
                  exact ret_boolD (by unfold lexB; rw [if_neg (fun h => h.2 (by simpa using hn0)), if_neg (fun h => h.2 (by simpa using hn1)), if_pos ⟨hk2, by simpa using hn2⟩]) (by repeat' (first | (with_reducible refine below_drewN ?_ _) | go_grown)) (by simp only [drawn_alloc, drawn_drew, drawn_drewN]; omega)
              · rw [rounds_succ]; go_wp2
                go_returns
                exact ret_boolD (by unfold lexB; rw [if_neg (fun h => h.2 (by simpa using hn0)), if_neg (fun h => h.2 (by simpa using hn1)), if_neg (fun h => absurd h.1 (by omega)), if_neg (fun h => absurd h.1 (by omega))]) (by repeat' (first | (with_reducible refine below_drewN ?_ _) | go_grown)) (by simp only [drawn_alloc, drawn_drew, drawn_drewN]; omega)
            · have hn1 : (c1 != x1) = true := by simp [he1]
              rw [rounds_succ]; go_wp2
              go_quiet (fail)
              go_wp2
              go_quiet (fail)
              go_wp2
              go_returns
              exact ret_boolD (by unfold lexB; rw [if_neg (fun h => h.2 (by simpa using hn0)), if_pos ⟨hk1, by simpa using hn1⟩]) (by repeat' (first | (with_reducible refine below_drewN ?_ _) | go_grown)) (by simp only [drawn_alloc, drawn_drew, drawn_drewN]; omega)
          · rw [rounds_succ]; go_wp2
            go_returns
            exact ret_boolD (by unfold lexB; rw [if_neg (fun h => h.2 (by simpa using hn0)), if_neg (fun h => absurd h.1 (by omega)), if_neg (fun h => absurd h.1 (by omega)), if_neg (fun h => absurd h.1 (by omega))]) (by repeat' (first | (with_reducible refine below_drewN ?_ _) | go_grown)) (by simp only [drawn_alloc, drawn_drew, drawn_drewN]; omega)
        · have hn0 : (c0 != x0) = true := by simp [he0]
          rw [rounds_succ]; go_wp2
          go_quiet (fail)
          go_wp2
          go_quiet (fail)
          go_wp2
          go_returns
          exact ret_boolD (by unfold lexB; rw [if_pos ⟨hk0, by simpa using hn0⟩]) (by repeat' (first | (with_reducible refine below_drewN ?_ _) | go_grown)) (by simp only [drawn_alloc, drawn_drew, drawn_drewN]; omega)
      · rw [rounds_succ]; go_wp2
        go_returns
        exact ret_boolD (by unfold lexB; rw [if_neg (fun h => absurd h.1 (by omega)), if_neg (fun h => absurd h.1 (by omega)), if_neg (fun h => absurd h.1 (by omega)), if_neg (fun h => absurd h.1 (by omega))]) (by repeat' (first | (with_reducible refine below_drewN ?_ _) | go_grown)) (by simp only [drawn_alloc, drawn_drew, drawn_drewN]; omega)
end Go.Proofs.YthhceggcdaljdaaGreat
