import Derived.Test.YthhceggcdaljdaaGreatG01
import Derived.Sort.LotA
import Derived.Deep.OwnRows
import Derived.Laws.AppendOwnNone
import Derived.Deep.Light
import Derived.Deep.RegionHeldLaw
namespace Go.Proofs.YthhceggcdaljdaaGreat
open Go.RowKit
set_option linter.unusedVariables false
set_option linter.unusedSimpArgs false

/- the orders of timestamps, as plain facts -/
def TV.ok (t : TV) : Bool := Go.Proofs.YthhceggcdaljdaaGreat.rightB t.d t.c0 t.c1 t.c2 t.c3
def TV.le (t u : TV) : Bool := leB t.d t.c0 t.c1 t.c2 t.c3 u.d u.c0 u.c1 u.c2 u.c3
def TV.lt (t u : TV) : Bool := lessB t.d t.c0 t.c1 t.c2 t.c3 u.d u.c0 u.c1 u.c2 u.c3
theorem TV.ext4 {t u : TV} (h : t.d = u.d) (h0 : t.c0 = u.c0) (h1 : t.c1 = u.c1) (h2 : t.c2 = u.c2) (h3 : t.c3 = u.c3) : t = u := by
  cases t; cases u; simp_all

/-- what a right timestamp's numbers may be -/
instance : DecidableEq TV := fun a b =>
  if h : a.d = b.d ∧ a.c0 = b.c0 ∧ a.c1 = b.c1 ∧ a.c2 = b.c2 ∧ a.c3 = b.c3 then .isTrue (TV.ext4 h.1 h.2.1 h.2.2.1 h.2.2.2.1 h.2.2.2.2)
  else .isFalse fun e => h (by subst e; exact ⟨rfl, rfl, rfl, rfl, rfl⟩)
def okP (d c0 c1 c2 c3 : Int) : Prop := 1 ≤ d ∧ d ≤ 4 ∧ (0 ≤ c0 ∧ c0 ≤ 1048576) ∧ (0 ≤ c1 ∧ c1 ≤ 64 ∧ (d ≤ 1 → c1 = 0)) ∧ (0 ≤ c2 ∧ c2 ≤ 64 ∧ (d ≤ 2 → c2 = 0)) ∧ (0 ≤ c3 ∧ c3 ≤ 64 ∧ (d ≤ 3 → c3 = 0))
theorem TV.ok_iff (t : TV) : t.ok = true ↔ okP t.d t.c0 t.c1 t.c2 t.c3 := by
  obtain ⟨d, c0, c1, c2, c3⟩ := t
  simp only [TV.ok, Go.Proofs.YthhceggcdaljdaaGreat.rightB, decide_eq_true_eq, rightP, okP, greatestS]
  constructor
  · intro h
    obtain ⟨h1, h2, h3, h4, h5, h6, h7, h8, h9, h10⟩ := h
    split at h4 <;> split at h6 <;> split at h8 <;> split at h10 <;> simp at * <;> omega
  · intro h
    refine ⟨by omega, by omega, by omega, ?_, by omega, ?_, by omega, ?_, by omega, ?_⟩ <;> (split <;> (try split) <;> simp at * <;> omega)

/-- one number by which the one order goes -/
def TV.key (t : TV) : Int := (t.c0 + 1) * 1000000 + (if 1 < t.d then t.c1 + 1 else 0) * 10000 + (if 2 < t.d then t.c2 + 1 else 0) * 100 + (if 3 < t.d then t.c3 + 1 else 0)
theorem TV.le_iff (t u : TV) : t.le u = true ↔ t.ok = true ∧ u.ok = true ∧ t.d = u.d ∧ t.c0 ≤ u.c0 ∧ t.c1 ≤ u.c1 ∧ t.c2 ≤ u.c2 ∧ t.c3 ≤ u.c3 := by
  simp only [TV.le, leB, pairedB, Bool.and_eq_true, beq_iff_eq, decide_eq_true_eq, TV.ok]
  constructor
  · rintro ⟨⟨⟨h1, h2⟩, h3⟩, h4⟩; exact ⟨h2, h3, h1, h4⟩
  · rintro ⟨h2, h3, h1, h4⟩; exact ⟨⟨⟨h1, h2⟩, h3⟩, h4⟩
set_option maxHeartbeats 4000000 in
theorem TV.lex_key {t u : TV} (ht : t.ok = true) (hu : u.ok = true) : lexB t.d t.c0 t.c1 t.c2 t.c3 u.d u.c0 u.c1 u.c2 u.c3 = decide (t.key < u.key) := by
  rw [TV.ok_iff] at ht hu
  obtain ⟨d, c0, c1, c2, c3⟩ := t
  obtain ⟨e, x0, x1, x2, x3⟩ := u
  simp only [okP] at ht hu
  simp only [TV.key, lexB]
  have hd : d = 1 ∨ d = 2 ∨ d = 3 ∨ d = 4 := by omega
  have he : e = 1 ∨ e = 2 ∨ e = 3 ∨ e = 4 := by omega
  refine Bool.eq_iff_iff.2 ?_
  rw [decide_eq_true_eq]
  rcases hd with rfl | rfl | rfl | rfl <;> rcases he with rfl | rfl | rfl | rfl <;> simp (decide := true) only [imin, if_true, if_false, true_and, false_and, ne_eq] <;> (repeat' split) <;> (first | omega | (simp only [decide_eq_true_eq]; omega) | (simp at *; omega))
theorem TV.lt_iff (t u : TV) : t.lt u = true ↔ t.ok = true ∧ u.ok = true ∧ t.key < u.key := by
  simp only [TV.lt, lessB, Bool.and_eq_true]
  constructor
  · rintro ⟨⟨h1, h2⟩, h3⟩
    refine ⟨h1, h2, ?_⟩
    rw [TV.lex_key h1 h2] at h3
    exact of_decide_eq_true h3
  · rintro ⟨h1, h2, h3⟩
    refine ⟨⟨h1, h2⟩, ?_⟩
    rw [TV.lex_key h1 h2]
    exact decide_eq_true h3
theorem TV.key_inj {t u : TV} (ht : t.ok = true) (hu : u.ok = true) (h : t.key = u.key) : t = u := by
  rw [TV.ok_iff] at ht hu
  obtain ⟨d, c0, c1, c2, c3⟩ := t
  obtain ⟨e, x0, x1, x2, x3⟩ := u
  simp only [okP] at ht hu
  simp only [TV.key] at h
  have hd : d = 1 ∨ d = 2 ∨ d = 3 ∨ d = 4 := by omega
  have he : e = 1 ∨ e = 2 ∨ e = 3 ∨ e = 4 := by omega
  rcases hd with rfl | rfl | rfl | rfl <;> rcases he with rfl | rfl | rfl | rfl <;> simp at h <;> first | (exfalso; omega) | (apply TV.ext4 <;> simp only <;> omega)
theorem TV.le_key {t u : TV} (h : t.le u = true) : t.key ≤ u.key := by
  obtain ⟨h1, h2, h3, h4, h5, h6, h7⟩ := (TV.le_iff t u).1 h
  simp only [TV.key, h3]
  split <;> split <;> split <;> omega
theorem TV.le_refl {t : TV} (h : t.ok = true) : t.le t = true := (TV.le_iff t t).2 ⟨h, h, rfl, Int.le_refl _, Int.le_refl _, Int.le_refl _, Int.le_refl _⟩
theorem TV.le_trans {t u v : TV} (h : t.le u = true) (k : u.le v = true) : t.le v = true := by
  rw [TV.le_iff] at *
  exact ⟨h.1, k.2.1, by omega, by omega, by omega, by omega, by omega⟩
theorem TV.le_antisymm {t u : TV} (h : t.le u = true) (k : u.le t = true) : t = u := by
  rw [TV.le_iff] at *
  exact TV.ext4 (by omega) (by omega) (by omega) (by omega) (by omega)
theorem TV.le_left {t u : TV} (h : t.le u = true) : t.ok = true := ((TV.le_iff t u).1 h).1
theorem TV.le_right {t u : TV} (h : t.le u = true) : u.ok = true := ((TV.le_iff t u).1 h).2.1
end Go.Proofs.YthhceggcdaljdaaGreat
/- rows of anything: slices that are read (Is), that a call has made itself (Own), answers that are such (Made); for any element type whose cells are told once (RowKind) -/
namespace Go.Proofs.YthhceggcdaljdaaGreat
open Go.RowKit
set_option linter.unusedVariables false
set_option linter.unusedSimpArgs false

structure RowKind (α : Type) where
  enc : α → List Value
  k : Nat
  k0 : 0 < k
  len : ∀ a, (enc a).length = k
  one : ∀ a, ∀ u ∈ enc a, u.oneCell' = true
  tE : TypeId
  tS : TypeId
  zero : Value
  bytes : Nat
  info : (Tryz.prog.info? tE).map (fun i => (i.zero, i.size, i.bytes)) = some (some zero, k, bytes)
  under : Tryz.prog.underlying tS = some (.slice tE)
  zlen : zero.cells.size = k
  byt : bytes ≤ 1000
namespace RowKind
section
variable {α : Type} {R : RowKind α}
variable (R)
def cells (xs : List α) : List Value := xs.flatMap R.enc
theorem cells_nil : R.cells [] = [] := rfl
theorem cells_append (xs ys : List α) : R.cells (xs ++ ys) = R.cells xs ++ R.cells ys := by simp [cells]
theorem cells_len : ∀ xs : List α, (R.cells xs).length = xs.length * R.k
  | [] => by simp [cells]
  | x :: xs => by
    have h := cells_len xs
    unfold cells at *
    rw [List.flatMap_cons, List.length_append, R.len, h, List.length_cons, Nat.add_mul, Nat.one_mul, Nat.add_comm]
/-- v is a slice of the call's own (nil, or in a block from B on) with these -/
def Own (B : Nat) (w : World) (v : Value) (xs : List α) : Prop := w.ownsRow B R.tE R.k v xs.length (R.cells xs)
theorem Own.nil (B : Nat) (w : World) : R.Own B w (.slice none 0 0) [] := ⟨by simp [cells], .inl ⟨rfl, rfl⟩⟩
variable {R}
theorem Own.below {B : Nat} {w w' : World} {v : Value} {xs : List α} (h : R.Own B w v xs) (hb : Below w.heap.size w w') : R.Own B w' v xs := by
  obtain ⟨h1, h2⟩ := h
  refine ⟨h1, ?_⟩
  rcases h2 with h2 | ⟨g, cap, cur, e, hB, hg, rest⟩
  · exact .inl h2
  · exact .inr ⟨g, cap, cur, e, hB, (hb.block g (Array.getElem?_eq_some_iff.1 hg).1).trans hg, rest⟩
theorem Own.mono {B B' : Nat} {w : World} {v : Value} {xs : List α} (h : R.Own B w v xs) (hb : B' ≤ B) : R.Own B' w v xs := by
  obtain ⟨h1, h2⟩ := h
  refine ⟨h1, ?_⟩
  rcases h2 with h2 | ⟨g, cap, cur, e, hB, rest⟩
  · exact .inl h2
  · exact .inr ⟨g, cap, cur, e, Nat.le_trans hb hB, rest⟩
theorem Own.alloc {B : Nat} {w : World} {v : Value} {xs : List α} (h : R.Own B w v xs) (o : Obj) : R.Own B (w.alloc o) v xs := World.ownsRow.alloc h o
theorem Own.drew {B : Nat} {w : World} {v : Value} {xs : List α} (h : R.Own B w v xs) : R.Own B w.drew v xs := h
theorem Own.lt {B : Nat} {w : World} {v : Value} {xs : List α} (h : R.Own B w v xs) : ∀ k, v.ownBlock = some k → B ≤ k ∧ k < w.heap.size := World.ownsRow.lt h
variable (R)
/-- what append of a row wants -/
def App (w : World) (vx : Value) (ys : List α) : Prop := ∃ ad c, vx = .slice (some ad) ys.length c ∧ ∀ j u, (R.cells ys)[j]? = some u → w.cell? (ad.add j) = some u
variable {R}
theorem one_cells {xs : List α} : ∀ u ∈ R.cells xs, u.oneCell' = true := by
  intro u hu
  obtain ⟨y, _, hy⟩ := List.mem_flatMap.1 hu
  exact R.one y u hy
theorem byt_ok {n : Nat} (h : n ≤ 1000000) : n * R.bytes ≤ 140737488355328 :=
  Nat.le_trans (Nat.mul_le_mul h R.byt) (by decide)
/-- append of a row -/
theorem Own.append {ops : Array Oper} {rest : List Oper} {o : Oper} {a : Act} {Q : Exit → Act → World → Prop} {w : World} (hgd : o.guard = none) (s x : Operand)
    (ho : o.op = .call { callee := .builtin .append, args := #[s, x], argTypes := #[R.tS, R.tS] }) {B : Nat} {v vx : Value} {xs : List α} (hown : R.Own B w v xs) (hs : a.eval s = v) (ys : List α)
    (hx : a.eval x = vx) (hz : R.App w vx ys) (hlen : xs.length + ys.length ≤ 1000000) (hbase : B ≤ w.heap.size)
    (h : ∀ v' w', R.Own B w' v' (xs ++ ys) → w.grownBy w' v.ownBlock → wpList Tryz.prog ops Q rest (a.put o.dst v') w') : wpList Tryz.prog ops Q (o :: rest) a w := by
  obtain ⟨i0, hi, hz0, hz1, hz2⟩ := info_parts R.info
  obtain ⟨ad, c, rfl, hc⟩ := hz
  refine wpList_append_own _ hgd s x R.tS ho B R.tE i0 R.zero R.k R.bytes R.under hi hz0 hz1 hz2 R.zlen R.k0 v xs.length (R.cells xs) hs hown ad ys.length c (R.cells ys) hx (R.cells_len ys) hc one_cells ?_ (byt_ok hlen) hbase ?_
  · unfold maxLen; omega
  · intro v' w' h1 h2 _
    refine h v' w' ?_ h2
    unfold Own
    rw [R.cells_append, List.length_append]
    exact h1
/-- the same inside a region -/
theorem Own.appendR {ops : Array Oper} {o : Oper} {a : Act} {K : Act → World → Prop} {Q : Exit → Act → World → Prop} {E : Prop} {w : World} (hgd : o.guard = none) (s x : Operand)
    (ho : o.op = .call { callee := .builtin .append, args := #[s, x], argTypes := #[R.tS, R.tS] }) {B : Nat} {v vx : Value} {xs : List α} (hown : R.Own B w v xs) (hs : a.eval s = v) (ys : List α)
    (hx : a.eval x = vx) (hz : R.App w vx ys) (hlen : xs.length + ys.length ≤ 1000000) (hbase : B ≤ w.heap.size)
    (h : ∀ v' w', R.Own B w' v' (xs ++ ys) → w.grownBy w' v.ownBlock → K (a.put o.dst v') w') :
    if Region.wanted o (yielded ops a.tmps) = true then Oper.wp Tryz.prog o a w K Q else E := by
  have hw : Region.wanted o (yielded ops a.tmps) = true := by simp [Region.wanted, hgd]
  rw [if_pos hw]
  obtain ⟨i0, hi, hz0, hz1, hz2⟩ := info_parts R.info
  obtain ⟨ad, c, rfl, hc⟩ := hz
  refine wp_append_own _ s x R.tS ho B R.tE i0 R.zero R.k R.bytes R.under hi hz0 hz1 hz2 R.zlen R.k0 v xs.length (R.cells xs) hs hown ad ys.length c (R.cells ys) hx (R.cells_len ys) hc one_cells ?_ (byt_ok hlen) hbase ?_
  · unfold maxLen; omega
  · intro v' w' h1 h2 _
    refine h v' w' ?_ h2
    unfold Own
    rw [R.cells_append, List.length_append]
    exact h1
variable (R)
/-- the call makes a row of its own, of these -/
def Made (xs : List α) (w : World) (e : Ending) (w' : World) : Prop := ∃ v, e = .returned v ∧ R.Own w.heap.size w' v xs ∧ Below w.heap.size w w'
variable {R}
theorem Made.mono {xs : List α} {w W : World} {e : Ending} {w' : World} (h : R.Made xs W e w') (hb : Below w.heap.size w W) : R.Made xs w e w' := by
  obtain ⟨v, h1, h2, h3⟩ := h
  exact ⟨v, h1, h2.mono hb.size, hb.trans (h3.mono hb.size)⟩
end
section
variable {α : Type} [Inhabited α] {R : RowKind α}
variable (R)
theorem cells_get : ∀ (xs : List α) (j : Nat) (hj : j < xs.length) (i : Nat) (hi : i < R.k), (R.cells xs)[j * R.k + i]? = (R.enc xs[j]!)[i]?
  | x :: xs, 0, _, i, hi => by
    simp only [cells, List.flatMap_cons, Nat.zero_mul, Nat.zero_add]
    rw [List.getElem?_append_left (by rw [R.len]; exact hi)]
    rfl
  | x :: xs, j + 1, hj, i, hi => by
    have h := cells_get xs j (by simpa using hj) i hi
    simp only [cells, List.flatMap_cons] at *
    rw [List.getElem?_append_right (by rw [R.len, Nat.add_mul]; omega), R.len, show (j + 1) * R.k + i - R.k = j * R.k + i by rw [Nat.add_mul]; omega, h]
    simp
/-- the cells from an address on hold these -/
def Row (w : World) (b off : Nat) (xs : List α) : Prop := ∀ j, j < xs.length → ∀ i u, (R.enc xs[j]!)[i]? = some u → w.cell? ⟨b, off + j * R.k + i, none⟩ = some u
/-- v is a slice of these -/
def Is (w : World) (v : Value) (xs : List α) : Prop :=
  (xs = [] ∧ ∃ p cap, v = .slice p 0 cap ∧ (p = none → cap = 0)) ∨ (xs ≠ [] ∧ ∃ b off cap, v = .slice (some ⟨b, off, none⟩) xs.length cap ∧ b < w.heap.size ∧ R.Row w b off xs)
variable {R}
theorem Row.below {w w' : World} {B b off : Nat} {xs : List α} (h : R.Row w b off xs) (hb : Below B w w') (hl : b < B) : R.Row w' b off xs :=
  fun j hj i u hu => by rw [hb.cell (p := ⟨b, off + j * R.k + i, none⟩) hl]; exact h j hj i u hu
theorem Is.below {w w' : World} {v : Value} {xs : List α} (h : R.Is w v xs) (hb : Below w.heap.size w w') : R.Is w' v xs := by
  rcases h with h | ⟨h, b, off, cap, e, hl, hr⟩
  · exact .inl h
  · exact .inr ⟨h, b, off, cap, e, Nat.lt_of_lt_of_le hl hb.size, hr.below hb hl⟩
theorem Is.slice {w : World} {v : Value} {xs : List α} (h : R.Is w v xs) : ∃ p cap, v = .slice p xs.length cap := by
  rcases h with ⟨h, p, cap, e, _⟩ | ⟨h, b, off, cap, e, _⟩
  · subst h; exact ⟨p, cap, e⟩
  · exact ⟨_, cap, e⟩
theorem Is.nil (w : World) : R.Is w (.slice none 0 0) [] := .inl ⟨rfl, none, 0, rfl, fun _ => rfl⟩
theorem Is.cut {w : World} {p : Option Addr} {n c : Nat} {xs : List α} (h : R.Is w (.slice p n c) xs) (m : Nat) (hm : m ≤ n) (h0 : m = 0 → n = 0) : R.Is w (.slice p m c) (xs.take m) := by
  rcases h with ⟨rfl, q, d, e, hq⟩ | ⟨hne, b, off, d, e, hb, hr⟩
  · simp only [Value.slice.injEq] at e
    obtain ⟨rfl, rfl, rfl⟩ := e
    obtain rfl : m = 0 := by omega
    exact .inl ⟨rfl, p, c, rfl, hq⟩
  · simp only [Value.slice.injEq] at e
    obtain ⟨rfl, e2, rfl⟩ := e
    have hl : 0 < xs.length := by cases xs with | nil => exact absurd rfl hne | cons => simp
    have hlen : (xs.take m).length = m := by rw [List.length_take]; omega
    refine .inr ⟨fun e => ?_, b, off, c, by rw [hlen], hb, ?_⟩
    · rw [e] at hlen
      simp at hlen
      omega
    · intro j hj i u hu
      rw [hlen] at hj
      have hg : (xs.take m)[j]! = xs[j]! := by
        rw [getElem!_pos (xs.take m) j (by omega), getElem!_pos xs j (by omega), List.getElem_take]
      rw [hg] at hu
      exact hr j (by omega) i u hu
/-- the tail of a row that lies in memory -/
theorem Row.tail {w : World} {b off : Nat} {x : α} {xs : List α} (h : R.Row w b off (x :: xs)) : R.Row w b (off + R.k) xs := by
  intro j hj i u hu
  have := h (j + 1) (by simpa using hj) i u (by simpa using hu)
  rw [show off + (j + 1) * R.k + i = off + R.k + j * R.k + i by rw [Nat.add_mul]; omega] at this
  exact this

theorem Own.is {B : Nat} {w : World} {v : Value} {xs : List α} (h : R.Own B w v xs) : R.Is w v xs := by
  obtain ⟨h1, h2⟩ := h
  rcases h2 with ⟨e, hn⟩ | ⟨g, cap, cur, e, hb, hg, hc, hm, hs, ht⟩
  · have : xs = [] := List.length_eq_zero_iff.1 hn
    subst this
    exact .inl ⟨rfl, none, 0, e, fun _ => rfl⟩
  · by_cases hx : xs = []
    · subst hx; exact .inl ⟨rfl, _, _, e, fun h => by cases h⟩
    · refine .inr ⟨hx, g, 0, cap, e, ?_, ?_⟩
      · exact (Array.getElem?_eq_some_iff.1 hg).1
      · intro j hj i u hu
        have hi : i < R.k := by have := (List.getElem?_eq_some_iff.1 hu).1; rw [R.len] at this; exact this
        have hk := R.cells_get xs j hj i hi
        rw [hu, ← ht] at hk
        rw [List.getElem?_take] at hk
        split at hk
        · unfold World.cell?
          simp only [hg, Nat.zero_add]
          simpa using hk
        · cases hk
/-- a row of one that was just made -/
theorem Row.new (w : World) (y : α) (t : TypeId) : R.Row (w.alloc (.cells (R.enc y).toArray t)) w.heap.size 0 [y] := by
  intro j hj i u hu
  have hj0 : j = 0 := by simpa using hj
  subst hj0
  simp at hu
  have hk : i < R.k := by have := (List.getElem?_eq_some_iff.1 hu).1; rw [R.len] at this; exact this
  unfold World.cell?
  rw [heap_alloc_new]
  simpa using hu
theorem Row.app {w : World} {b off c : Nat} {ys : List α} (hz : R.Row w b off ys) : R.App w (.slice (some ⟨b, off, none⟩) ys.length c) ys := by
  refine ⟨_, _, rfl, fun j u hu => ?_⟩
  have hk := R.k0
  have hj : j < ys.length * R.k := by have := (List.getElem?_eq_some_iff.1 hu).1; rw [R.cells_len] at this; exact this
  have e : j = j / R.k * R.k + j % R.k := by rw [Nat.mul_comm]; exact (Nat.div_add_mod j R.k).symm
  have hq : j / R.k < ys.length := Nat.div_lt_of_lt_mul (by rw [Nat.mul_comm]; exact hj)
  rw [e, R.cells_get ys _ hq _ (Nat.mod_lt _ hk)] at hu
  have := hz _ hq _ _ hu
  rw [show off + j / R.k * R.k + j % R.k = off + j by rw [Nat.add_assoc, ← e]] at this
  rw [Addr.add_lit]
  exact this
/-- append of one that was just made -/
theorem Own.push {ops : Array Oper} {rest : List Oper} {o : Oper} {a : Act} {Q : Exit → Act → World → Prop} {w0 w : World} {B : Nat} {v : Value} {xs : List α} {y : α} (hown : R.Own B w v xs) (hb : Below B w0 w) (hB : B ≤ w.heap.size)
    (hgd : o.guard = none) (s x : Operand) (ho : o.op = .call { callee := .builtin .append, args := #[s, x], argTypes := #[R.tS, R.tS] }) (hs : a.eval s = v) (t : TypeId)
    (hx : a.eval x = .slice (some ⟨w.heap.size, 0, none⟩) 1 1) (hlen : xs.length ≤ 900000) (h0 : B ≤ w0.heap.size)
    (h : ∀ v' w', R.Own B w' v' (xs ++ [y]) → Below B w0 w' → w.heap.size ≤ w'.heap.size → wpList Tryz.prog ops Q rest (a.put o.dst v') w') :
    wpList Tryz.prog ops Q (o :: rest) a (w.alloc (.cells (R.enc y).toArray t)) := by
  have hown' : R.Own B (w.alloc (.cells (R.enc y).toArray t)) v xs := hown.alloc _
  refine Own.append (R := R) hgd s x ho hown' hs [y] hx (Row.app (ys := [y]) (Row.new w y t)) (by simp; omega) (by simp; omega) ?_
  intro v' w' h1 h2
  have hlt := hown'.lt
  have hsz := h2.size
  refine h v' w' h1 ?_ (by simp at hsz; omega)
  exact (hb.alloc hB _).grown h2 (by simp; omega) (fun k hk => (hlt k hk).1)
theorem Own.pushR {ops : Array Oper} {o : Oper} {a : Act} {K : Act → World → Prop} {Q : Exit → Act → World → Prop} {E : Prop} {w0 w : World} {B : Nat} {v : Value} {xs : List α} {y : α} (hown : R.Own B w v xs) (hb : Below B w0 w) (hB : B ≤ w.heap.size)
    (hgd : o.guard = none) (s x : Operand) (ho : o.op = .call { callee := .builtin .append, args := #[s, x], argTypes := #[R.tS, R.tS] }) (hs : a.eval s = v) (t : TypeId)
    (hx : a.eval x = .slice (some ⟨w.heap.size, 0, none⟩) 1 1) (hlen : xs.length ≤ 900000)
    (h : ∀ v' w', R.Own B w' v' (xs ++ [y]) → Below B w0 w' → w.heap.size ≤ w'.heap.size → K (a.put o.dst v') w') :
    if Region.wanted o (yielded ops a.tmps) = true then Oper.wp Tryz.prog o a (w.alloc (.cells (R.enc y).toArray t)) K Q else E := by
  have hown' : R.Own B (w.alloc (.cells (R.enc y).toArray t)) v xs := hown.alloc _
  refine Own.appendR (R := R) hgd s x ho hown' hs [y] hx (Row.app (ys := [y]) (Row.new w y t)) (by simp; omega) (by simp; omega) ?_
  intro v' w' h1 h2
  have hlt := hown'.lt
  have hsz := h2.size
  refine h v' w' h1 ?_ (by simp at hsz; omega)
  exact (hb.alloc hB _).grown h2 (by simp; omega) (fun k hk => (hlt k hk).1)
/-- append of a slice, wherever it lies, nil too -/
theorem Own.appendAny {ops : Array Oper} {rest : List Oper} {o : Oper} {a : Act} {Q : Exit → Act → World → Prop} {w0 w : World} {B : Nat} {v vx : Value} {xs ys : List α} (hown : R.Own B w v xs) (hb : Below B w0 w) (hB : B ≤ w.heap.size)
    (hgd : o.guard = none) (s x : Operand) (ho : o.op = .call { callee := .builtin .append, args := #[s, x], argTypes := #[R.tS, R.tS] }) (hs : a.eval s = v)
    (hx : a.eval x = vx) (his : R.Is w vx ys) (hlen : xs.length + ys.length ≤ 1000000)
    (h : ∀ v' w', R.Own B w' v' (xs ++ ys) → Below B w0 w' → w.heap.size ≤ w'.heap.size → wpList Tryz.prog ops Q rest (a.put o.dst v') w') :
    wpList Tryz.prog ops Q (o :: rest) a w := by
  have hlt := hown.lt
  have fin : ∀ v' w', R.Own B w' v' (xs ++ ys) → w.grownBy w' v.ownBlock → wpList Tryz.prog ops Q rest (a.put o.dst v') w' := fun v' w' h1 h2 =>
    h v' w' h1 (hb.grown h2 hB (fun k hk => (hlt k hk).1)) h2.size
  rcases his with ⟨rfl, p, cap, rfl, hp⟩ | ⟨_, b, off, cap, rfl, _, hr⟩
  · cases p with
    | none =>
      obtain rfl := hp rfl
      obtain ⟨i0, hi, _⟩ := info_parts R.info
      refine wpList_append_own_none hgd s x R.tS ho B R.tE i0 R.k R.under hi v _ _ hs hown hx ?_
      exact h v w (by rw [List.append_nil]; exact hown) hb (Nat.le_refl _)
    | some ad =>
      refine Own.append (R := R) hgd s x ho hown hs [] hx ⟨ad, cap, rfl, fun j u hu => by simp [cells] at hu⟩ hlen hB fin
  · exact Own.append hgd s x ho hown hs ys hx hr.app hlen hB fin
variable (R)
/-- the call answers a row of these, made or not -/
def Gives (xs : List α) (w : World) (e : Ending) (w' : World) : Prop := ∃ v, e = .returned v ∧ R.Is w' v xs ∧ Below w.heap.size w w'
variable {R}
theorem Made.gives {xs : List α} {w : World} {e : Ending} {w' : World} (h : R.Made xs w e w') : R.Gives xs w e w' := by
  obtain ⟨v, h1, h2, h3⟩ := h
  exact ⟨v, h1, h2.is, h3⟩
end
end RowKind
theorem take_getA {α : Type} [Inhabited α] (xs : List α) (k : Nat) (hk : k < xs.length) : xs.take (k + 1) = xs.take k ++ [xs[k]!] := by
  rw [List.take_add_one, List.getElem?_eq_getElem hk]
  simp [hk]
end Go.Proofs.YthhceggcdaljdaaGreat
/- records (RV), records that are counted (IV), rows of them -/
namespace Go.Proofs.YthhceggcdaljdaaGreat
open Go.RowKit
set_option linter.unusedVariables false
set_option linter.unusedSimpArgs false

structure RV where
  k : Int
  v : Int
instance : Inhabited RV := ⟨⟨0, 0⟩⟩
instance : DecidableEq RV := fun a b =>
  if h : a.k = b.k ∧ a.v = b.v then .isTrue (by obtain ⟨h1, h2⟩ := h; cases a; cases b; simp only at h1 h2; subst h1; subst h2; rfl)
  else .isFalse fun e => h (by subst e; exact ⟨rfl, rfl⟩)
def RV.enc (r : RV) : List Value := [.int .i64 r.k, .int .i64 r.v]
abbrev RV.val (r : RV) : Value := .agg #[.int .i64 r.k, .int .i64 r.v]
structure IV where
  t : RV
  n : Int
instance : Inhabited IV := ⟨⟨default, 0⟩⟩
instance : DecidableEq IV := fun a b =>
  if h : a.t = b.t ∧ a.n = b.n then .isTrue (by obtain ⟨h1, h2⟩ := h; cases a; cases b; simp only at h1 h2; subst h1; subst h2; rfl)
  else .isFalse fun e => h (by subst e; exact ⟨rfl, rfl⟩)
def IV.enc (c : IV) : List Value := [.int .i64 c.t.k, .int .i64 c.t.v, .int .i64 c.n]
abbrev IV.val (c : IV) : Value := .agg #[.int .i64 c.t.k, .int .i64 c.t.v, .int .i64 c.n]
def RI : RowKind IV where
  enc := IV.enc
  k := 3
  k0 := by decide
  len := fun _ => rfl
  one := by
    intro c u hu
    simp [IV.enc] at hu
    rcases hu with rfl | rfl | rfl <;> rfl
  tE := 57
  tS := 37
  zero := .agg #[.int .i64 0, .int .i64 0, .int .i64 0]
  bytes := 24
  info := by kernel_rfl
  under := Tryz.underlying37
  zlen := rfl
  byt := by decide
def RR : RowKind RV where
  enc := RV.enc
  k := 2
  k0 := by decide
  len := fun _ => rfl
  one := by
    intro c u hu
    simp [RV.enc] at hu
    rcases hu with rfl | rfl <;> rfl
  tE := 27
  tS := 221
  zero := .agg #[.int .i64 0, .int .i64 0]
  bytes := 16
  info := by kernel_rfl
  under := Tryz.underlying221
  zlen := rfl
  byt := by decide
theorem atI {w : World} {b off : Nat} {xs : List IV} (h : RI.Row w b off xs) (j : Nat) (hj : j < xs.length) :
    w.cell? ⟨b, off + j * 3, none⟩ = some (.int .i64 xs[j]!.t.k) ∧ w.cell? ⟨b, off + j * 3 + 1, none⟩ = some (.int .i64 xs[j]!.t.v) ∧ w.cell? ⟨b, off + j * 3 + 2, none⟩ = some (.int .i64 xs[j]!.n) :=
  ⟨h j hj 0 _ rfl, h j hj 1 _ rfl, h j hj 2 _ rfl⟩
theorem atR {w : World} {b off : Nat} {xs : List RV} (h : RR.Row w b off xs) (j : Nat) (hj : j < xs.length) :
    w.cell? ⟨b, off + j * 2, none⟩ = some (.int .i64 xs[j]!.k) ∧ w.cell? ⟨b, off + j * 2 + 1, none⟩ = some (.int .i64 xs[j]!.v) :=
  ⟨h j hj 0 _ rfl, h j hj 1 _ rfl⟩
theorem ownCapK {α : Type} {R : RowKind α} {B : Nat} {w : World} {v : Value} {xs : List α} (h : R.Own B w v xs) : capOk v := by
  obtain ⟨_, ⟨rfl, _⟩ | ⟨g, cap, cur, rfl, _, _, hle, _⟩⟩ := h
  · intro p n c e; cases e; exact Nat.le_refl _
  · intro p n c e; cases e; exact hle

/- the order -/
def RV.lt (a b : RV) : Bool := decide (a.k < b.k) || (decide (a.k = b.k) && decide (a.v < b.v))
theorem RV.lt_iff (a b : RV) : a.lt b = true ↔ a.k < b.k ∨ (a.k = b.k ∧ a.v < b.v) := by simp [RV.lt]
theorem RV.lt_no (a b : RV) : a.lt b = false ↔ ¬ (a.k < b.k ∨ (a.k = b.k ∧ a.v < b.v)) := by rw [← RV.lt_iff]; simp
theorem RV.ext2 {a b : RV} (h1 : a.k = b.k) (h2 : a.v = b.v) : a = b := by cases a; cases b; simp only at h1 h2; subst h1; subst h2; rfl
theorem RV.lt_trans {a b c : RV} (h : a.lt b = true) (k : b.lt c = true) : a.lt c = true := by
  rw [RV.lt_iff] at *; omega
theorem RV.lt_irrefl (a : RV) : a.lt a = false := by rw [RV.lt_no]; omega
theorem RV.lt_asym {a b : RV} (h : a.lt b = true) : b.lt a = false := by rw [RV.lt_iff] at h; rw [RV.lt_no]; omega
theorem RV.tri {a b : RV} (h : a.lt b = false) (k : b.lt a = false) : a = b := by
  rw [RV.lt_no] at *
  exact RV.ext2 (by omega) (by omega)
def cmpZ (a b : Int) : Int := if a < b then -1 else if b < a then 1 else 0
def orZ (a b : Int) : Int := if a ≠ 0 then a else b
def cmpR (a b : RV) : Int := orZ (cmpZ a.k b.k) (cmpZ a.v b.v)
theorem cmpR_lt (a b : RV) : decide (cmpR a b < 0) = a.lt b := by
  rw [Bool.eq_iff_iff, decide_eq_true_eq, RV.lt_iff]
  unfold cmpR orZ cmpZ
  repeat' split
  all_goals omega
theorem cmpR_gt (a b : RV) : decide (0 < cmpR a b) = b.lt a := by
  rw [Bool.eq_iff_iff, decide_eq_true_eq, RV.lt_iff]
  unfold cmpR orZ cmpZ
  repeat' split
  all_goals omega
theorem cmpR_zero (a b : RV) : cmpR a b = 0 ↔ a = b := by
  constructor
  · intro h
    refine RV.tri ?_ ?_
    · rw [← cmpR_lt, h]; rfl
    · rw [← cmpR_gt, h]; rfl
  · intro h
    subst h
    unfold cmpR orZ cmpZ
    simp
end Go.Proofs.YthhceggcdaljdaaGreat
/- records held against each other: cmp.Compare, cmp.Or, bag.compare, bag.Less -/
namespace Go.Proofs.YthhceggcdaljdaaGreat
open Go.RowKit
set_option linter.unusedVariables false
set_option linter.unusedSimpArgs false

theorem nan_any (a : Int) (w : World) : Calls Tryz.prog 219 #[.int .i64 a] w (RetW (.bool false) w) := by
  go_enter Tryz.func219, Tryz.ntmps219
  go_wp2
  go_returns
  exact ⟨by simp, rfl⟩
theorem compareZ_any (a b : Int) (w : World) : Calls Tryz.prog 180 #[.int .i64 a, .int .i64 b] w (RetW (.int .i64 (cmpZ a b)) w) := by
  have HA := Lib.hid (fun W => nan_any a W)
  have HB := Lib.hid (fun W => nan_any b W)
  by_cases h1 : a < b
  · have hc : cmpZ a b = -1 := by unfold cmpZ; rw [if_pos h1]
    rw [hc]; clear hc
    go_enter Tryz.func180, Tryz.ntmps180
    go_wp2_with fail
    refine (HA.out _).mono ?_
    rintro e w1 ⟨rfl, rfl⟩
    go_wp2_with fail
    refine (HB.out _).mono ?_
    rintro e w1 ⟨rfl, rfl⟩
    go_wp2
    go_returns
    exact ⟨rfl, rfl⟩
  · by_cases h2 : b < a
    · have hc : cmpZ a b = 1 := by unfold cmpZ; rw [if_neg h1, if_pos h2]
      rw [hc]; clear hc
      go_enter Tryz.func180, Tryz.ntmps180
      go_wp2_with fail
      refine (HA.out _).mono ?_
      rintro e w1 ⟨rfl, rfl⟩
      go_wp2_with fail
      refine (HB.out _).mono ?_
      rintro e w1 ⟨rfl, rfl⟩
      go_wp2
      go_returns
      exact ⟨rfl, rfl⟩
    · have hc : cmpZ a b = 0 := by unfold cmpZ; rw [if_neg h1, if_neg h2]
      rw [hc]; clear hc
      go_enter Tryz.func180, Tryz.ntmps180
      go_wp2_with fail
      refine (HA.out _).mono ?_
      rintro e w1 ⟨rfl, rfl⟩
      go_wp2_with fail
      refine (HB.out _).mono ?_
      rintro e w1 ⟨rfl, rfl⟩
      go_wp2
      go_returns
      exact ⟨rfl, rfl⟩
theorem or_any (a b : Int) (g : Nat) (w : World) (h0 : w.cell? ⟨g, 0, none⟩ = some (.int .i64 a)) (h1 : w.cell? ⟨g, 1, none⟩ = some (.int .i64 b)) :
    Calls Tryz.prog 170 #[.slice (some ⟨g, 0, none⟩) 2 2] w (RetW (.int .i64 (orZ a b)) w) := by
  by_cases ha : a = 0
  · have hab : (a != 0) = false := by simp [ha]
    rw [show orZ a b = b from if_neg (by simpa using ha)]
    by_cases hb : b = 0
    · have hbb : (b != 0) = false := by simp [hb]
      clear ha
      subst hb
      clear hbb
      go_enter Tryz.func170, Tryz.ntmps170
      go_wp2
      refine wp_loop_rounds 3 ?_
      rw [rounds_succ]
      go_wp2
      rw [rounds_succ]
      go_wp2
      rw [rounds_succ]
      go_wp2
      go_returns
      exact ⟨rfl, rfl⟩
    · have hbb : (b != 0) = true := by simp [hb]
      clear ha hb
      go_enter Tryz.func170, Tryz.ntmps170
      go_wp2
      refine wp_loop_rounds 3 ?_
      rw [rounds_succ]
      go_wp2
      rw [rounds_succ]
      go_wp2
      go_returns
      exact ⟨rfl, rfl⟩
  · have hab : (a != 0) = true := by simp [ha]
    rw [show orZ a b = a from if_pos (by simpa using ha)]
    clear ha
    go_enter Tryz.func170, Tryz.ntmps170
    go_wp2
    refine wp_loop_rounds 3 ?_
    rw [rounds_succ]
    go_wp2
    go_returns
    exact ⟨rfl, rfl⟩
set_option maxHeartbeats 1000000 in
theorem bcompare_any (a b : RV) (w : World) : Calls Tryz.prog 135 #[a.val, b.val] w (RetD (.int .i64 (cmpR a b)) w) := by
  obtain ⟨k1, v1⟩ := a
  obtain ⟨k2, v2⟩ := b
  show Calls _ _ #[.agg #[.int .i64 k1, .int .i64 v1], .agg #[.int .i64 k2, .int .i64 v2]] _ (RetD (.int .i64 (orZ (cmpZ k1 k2) (cmpZ v1 v2))) w)
  have HC := Lib.hid (fun x y W => compareZ_any x y W)
  have HO := Lib.hid (fun x y (W : World) (t : TypeId) => or_any x y W.heap.size (W.alloc (.cells #[.int .i64 x, .int .i64 y] t)).drew (by show (W.alloc _).cell? _ = _; simp) (by show (W.alloc _).cell? _ = _; simp))
  go_enter Tryz.func135, Tryz.ntmps135
  go_wp2_with fail
  refine gen_world (fun W2 => Below w.heap.size w W2 ∧ w.drawn ≤ W2.drawn ∧ w.heap.size + 1 < W2.heap.size ∧ W2.cell? ⟨w.heap.size, 0, none⟩ = some (.int .i64 k1) ∧ W2.cell? ⟨w.heap.size, 1, none⟩ = some (.int .i64 v1) ∧ W2.cell? ⟨w.heap.size + 1, 0, none⟩ = some (.int .i64 k2) ∧ W2.cell? ⟨w.heap.size + 1, 1, none⟩ = some (.int .i64 v2)) ⟨by repeat' (first | (with_reducible first | exact Below.refl _ _ | apply Below.drew | apply Below.alloc) | (simp; done) | (simp; omega)), by simp only [drawn_alloc]; omega, by simp, by go_cell, by go_cell, by go_cell, by go_cell⟩ ?_
  rintro w2 ⟨hB, hD, hz, p0, p1, q0, q1⟩
  have D0 : w.heap.size ≠ w2.heap.size := by omega
  have D1 : w.heap.size + 1 ≠ w2.heap.size := by omega
  have hz0 := hB.size
  have HB := Lib.hid hB
  clear hB
  go_wp2_with fail
  go_region_held_law (fun w' => w'.cell? ⟨w.heap.size, 0, none⟩ = some (.int .i64 k1) ∧ w'.cell? ⟨w.heap.size, 1, none⟩ = some (.int .i64 v1) ∧ w'.cell? ⟨w.heap.size + 1, 0, none⟩ = some (.int .i64 k2) ∧ w'.cell? ⟨w.heap.size + 1, 1, none⟩ = some (.int .i64 v2)) (first | assumption | go_keep) (first
    | (go_at_call 180; refine (HC.out _ _ _).mono ?_; rintro e w' ⟨rfl, rfl⟩)
    | (go_at_call 170; refine (HO.out _ _ _ _).mono ?_; rintro e w' ⟨rfl, rfl⟩))
  all_goals
    try simp only [List.getElem_toArray, List.getElem_cons_succ, List.getElem_cons_zero, Act.put, List.setIfInBounds_toArray, List.set_cons_zero, List.set_cons_succ]
    go_wp2
    go_returns
    exact ⟨rfl, by repeat' (first | (with_reducible first | exact HB.out | exact hz0 | apply Below.drew | apply Below.alloc)), by simp only [drawn_alloc, drawn_drew]; omega⟩
theorem bless_any (a b : RV) (w : World) : Calls Tryz.prog 134 #[a.val, b.val] w (Ret (.bool (a.lt b)) w) := by
  have H : Hid (∀ W, Calls Tryz.prog 135 #[.agg #[.int .i64 a.k, .int .i64 a.v], .agg #[.int .i64 b.k, .int .i64 b.v]] W (Ret (.int .i64 (cmpR a b)) W)) := fun W => (bcompare_any a b W).mono fun _ _ h => h.ret
  have hc := (cmpR_lt a b).symm
  generalize cmpR a b = r at *
  generalize a.lt b = q at *
  have HC := Lib.hid hc
  clear hc
  show Calls _ _ #[.agg #[.int .i64 a.k, .int .i64 a.v], .agg #[.int .i64 b.k, .int .i64 b.v]] _ _
  go_enter Tryz.func134, Tryz.ntmps134
  go_wp2_with fail
  refine (H.out _).mono ?_
  rintro e w1 ⟨rfl, hb1⟩
  have hB : Below w.heap.size w w1 := bcall (by repeat' first | exact Below.refl _ _ | (apply Below.alloc) | (simp; done)) hb1 (by simp; omega)
  have HB := Lib.hid hB
  clear hb1
  go_wp2
  go_returns
  exact ⟨ret_bool HC.out.symm, HB.out⟩
end Go.Proofs.YthhceggcdaljdaaGreat
