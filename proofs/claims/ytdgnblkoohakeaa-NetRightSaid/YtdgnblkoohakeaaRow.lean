/- rows of anything: slices that are read (Is), that a call has made itself (Own), answers that are such (Made); for any element type whose cells are told once (RowKind) -/
import Derived.Test.YtdgnblkoohakeaaBase
import Derived.Deep.OwnRows
import Derived.Laws.AppendOwnNone
import Derived.Deep.Light
namespace Go.Proofs.Ytdgnblkoohakeaa
open Go.RowKit
set_option linter.unusedVariables false
set_option linter.unusedSimpArgs false

structure RowKind (α : Type) where
  enc : α → List Value
  k : Nat
  k0 : 0 < k
  len : ∀ a, (enc a).length = k
  one : ∀ a, ∀ u ∈ enc a, u.oneCell' = true
  tE : TypeId
  tS : TypeId
  zero : Value
  bytes : Nat
  info : (Try.prog.info? tE).map (fun i => (i.zero, i.size, i.bytes)) = some (some zero, k, bytes)
  under : Try.prog.underlying tS = some (.slice tE)
  zlen : zero.cells.size = k
  byt : bytes ≤ 1000
namespace RowKind
section
variable {α : Type} {R : RowKind α}
variable (R)
def cells (xs : List α) : List Value := xs.flatMap R.enc
theorem cells_nil : R.cells [] = [] := rfl
theorem cells_append (xs ys : List α) : R.cells (xs ++ ys) = R.cells xs ++ R.cells ys := by simp [cells]
theorem cells_len : ∀ xs : List α, (R.cells xs).length = xs.length * R.k
  | [] => by simp [cells]
  | x :: xs => by
    have h := cells_len xs
    unfold cells at *
    rw [List.flatMap_cons, List.length_append, R.len, h, List.length_cons, Nat.add_mul, Nat.one_mul, Nat.add_comm]
/-- v is a slice of the call's own (nil, or in a block from B on) with these -/
def Own (B : Nat) (w : World) (v : Value) (xs : List α) : Prop := w.ownsRow B R.tE R.k v xs.length (R.cells xs)
theorem Own.nil (B : Nat) (w : World) : R.Own B w (.slice none 0 0) [] := ⟨by simp [cells], .inl ⟨rfl, rfl⟩⟩
variable {R}
theorem Own.below {B : Nat} {w w' : World} {v : Value} {xs : List α} (h : R.Own B w v xs) (hb : Below w.heap.size w w') : R.Own B w' v xs := by
  obtain ⟨h1, h2⟩ := h
  refine ⟨h1, ?_⟩
  rcases h2 with h2 | ⟨g, cap, cur, e, hB, hg, rest⟩
  · exact .inl h2
  · exact .inr ⟨g, cap, cur, e, hB, (hb.block g (Array.getElem?_eq_some_iff.1 hg).1).trans hg, rest⟩
theorem Own.mono {B B' : Nat} {w : World} {v : Value} {xs : List α} (h : R.Own B w v xs) (hb : B' ≤ B) : R.Own B' w v xs := by
  obtain ⟨h1, h2⟩ := h
  refine ⟨h1, ?_⟩
  rcases h2 with h2 | ⟨g, cap, cur, e, hB, rest⟩
  · exact .inl h2
  · exact .inr ⟨g, cap, cur, e, Nat.le_trans hb hB, rest⟩
theorem Own.alloc {B : Nat} {w : World} {v : Value} {xs : List α} (h : R.Own B w v xs) (o : Obj) : R.Own B (w.alloc o) v xs := World.ownsRow.alloc h o
theorem Own.drew {B : Nat} {w : World} {v : Value} {xs : List α} (h : R.Own B w v xs) : R.Own B w.drew v xs := h
theorem Own.lt {B : Nat} {w : World} {v : Value} {xs : List α} (h : R.Own B w v xs) : ∀ k, v.ownBlock = some k → B ≤ k ∧ k < w.heap.size := World.ownsRow.lt h
variable (R)
/-- what append of a row wants -/
def App (w : World) (vx : Value) (ys : List α) : Prop := ∃ ad c, vx = .slice (some ad) ys.length c ∧ ∀ j u, (R.cells ys)[j]? = some u → w.cell? (ad.add j) = some u
variable {R}
theorem one_cells {xs : List α} : ∀ u ∈ R.cells xs, u.oneCell' = true := by
  intro u hu
  obtain ⟨y, _, hy⟩ := List.mem_flatMap.1 hu
  exact R.one y u hy
theorem byt_ok {n : Nat} (h : n ≤ 1000000) : n * R.bytes ≤ 140737488355328 :=
  Nat.le_trans (Nat.mul_le_mul h R.byt) (by decide)
/-- append of a row -/
theorem Own.append {ops : Array Oper} {rest : List Oper} {o : Oper} {a : Act} {Q : Exit → Act → World → Prop} {w : World} (hgd : o.guard = none) (s x : Operand)
    (ho : o.op = .call { callee := .builtin .append, args := #[s, x], argTypes := #[R.tS, R.tS] }) {B : Nat} {v vx : Value} {xs : List α} (hown : R.Own B w v xs) (hs : a.eval s = v) (ys : List α)
    (hx : a.eval x = vx) (hz : R.App w vx ys) (hlen : xs.length + ys.length ≤ 1000000) (hbase : B ≤ w.heap.size)
    (h : ∀ v' w', R.Own B w' v' (xs ++ ys) → w.grownBy w' v.ownBlock → wpList Try.prog ops Q rest (a.put o.dst v') w') : wpList Try.prog ops Q (o :: rest) a w := by
  obtain ⟨i0, hi, hz0, hz1, hz2⟩ := info_parts R.info
  obtain ⟨ad, c, rfl, hc⟩ := hz
  refine wpList_append_own _ hgd s x R.tS ho B R.tE i0 R.zero R.k R.bytes R.under hi hz0 hz1 hz2 R.zlen R.k0 v xs.length (R.cells xs) hs hown ad ys.length c (R.cells ys) hx (R.cells_len ys) hc one_cells ?_ (byt_ok hlen) hbase ?_
  · unfold maxLen; omega
  · intro v' w' h1 h2 _
    refine h v' w' ?_ h2
    unfold Own
    rw [R.cells_append, List.length_append]
    exact h1
/-- the same inside a region -/
theorem Own.appendR {ops : Array Oper} {o : Oper} {a : Act} {K : Act → World → Prop} {Q : Exit → Act → World → Prop} {E : Prop} {w : World} (hgd : o.guard = none) (s x : Operand)
    (ho : o.op = .call { callee := .builtin .append, args := #[s, x], argTypes := #[R.tS, R.tS] }) {B : Nat} {v vx : Value} {xs : List α} (hown : R.Own B w v xs) (hs : a.eval s = v) (ys : List α)
    (hx : a.eval x = vx) (hz : R.App w vx ys) (hlen : xs.length + ys.length ≤ 1000000) (hbase : B ≤ w.heap.size)
    (h : ∀ v' w', R.Own B w' v' (xs ++ ys) → w.grownBy w' v.ownBlock → K (a.put o.dst v') w') :
    if Region.wanted o (yielded ops a.tmps) = true then Oper.wp Try.prog o a w K Q else E := by
  have hw : Region.wanted o (yielded ops a.tmps) = true := by simp [Region.wanted, hgd]
  rw [if_pos hw]
  obtain ⟨i0, hi, hz0, hz1, hz2⟩ := info_parts R.info
  obtain ⟨ad, c, rfl, hc⟩ := hz
  refine wp_append_own _ s x R.tS ho B R.tE i0 R.zero R.k R.bytes R.under hi hz0 hz1 hz2 R.zlen R.k0 v xs.length (R.cells xs) hs hown ad ys.length c (R.cells ys) hx (R.cells_len ys) hc one_cells ?_ (byt_ok hlen) hbase ?_
  · unfold maxLen; omega
  · intro v' w' h1 h2 _
    refine h v' w' ?_ h2
    unfold Own
    rw [R.cells_append, List.length_append]
    exact h1
variable (R)
/-- the call makes a row of its own, of these -/
def Made (xs : List α) (w : World) (e : Ending) (w' : World) : Prop := ∃ v, e = .returned v ∧ R.Own w.heap.size w' v xs ∧ Below w.heap.size w w'
variable {R}
theorem Made.mono {xs : List α} {w W : World} {e : Ending} {w' : World} (h : R.Made xs W e w') (hb : Below w.heap.size w W) : R.Made xs w e w' := by
  obtain ⟨v, h1, h2, h3⟩ := h
  exact ⟨v, h1, h2.mono hb.size, hb.trans (h3.mono hb.size)⟩
end
section
variable {α : Type} [Inhabited α] {R : RowKind α}
variable (R)
theorem cells_get : ∀ (xs : List α) (j : Nat) (hj : j < xs.length) (i : Nat) (hi : i < R.k), (R.cells xs)[j * R.k + i]? = (R.enc xs[j]!)[i]?
  | x :: xs, 0, _, i, hi => by
    simp only [cells, List.flatMap_cons, Nat.zero_mul, Nat.zero_add]
    rw [List.getElem?_append_left (by rw [R.len]; exact hi)]
    rfl
  | x :: xs, j + 1, hj, i, hi => by
    have h := cells_get xs j (by simpa using hj) i hi
    simp only [cells, List.flatMap_cons] at *
    rw [List.getElem?_append_right (by rw [R.len, Nat.add_mul]; omega), R.len, show (j + 1) * R.k + i - R.k = j * R.k + i by rw [Nat.add_mul]; omega, h]
    simp
/-- the cells from an address on hold these -/
def Row (w : World) (b off : Nat) (xs : List α) : Prop := ∀ j, j < xs.length → ∀ i u, (R.enc xs[j]!)[i]? = some u → w.cell? ⟨b, off + j * R.k + i, none⟩ = some u
/-- v is a slice of these -/
def Is (w : World) (v : Value) (xs : List α) : Prop :=
  (xs = [] ∧ ∃ p cap, v = .slice p 0 cap ∧ (p = none → cap = 0)) ∨ (xs ≠ [] ∧ ∃ b off cap, v = .slice (some ⟨b, off, none⟩) xs.length cap ∧ b < w.heap.size ∧ R.Row w b off xs)
variable {R}
theorem Row.below {w w' : World} {B b off : Nat} {xs : List α} (h : R.Row w b off xs) (hb : Below B w w') (hl : b < B) : R.Row w' b off xs :=
  fun j hj i u hu => by rw [hb.cell (p := ⟨b, off + j * R.k + i, none⟩) hl]; exact h j hj i u hu
theorem Is.below {w w' : World} {v : Value} {xs : List α} (h : R.Is w v xs) (hb : Below w.heap.size w w') : R.Is w' v xs := by
  rcases h with h | ⟨h, b, off, cap, e, hl, hr⟩
  · exact .inl h
  · exact .inr ⟨h, b, off, cap, e, Nat.lt_of_lt_of_le hl hb.size, hr.below hb hl⟩
theorem Is.slice {w : World} {v : Value} {xs : List α} (h : R.Is w v xs) : ∃ p cap, v = .slice p xs.length cap := by
  rcases h with ⟨h, p, cap, e, _⟩ | ⟨h, b, off, cap, e, _⟩
  · subst h; exact ⟨p, cap, e⟩
  · exact ⟨_, cap, e⟩
theorem Is.nil (w : World) : R.Is w (.slice none 0 0) [] := .inl ⟨rfl, none, 0, rfl, fun _ => rfl⟩
theorem Is.cut {w : World} {p : Option Addr} {n c : Nat} {xs : List α} (h : R.Is w (.slice p n c) xs) (m : Nat) (hm : m ≤ n) (h0 : m = 0 → n = 0) : R.Is w (.slice p m c) (xs.take m) := by
  rcases h with ⟨rfl, q, d, e, hq⟩ | ⟨hne, b, off, d, e, hb, hr⟩
  · simp only [Value.slice.injEq] at e
    obtain ⟨rfl, rfl, rfl⟩ := e
    obtain rfl : m = 0 := by omega
    exact .inl ⟨rfl, p, c, rfl, hq⟩
  · simp only [Value.slice.injEq] at e
    obtain ⟨rfl, e2, rfl⟩ := e
    have hl : 0 < xs.length := by cases xs with | nil => exact absurd rfl hne | cons => simp
    have hlen : (xs.take m).length = m := by rw [List.length_take]; omega
    refine .inr ⟨fun e => ?_, b, off, c, by rw [hlen], hb, ?_⟩
    · rw [e] at hlen
      simp at hlen
      omega
    · intro j hj i u hu
      rw [hlen] at hj
      have hg : (xs.take m)[j]! = xs[j]! := by
        rw [getElem!_pos (xs.take m) j (by omega), getElem!_pos xs j (by omega), List.getElem_take]
      rw [hg] at hu
      exact hr j (by omega) i u hu
/-- the tail of a row that lies in memory -/
theorem Row.tail {w : World} {b off : Nat} {x : α} {xs : List α} (h : R.Row w b off (x :: xs)) : R.Row w b (off + R.k) xs := by
  intro j hj i u hu
  have := h (j + 1) (by simpa using hj) i u (by simpa using hu)
  rw [show off + (j + 1) * R.k + i = off + R.k + j * R.k + i by rw [Nat.add_mul]; omega] at this
  exact this

theorem Own.is {B : Nat} {w : World} {v : Value} {xs : List α} (h : R.Own B w v xs) : R.Is w v xs := by
  obtain ⟨h1, h2⟩ := h
  rcases h2 with ⟨e, hn⟩ | ⟨g, cap, cur, e, hb, hg, hc, hm, hs, ht⟩
  · have : xs = [] := List.length_eq_zero_iff.1 hn
    subst this
    exact .inl ⟨rfl, none, 0, e, fun _ => rfl⟩
  · by_cases hx : xs = []
    · subst hx; exact .inl ⟨rfl, _, _, e, fun h => by cases h⟩
    · refine .inr ⟨hx, g, 0, cap, e, ?_, ?_⟩
      · exact (Array.getElem?_eq_some_iff.1 hg).1
      · intro j hj i u hu
        have hi : i < R.k := by have := (List.getElem?_eq_some_iff.1 hu).1; rw [R.len] at this; exact this
        have hk := R.cells_get xs j hj i hi
        rw [hu, ← ht] at hk
        rw [List.getElem?_take] at hk
        split at hk
        · unfold World.cell?
          simp only [hg, Nat.zero_add]
          simpa using hk
        · cases hk
/-- a row of one that was just made -/
theorem Row.new (w : World) (y : α) (t : TypeId) : R.Row (w.alloc (.cells (R.enc y).toArray t)) w.heap.size 0 [y] := by
  intro j hj i u hu
  have hj0 : j = 0 := by simpa using hj
  subst hj0
  simp at hu
  have hk : i < R.k := by have := (List.getElem?_eq_some_iff.1 hu).1; rw [R.len] at this; exact this
  unfold World.cell?
  rw [heap_alloc_new]
  simpa using hu
theorem Row.app {w : World} {b off c : Nat} {ys : List α} (hz : R.Row w b off ys) : R.App w (.slice (some ⟨b, off, none⟩) ys.length c) ys := by
  refine ⟨_, _, rfl, fun j u hu => ?_⟩
  have hk := R.k0
  have hj : j < ys.length * R.k := by have := (List.getElem?_eq_some_iff.1 hu).1; rw [R.cells_len] at this; exact this
  have e : j = j / R.k * R.k + j % R.k := by rw [Nat.mul_comm]; exact (Nat.div_add_mod j R.k).symm
  have hq : j / R.k < ys.length := Nat.div_lt_of_lt_mul (by rw [Nat.mul_comm]; exact hj)
  rw [e, R.cells_get ys _ hq _ (Nat.mod_lt _ hk)] at hu
  have := hz _ hq _ _ hu
  rw [show off + j / R.k * R.k + j % R.k = off + j by rw [Nat.add_assoc, ← e]] at this
  rw [Addr.add_lit]
  exact this
/-- append of one that was just made -/
theorem Own.push {ops : Array Oper} {rest : List Oper} {o : Oper} {a : Act} {Q : Exit → Act → World → Prop} {w0 w : World} {B : Nat} {v : Value} {xs : List α} {y : α} (hown : R.Own B w v xs) (hb : Below B w0 w) (hB : B ≤ w.heap.size)
    (hgd : o.guard = none) (s x : Operand) (ho : o.op = .call { callee := .builtin .append, args := #[s, x], argTypes := #[R.tS, R.tS] }) (hs : a.eval s = v) (t : TypeId)
    (hx : a.eval x = .slice (some ⟨w.heap.size, 0, none⟩) 1 1) (hlen : xs.length ≤ 900000) (h0 : B ≤ w0.heap.size)
    (h : ∀ v' w', R.Own B w' v' (xs ++ [y]) → Below B w0 w' → w.heap.size ≤ w'.heap.size → wpList Try.prog ops Q rest (a.put o.dst v') w') :
    wpList Try.prog ops Q (o :: rest) a (w.alloc (.cells (R.enc y).toArray t)) := by
  have hown' : R.Own B (w.alloc (.cells (R.enc y).toArray t)) v xs := hown.alloc _
  refine Own.append (R := R) hgd s x ho hown' hs [y] hx (Row.app (ys := [y]) (Row.new w y t)) (by simp; omega) (by simp; omega) ?_
  intro v' w' h1 h2
  have hlt := hown'.lt
  have hsz := h2.size
  refine h v' w' h1 ?_ (by simp at hsz; omega)
  exact (hb.alloc hB _).grown h2 (by simp; omega) (fun k hk => (hlt k hk).1)
theorem Own.pushR {ops : Array Oper} {o : Oper} {a : Act} {K : Act → World → Prop} {Q : Exit → Act → World → Prop} {E : Prop} {w0 w : World} {B : Nat} {v : Value} {xs : List α} {y : α} (hown : R.Own B w v xs) (hb : Below B w0 w) (hB : B ≤ w.heap.size)
    (hgd : o.guard = none) (s x : Operand) (ho : o.op = .call { callee := .builtin .append, args := #[s, x], argTypes := #[R.tS, R.tS] }) (hs : a.eval s = v) (t : TypeId)
    (hx : a.eval x = .slice (some ⟨w.heap.size, 0, none⟩) 1 1) (hlen : xs.length ≤ 900000)
    (h : ∀ v' w', R.Own B w' v' (xs ++ [y]) → Below B w0 w' → w.heap.size ≤ w'.heap.size → K (a.put o.dst v') w') :
    if Region.wanted o (yielded ops a.tmps) = true then Oper.wp Try.prog o a (w.alloc (.cells (R.enc y).toArray t)) K Q else E := by
  have hown' : R.Own B (w.alloc (.cells (R.enc y).toArray t)) v xs := hown.alloc _
  refine Own.appendR (R := R) hgd s x ho hown' hs [y] hx (Row.app (ys := [y]) (Row.new w y t)) (by simp; omega) (by simp; omega) ?_
  intro v' w' h1 h2
  have hlt := hown'.lt
  have hsz := h2.size
  refine h v' w' h1 ?_ (by simp at hsz; omega)
  exact (hb.alloc hB _).grown h2 (by simp; omega) (fun k hk => (hlt k hk).1)
/-- append of a slice, wherever it lies, nil too -/
theorem Own.appendAny {ops : Array Oper} {rest : List Oper} {o : Oper} {a : Act} {Q : Exit → Act → World → Prop} {w0 w : World} {B : Nat} {v vx : Value} {xs ys : List α} (hown : R.Own B w v xs) (hb : Below B w0 w) (hB : B ≤ w.heap.size)
    (hgd : o.guard = none) (s x : Operand) (ho : o.op = .call { callee := .builtin .append, args := #[s, x], argTypes := #[R.tS, R.tS] }) (hs : a.eval s = v)
    (hx : a.eval x = vx) (his : R.Is w vx ys) (hlen : xs.length + ys.length ≤ 1000000)
    (h : ∀ v' w', R.Own B w' v' (xs ++ ys) → Below B w0 w' → w.heap.size ≤ w'.heap.size → wpList Try.prog ops Q rest (a.put o.dst v') w') :
    wpList Try.prog ops Q (o :: rest) a w := by
  have hlt := hown.lt
  have fin : ∀ v' w', R.Own B w' v' (xs ++ ys) → w.grownBy w' v.ownBlock → wpList Try.prog ops Q rest (a.put o.dst v') w' := fun v' w' h1 h2 =>
    h v' w' h1 (hb.grown h2 hB (fun k hk => (hlt k hk).1)) h2.size
  rcases his with ⟨rfl, p, cap, rfl, hp⟩ | ⟨_, b, off, cap, rfl, _, hr⟩
  · cases p with
    | none =>
      obtain rfl := hp rfl
      obtain ⟨i0, hi, _⟩ := info_parts R.info
      refine wpList_append_own_none hgd s x R.tS ho B R.tE i0 R.k R.under hi v _ _ hs hown hx ?_
      exact h v w (by rw [List.append_nil]; exact hown) hb (Nat.le_refl _)
    | some ad =>
      refine Own.append (R := R) hgd s x ho hown hs [] hx ⟨ad, cap, rfl, fun j u hu => by simp [cells] at hu⟩ hlen hB fin
  · exact Own.append hgd s x ho hown hs ys hx hr.app hlen hB fin
variable (R)
/-- the call answers a row of these, made or not -/
def Gives (xs : List α) (w : World) (e : Ending) (w' : World) : Prop := ∃ v, e = .returned v ∧ R.Is w' v xs ∧ Below w.heap.size w w'
variable {R}
theorem Made.gives {xs : List α} {w : World} {e : Ending} {w' : World} (h : R.Made xs w e w') : R.Gives xs w e w' := by
  obtain ⟨v, h1, h2, h3⟩ := h
  exact ⟨v, h1, h2.is, h3⟩
end
end RowKind
theorem take_getA {α : Type} [Inhabited α] (xs : List α) (k : Nat) (hk : k < xs.length) : xs.take (k + 1) = xs.take k ++ [xs[k]!] := by
  rw [List.take_add_one, List.getElem?_eq_getElem hk]
  simp [hk]
end Go.Proofs.Ytdgnblkoohakeaa
