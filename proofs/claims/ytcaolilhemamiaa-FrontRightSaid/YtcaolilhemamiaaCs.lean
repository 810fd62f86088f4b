import Derived.Test.YtcaolilhemamiaaCq
import Derived.Deep.OwnRows
import Derived.Laws.AppendOwnNone
namespace Go.Proofs.Ytcaolilhemamiaa
open Go.RowKit
set_option linter.unusedVariables false
set_option linter.unusedSimpArgs false

/- slices of timestamps: read (IsT), made by the call itself (OwnT) -/
instance : Inhabited TV := ⟨⟨1, 0, 0, 0, 0⟩⟩
def TV.enc (t : TV) : List Value := [.int .i64 t.d, .int .i64 t.c0, .int .i64 t.c1, .int .i64 t.c2, .int .i64 t.c3]
theorem enc_len (t : TV) : t.enc.length = 5 := rfl
theorem enc_one (t : TV) : ∀ u ∈ t.enc, u.oneCell' = true := by
  intro u hu
  simp [TV.enc] at hu
  rcases hu with rfl | rfl | rfl | rfl | rfl <;> rfl
theorem enc_val (t : TV) : Value.agg t.enc.toArray = t.val := rfl
def cellsT (xs : List TV) : List Value := xs.flatMap TV.enc
theorem cellsT_nil : cellsT [] = [] := rfl
theorem cellsT_append (xs ys : List TV) : cellsT (xs ++ ys) = cellsT xs ++ cellsT ys := by simp [cellsT]
theorem cellsT_len : ∀ xs : List TV, (cellsT xs).length = xs.length * 5
  | [] => rfl
  | x :: xs => by
    have := cellsT_len xs
    simp only [cellsT, List.flatMap_cons, List.length_append, enc_len, List.length_cons] at *
    omega
theorem cellsT_get : ∀ (xs : List TV) (j : Nat) (hj : j < xs.length) (i : Nat) (hi : i < 5), (cellsT xs)[j * 5 + i]? = (xs[j]!.enc)[i]?
  | x :: xs, 0, _, i, hi => by
    simp only [cellsT, List.flatMap_cons, Nat.zero_mul, Nat.zero_add]
    rw [List.getElem?_append_left (by rw [enc_len]; exact hi)]
    rfl
  | x :: xs, j + 1, hj, i, hi => by
    have h := cellsT_get xs j (by simpa using hj) i hi
    simp only [cellsT, List.flatMap_cons] at *
    rw [List.getElem?_append_right (by rw [enc_len]; omega), enc_len, show (j + 1) * 5 + i - 5 = j * 5 + i by omega, h]
    simp

/-- the cells from an address on hold these timestamps -/
def RowT (w : World) (b off : Nat) (xs : List TV) : Prop := ∀ j, j < xs.length → ∀ i u, (xs[j]!.enc)[i]? = some u → w.cell? ⟨b, off + j * 5 + i, none⟩ = some u
/-- v is a slice of these timestamps -/
def IsT (w : World) (v : Value) (xs : List TV) : Prop :=
  (xs = [] ∧ ∃ p cap, v = .slice p 0 cap ∧ (p = none → cap = 0)) ∨ (xs ≠ [] ∧ ∃ b off cap, v = .slice (some ⟨b, off, none⟩) xs.length cap ∧ b < w.heap.size ∧ RowT w b off xs)
theorem RowT.below {w w' : World} {B b off : Nat} {xs : List TV} (h : RowT w b off xs) (hb : Below B w w') (hl : b < B) : RowT w' b off xs :=
  fun j hj i u hu => by rw [hb.cell (p := ⟨b, off + j * 5 + i, none⟩) hl]; exact h j hj i u hu
theorem IsT.below {w w' : World} {v : Value} {xs : List TV} (h : IsT w v xs) (hb : Below w.heap.size w w') : IsT w' v xs := by
  rcases h with h | ⟨h, b, off, cap, e, hl, hr⟩
  · exact .inl h
  · exact .inr ⟨h, b, off, cap, e, Nat.lt_of_lt_of_le hl hb.size, hr.below hb hl⟩
theorem IsT.slice {w : World} {v : Value} {xs : List TV} (h : IsT w v xs) : ∃ p cap, v = .slice p xs.length cap := by
  rcases h with ⟨h, p, cap, e, _⟩ | ⟨h, b, off, cap, e, _⟩
  · subst h; exact ⟨p, cap, e⟩
  · exact ⟨_, cap, e⟩
theorem IsT.nil (w : World) : IsT w (.slice none 0 0) [] := .inl ⟨rfl, none, 0, rfl, fun _ => rfl⟩

theorem infoT : (Try.prog.info? 26).map (fun i => (i.zero, i.size, i.bytes)) = some (some (.agg #[.int .i64 0, .int .i64 0, .int .i64 0, .int .i64 0, .int .i64 0]), 5, 40) := by kernel_rfl
/-- v is a slice of the call's own (nil, or in a block from B on) with these timestamps -/
def OwnT (B : Nat) (w : World) (v : Value) (xs : List TV) : Prop := w.ownsRow B 26 5 v xs.length (cellsT xs)
theorem OwnT.nil (B : Nat) (w : World) : OwnT B w (.slice none 0 0) [] := ⟨rfl, .inl ⟨rfl, rfl⟩⟩
theorem OwnT.is {B : Nat} {w : World} {v : Value} {xs : List TV} (h : OwnT B w v xs) : IsT w v xs := by
  obtain ⟨h1, h2⟩ := h
  rcases h2 with ⟨e, hn⟩ | ⟨g, cap, cur, e, hb, hg, hc, hm, hs, ht⟩
  · have : xs = [] := List.length_eq_zero_iff.1 hn
    subst this
    exact .inl ⟨rfl, none, 0, e, fun _ => rfl⟩
  · by_cases hx : xs = []
    · subst hx; exact .inl ⟨rfl, _, _, e, fun h => by cases h⟩
    · refine .inr ⟨hx, g, 0, cap, e, ?_, ?_⟩
      · exact (Array.getElem?_eq_some_iff.1 hg).1
      · intro j hj i u hu
        have hi : i < 5 := by have := (List.getElem?_eq_some_iff.1 hu).1; rw [enc_len] at this; exact this
        have hk := cellsT_get xs j hj i hi
        rw [hu, ← ht] at hk
        rw [List.getElem?_take] at hk
        split at hk
        · unfold World.cell?
          simp only [hg, Nat.zero_add]
          simpa using hk
        · cases hk
theorem OwnT.below {B : Nat} {w w' : World} {v : Value} {xs : List TV} (h : OwnT B w v xs) (hb : Below w.heap.size w w') : OwnT B w' v xs := by
  obtain ⟨h1, h2⟩ := h
  refine ⟨h1, ?_⟩
  rcases h2 with h2 | ⟨g, cap, cur, e, hB, hg, rest⟩
  · exact .inl h2
  · exact .inr ⟨g, cap, cur, e, hB, (hb.block g (Array.getElem?_eq_some_iff.1 hg).1).trans hg, rest⟩
theorem OwnT.mono {B B' : Nat} {w : World} {v : Value} {xs : List TV} (h : OwnT B w v xs) (hb : B' ≤ B) : OwnT B' w v xs := by
  obtain ⟨h1, h2⟩ := h
  refine ⟨h1, ?_⟩
  rcases h2 with h2 | ⟨g, cap, cur, e, hB, rest⟩
  · exact .inl h2
  · exact .inr ⟨g, cap, cur, e, Nat.le_trans hb hB, rest⟩
theorem OwnT.alloc {B : Nat} {w : World} {v : Value} {xs : List TV} (h : OwnT B w v xs) (o : Obj) : OwnT B (w.alloc o) v xs := World.ownsRow.alloc h o
theorem OwnT.drew {B : Nat} {w : World} {v : Value} {xs : List TV} (h : OwnT B w v xs) : OwnT B w.drew v xs := h

/-- append of a row that lies in memory -/
theorem OwnT.append {ops : Array Oper} {rest : List Oper} {o : Oper} {a : Act} {Q : Exit → Act → World → Prop} {w : World} (hgd : o.guard = none) (s x : Operand)
    (ho : o.op = .call { callee := .builtin .append, args := #[s, x], argTypes := #[38, 38] }) {B : Nat} {v : Value} {xs : List TV} (hown : OwnT B w v xs) (hs : a.eval s = v) (b off c : Nat) (ys : List TV)
    (hx : a.eval x = .slice (some ⟨b, off, none⟩) ys.length c) (hz : RowT w b off ys) (hlen : xs.length + ys.length ≤ 1000000) (hbase : B ≤ w.heap.size)
    (h : ∀ v' w', OwnT B w' v' (xs ++ ys) → w.grownBy w' v.ownBlock → wpList Try.prog ops Q rest (a.put o.dst v') w') : wpList Try.prog ops Q (o :: rest) a w := by
  obtain ⟨i0, hi, hz0, hz1, hz2⟩ := info_parts infoT
  refine wpList_append_own _ hgd s x 38 ho B 26 i0 (.agg #[.int .i64 0, .int .i64 0, .int .i64 0, .int .i64 0, .int .i64 0]) 5 40 Try.underlying38 hi hz0 hz1 hz2 rfl (by decide) v xs.length (cellsT xs) hs hown ⟨b, off, none⟩ ys.length c (cellsT ys) hx (cellsT_len ys) ?_ ?_ ?_ ?_ hbase ?_
  · intro j u hu
    have hj : j < ys.length * 5 := by have := (List.getElem?_eq_some_iff.1 hu).1; rw [cellsT_len] at this; exact this
    have e : j = j / 5 * 5 + j % 5 := by omega
    have hq : j / 5 < ys.length := by omega
    rw [e, cellsT_get ys _ hq _ (by omega)] at hu
    have := hz _ hq _ _ hu
    rw [show off + j / 5 * 5 + j % 5 = off + j by omega] at this
    rw [Addr.add_lit]
    exact this
  · intro u hu
    obtain ⟨y, _, hy⟩ := List.mem_flatMap.1 hu
    exact enc_one y u hy
  · unfold maxLen; omega
  · omega
  · intro v' w' h1 h2 _
    refine h v' w' ?_ h2
    unfold OwnT
    rw [cellsT_append, List.length_append]
    exact h1
theorem RowT.new (w : World) (y : TV) (t : TypeId) : RowT (w.alloc (.cells #[.int .i64 y.d, .int .i64 y.c0, .int .i64 y.c1, .int .i64 y.c2, .int .i64 y.c3] t)) w.heap.size 0 [y] := by
  intro j hj i u hu
  have hj0 : j = 0 := by simpa using hj
  subst hj0
  have hi : i < 5 := by have := (List.getElem?_eq_some_iff.1 hu).1; rw [enc_len] at this; exact this
  match i, hi, hu with
  | 0, _, hu => simp [TV.enc] at hu; subst hu; simp
  | 1, _, hu => simp [TV.enc] at hu; subst hu; simp
  | 2, _, hu => simp [TV.enc] at hu; subst hu; simp
  | 3, _, hu => simp [TV.enc] at hu; subst hu; simp
  | 4, _, hu => simp [TV.enc] at hu; subst hu; simp
/-- append of one timestamp -/
theorem OwnT.push {ops : Array Oper} {rest : List Oper} {o : Oper} {a : Act} {Q : Exit → Act → World → Prop} {w0 w : World} {B : Nat} {v : Value} {xs : List TV} {y : TV} (hown : OwnT B w v xs) (hb : Below B w0 w) (hB : B ≤ w.heap.size)
    (hgd : o.guard = none) (s x : Operand) (ho : o.op = .call { callee := .builtin .append, args := #[s, x], argTypes := #[38, 38] }) (hs : a.eval s = v) (t : TypeId)
    (hx : a.eval x = .slice (some ⟨w.heap.size, 0, none⟩) 1 1) (hlen : xs.length ≤ 900000)
    (h : ∀ v' w', OwnT B w' v' (xs ++ [y]) → Below B w0 w' → w.heap.size ≤ w'.heap.size → wpList Try.prog ops Q rest (a.put o.dst v') w') :
    wpList Try.prog ops Q (o :: rest) a (w.alloc (.cells #[.int .i64 y.d, .int .i64 y.c0, .int .i64 y.c1, .int .i64 y.c2, .int .i64 y.c3] t)) := by
  have hown' : OwnT B (w.alloc (.cells #[.int .i64 y.d, .int .i64 y.c0, .int .i64 y.c1, .int .i64 y.c2, .int .i64 y.c3] t)) v xs := hown.alloc _
  refine OwnT.append hgd s x ho hown' hs w.heap.size 0 1 [y] hx (RowT.new w y t) (by simp; omega) (by simp; omega) ?_
  intro v' w' h1 h2
  have hlt := World.ownsRow.lt hown'
  have hsz := h2.size
  refine h v' w' h1 ?_ (by simp at hsz; omega)
  exact (hb.alloc hB _).grown h2 (by simp; omega) (fun k hk => (hlt k hk).1)
theorem ok_any (t : TV) (w : World) : Calls Try.prog 40 #[t.val] w (Ret (.bool t.ok) w) := right_any _ _ _ _ _ w
theorem tle_any (t u : TV) (w : World) : Calls Try.prog 54 #[t.val, u.val] w (Ret (.bool (t.le u)) w) := le_any _ _ _ _ _ _ _ _ _ _ w
theorem RowT.at {w : World} {b off : Nat} {xs : List TV} (h : RowT w b off xs) (j : Nat) (hj : j < xs.length) :
    w.cell? ⟨b, off + j * 5, none⟩ = some (.int .i64 xs[j]!.d) ∧ w.cell? ⟨b, off + j * 5 + 1, none⟩ = some (.int .i64 xs[j]!.c0) ∧ w.cell? ⟨b, off + j * 5 + 2, none⟩ = some (.int .i64 xs[j]!.c1) ∧ w.cell? ⟨b, off + j * 5 + 3, none⟩ = some (.int .i64 xs[j]!.c2) ∧ w.cell? ⟨b, off + j * 5 + 4, none⟩ = some (.int .i64 xs[j]!.c3) :=
  ⟨h j hj 0 _ rfl, h j hj 1 _ rfl, h j hj 2 _ rfl, h j hj 3 _ rfl, h j hj 4 _ rfl⟩
theorem take_get (xs : List TV) (k : Nat) (hk : k < xs.length) : xs.take (k + 1) = xs.take k ++ [xs[k]!] := by
  rw [List.take_add_one, List.getElem?_eq_getElem hk]
  simp [hk]
/-- append of a slice, wherever it lies, nil too -/
theorem OwnT.appendAny {ops : Array Oper} {rest : List Oper} {o : Oper} {a : Act} {Q : Exit → Act → World → Prop} {w0 w : World} {B : Nat} {v vx : Value} {xs ys : List TV} (hown : OwnT B w v xs) (hb : Below B w0 w) (hB : B ≤ w.heap.size)
    (hgd : o.guard = none) (s x : Operand) (ho : o.op = .call { callee := .builtin .append, args := #[s, x], argTypes := #[38, 38] }) (hs : a.eval s = v)
    (hx : a.eval x = vx) (his : IsT w vx ys) (hlen : xs.length + ys.length ≤ 1000000)
    (h : ∀ v' w', OwnT B w' v' (xs ++ ys) → Below B w0 w' → w.heap.size ≤ w'.heap.size → wpList Try.prog ops Q rest (a.put o.dst v') w') :
    wpList Try.prog ops Q (o :: rest) a w := by
  have hlt := World.ownsRow.lt hown
  have fin : ∀ v' w', OwnT B w' v' (xs ++ ys) → w.grownBy w' v.ownBlock → wpList Try.prog ops Q rest (a.put o.dst v') w' := fun v' w' h1 h2 =>
    h v' w' h1 (hb.grown h2 hB (fun k hk => (hlt k hk).1)) h2.size
  rcases his with ⟨rfl, p, cap, rfl, hp⟩ | ⟨_, b, off, cap, rfl, _, hr⟩
  · cases p with
    | none =>
      obtain rfl := hp rfl
      obtain ⟨i0, hi, _⟩ := info_parts infoT
      refine wpList_append_own_none hgd s x 38 ho B 26 i0 5 Try.underlying38 hi v _ _ hs hown hx ?_
      exact h v w (by rw [List.append_nil]; exact hown) hb (Nat.le_refl _)
    | some ad =>
      obtain ⟨i0, hi, hz0, hz1, hz2⟩ := info_parts infoT
      refine wpList_append_own _ hgd s x 38 ho B 26 i0 (.agg #[.int .i64 0, .int .i64 0, .int .i64 0, .int .i64 0, .int .i64 0]) 5 40 Try.underlying38 hi hz0 hz1 hz2 rfl (by decide) v xs.length (cellsT xs) hs hown ad 0 cap [] hx rfl (by simp) (by simp) (by unfold maxLen; simp at hlen; omega) (by simp at hlen; omega) hB ?_
      intro v' w' h1 h2 _
      refine fin v' w' ?_ h2
      rw [List.append_nil]
      unfold OwnT
      simpa using h1
  · exact OwnT.append hgd s x ho hown hs b off cap ys hx hr hlen hB fin
/-- no slice is longer than its room -/
def capOk (v : Value) : Prop := ∀ p n c, v = .slice p n c → n ≤ c
end Go.Proofs.Ytcaolilhemamiaa
