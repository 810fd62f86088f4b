/- boxes that are put into a row of the call's own, one by one -/
import Derived.Test.YtdgnblkoohakeaaUk
namespace Go.Proofs.Ytdgnblkoohakeaa
open Go.RowKit
set_option linter.unusedVariables false
set_option linter.unusedSimpArgs false

/-- v holds these boxes in a row of the call's own; none of their lists lies in that row -/
def OutB (B : Nat) (w : World) (v : Value) (n : List BV) : Prop := ∃ xs : List BW, RB4.Free B w v xs ∧ areBx w xs n ∧ (∀ i, i < n.length → (n[i]!).l ≠ [] → OffG (fun b => v.ownBlock = some b) (.slice xs[i]!.p xs[i]!.n xs[i]!.c)) ∧ ∀ b, v.ownBlock = some b → B ≤ b ∧ b < w.heap.size
theorem OutB.nil (B : Nat) (w : World) : OutB B w (.slice none 0 0) [] := ⟨[], .inl (RowKind.Own.nil RB4 _ _), ⟨rfl, fun i hi => absurd hi (Nat.not_lt_zero i)⟩, fun i hi => absurd hi (Nat.not_lt_zero i), fun b hb => by cases hb⟩
theorem OutB.below {B : Nat} {w w' : World} {v : Value} {n : List BV} (h : OutB B w v n) (hb : Below w.heap.size w w') : OutB B w' v n := by
  obtain ⟨xs, h1, h2, h3, h4⟩ := h
  exact ⟨xs, h1.below hb, h2.below hb, h3, fun b q => ⟨(h4 b q).1, Nat.lt_of_lt_of_le (h4 b q).2 hb.size⟩⟩
theorem OutB.is {B : Nat} {w : World} {v : Value} {n : List BV} (h : OutB B w v n) : IsBs w v n := by
  obtain ⟨xs, h1, h2, h3, h4⟩ := h
  exact ⟨xs, h1.is, h2⟩
theorem OutB.lt {B : Nat} {w : World} {v : Value} {n : List BV} (h : OutB B w v n) : ∀ b, v.ownBlock = some b → B ≤ b ∧ b < w.heap.size := by
  obtain ⟨xs, h1, h2, h3, h4⟩ := h
  exact h4
theorem OutB.cap {B : Nat} {w : World} {v : Value} {n : List BV} (h : OutB B w v n) : capOk v := by
  obtain ⟨xs, h1, h2, h3, h4⟩ := h
  rcases h1 with h1 | ⟨_, ad, rfl⟩
  · intro p m c e
    obtain ⟨g1, ⟨rfl, h0⟩ | ⟨g, cap, cur, rfl, hB, hg, g2, g3, _⟩⟩ := h1
    · cases e; exact Nat.le_refl _
    · cases e; exact g2
  · intro p m c e; cases e; exact Nat.le_refl _
theorem isBx.keepG {G : Nat → Prop} {w w' : World} {x : BW} {b : BV} (h : isBx w x b) (ho : b.l ≠ [] → OffG G (.slice x.p x.n x.c)) (hs : w.heap.size ≤ w'.heap.size) (hk : ∀ k, k < w.heap.size → ¬ G k → w'.heap[k]? = w.heap[k]?) : isBx w' x b := ⟨h.e, h.f, h.t, h.n, h.k, is_keepG h.l ho hs hk⟩
theorem get_snoc_lt {α : Type} [Inhabited α] {xs : List α} {y : α} {i : Nat} (h : i < xs.length) : (xs ++ [y])[i]! = xs[i]! := by
  rw [getElem!_pos _ i (by rw [List.length_append]; omega), getElem!_pos xs i h, List.getElem_append_left h]
theorem get_snoc_eq {α : Type} [Inhabited α] {xs : List α} {y : α} : (xs ++ [y])[xs.length]! = y := by
  rw [getElem!_pos _ _ (by simp)]
  simp
/-- one more box -/
theorem OutB.grew {B : Nat} {w w' : World} {v v' : Value} {n : List BV} {b : BV} {r : BW} {xs : List BW} (h2 : areBx w xs n) (h3 : ∀ i, i < n.length → (n[i]!).l ≠ [] → OffG (fun b => v.ownBlock = some b) (.slice xs[i]!.p xs[i]!.n xs[i]!.c)) (hr : isBx w r b) (hoff : b.l ≠ [] → OffG (fun k => v.ownBlock = some k) (.slice r.p r.n r.c))
    (hO : RB4.Free B w' v' (xs ++ [r])) (g : RowKind.Grew RB4 B w w' v) (s : StaysOrNew w v v') (hl : ∀ k, v'.ownBlock = some k → B ≤ k ∧ k < w'.heap.size) : OutB B w' v' (n ++ [b]) := by
  have keep : ∀ (x : BW) (c : BV), isBx w x c → (c.l ≠ [] → OffG (fun k => v.ownBlock = some k) (.slice x.p x.n x.c)) → isBx w' x c ∧ (c.l ≠ [] → OffG (fun k => v'.ownBlock = some k) (.slice x.p x.n x.c)) := fun x c hx ho => by
    refine ⟨hx.keepG ho g.size fun k hk hG => g.block k hk fun _ _ _ e => hG e, fun hne q off m d e hq => ?_⟩
    rcases s with s | s
    · rw [s] at hq; exact ho hne q off m d e hq
    · have := is_blockG hx.l hne e
      have := s q hq
      omega
  refine ⟨xs ++ [r], hO, ⟨by simp [h2.1], fun i hi => ?_⟩, fun i hi => ?_, hl⟩
  · by_cases hin : i < n.length
    · rw [get_snoc_lt (xs := xs) (y := r) (i := i) (by rw [h2.1]; exact hin), get_snoc_lt (xs := n) (y := b) (i := i) hin]
      exact (keep _ _ (h2.2 i hin) (h3 i hin)).1
    · have : i = n.length := by simp at hi; omega
      subst this
      rw [get_snoc_eq (xs := n) (y := b), ← h2.1, get_snoc_eq (xs := xs) (y := r)]
      exact (keep _ _ hr hoff).1
  · by_cases hin : i < n.length
    · rw [get_snoc_lt (xs := xs) (y := r) (i := i) (by rw [h2.1]; exact hin), get_snoc_lt (xs := n) (y := b) (i := i) hin]
      exact (keep _ _ (h2.2 i hin) (h3 i hin)).2
    · have : i = n.length := by simp at hi; omega
      subst this
      rw [get_snoc_eq (xs := n) (y := b), ← h2.1, get_snoc_eq (xs := xs) (y := r)]
      exact (keep _ _ hr hoff).2
theorem OutB.append {ops : Array Oper} {rest : List Oper} {o : Oper} {a : Act} {Q : Exit → Act → World → Prop} {w : World} (hgd : o.guard = none) (s x : Operand)
    (ho : o.op = .call { callee := .builtin .append, args := #[s, x], argTypes := #[RB4.tS, RB4.tS] }) {B : Nat} {v vx : Value} {n : List BV} {b : BV} (r : BW) (h : OutB B w v n) (hs : a.eval s = v)
    (hx : a.eval x = vx) (his : RB4.Is w vx [r]) (hr : isBx w r b) (hoff : b.l ≠ [] → OffG (fun k => v.ownBlock = some k) (.slice r.p r.n r.c)) (hlen : n.length + 1 ≤ 900000) (hbase : B ≤ w.heap.size)
    (K : ∀ v' w', OutB B w' v' (n ++ [b]) → RowKind.Grew RB4 B w w' v → StaysOrNew w v v' → wpList Try.prog ops Q rest (a.put o.dst v') w') : wpList Try.prog ops Q (o :: rest) a w := by
  obtain ⟨xs, h1, h2, h3, h4⟩ := h
  refine RowKind.Free.append (R := RB4) (by decide) hgd s x ho h1 hs hx his (by rw [h2.1]; exact hlen) hbase fun v' w' hO g st hl => K v' w' (OutB.grew h2 h3 hr hoff hO g st fun k q => ⟨st.elim (fun st => by rw [st] at q; exact (h4 k q).1) (fun st => Nat.le_trans hbase (st k q)), hl (fun b e => (h4 b e).2) k q⟩) g st
theorem OutB.appendR {ops : Array Oper} {o : Oper} {a : Act} {K : Act → World → Prop} {Q : Exit → Act → World → Prop} {E : Prop} {w : World} (hgd : o.guard = none) (s x : Operand)
    (ho : o.op = .call { callee := .builtin .append, args := #[s, x], argTypes := #[RB4.tS, RB4.tS] }) {B : Nat} {v vx : Value} {n : List BV} {b : BV} (r : BW) (h : OutB B w v n) (hs : a.eval s = v)
    (hx : a.eval x = vx) (his : RB4.Is w vx [r]) (hr : isBx w r b) (hoff : b.l ≠ [] → OffG (fun k => v.ownBlock = some k) (.slice r.p r.n r.c)) (hlen : n.length + 1 ≤ 900000) (hbase : B ≤ w.heap.size)
    (KK : ∀ v' w', OutB B w' v' (n ++ [b]) → RowKind.Grew RB4 B w w' v → StaysOrNew w v v' → K (a.put o.dst v') w') :
    if Region.wanted o (yielded ops a.tmps) = true then Oper.wp Try.prog o a w K Q else E := by
  obtain ⟨xs, h1, h2, h3, h4⟩ := h
  exact RowKind.Free.appendR (R := RB4) (by decide) hgd s x ho h1 hs hx his (by rw [h2.1]; exact hlen) hbase fun v' w' hO g st hl => KK v' w' (OutB.grew h2 h3 hr hoff hO g st fun k q => ⟨st.elim (fun st => by rw [st] at q; exact (h4 k q).1) (fun st => Nat.le_trans hbase (st k q)), hl (fun b e => (h4 b e).2) k q⟩) g st
/-- boxes that were given, copied -/
theorem OutB.copy {B A : Nat} {w w0 : World} {v : Value} {n : List BV} {xs : List BW} (h : RB4.Own B w v xs) (ha : areBx w0 xs n) (hb : Below w0.heap.size w0 w) (hA : w0.heap.size ≤ B) : OutB B w v n :=
  ⟨xs, .inl h, ha.below hb, fun i hi hne b off m c e hq => by
    have h1 := is_blockG (ha.2 i hi).l hne e
    have h2 := (h.lt b hq).1
    omega, h.lt⟩
/-! ### plain: where a message goes -/
theorem put_split {n : List BV} {f t : Int} {m : MV} : ∀ {k : Nat}, k ≤ n.length → (∀ j, j < k → isB n[j]! m.e f t = false ∧ aheadB ⟨m.e, f, t, [m]⟩ n[j]! = false) → putL n f t m = n.take k ++ putL (n.drop k) f t m := by
  induction n with
  | nil => intro k hk _; have : k = 0 := by simpa using hk
           subst this; rfl
  | cons b n ih =>
    intro k hk h
    cases k with
    | zero => rfl
    | succ k =>
      have h0 := h 0 (by omega)
      have e1 : isB b m.e f t = false := h0.1
      have e2 : aheadB ⟨m.e, f, t, [m]⟩ b = false := h0.2
      show putL (b :: n) f t m = b :: (n.take k ++ putL (n.drop k) f t m)
      rw [← ih (by simpa using hk) fun j hj => h (j + 1) (by omega)]
      simp only [putL]
      rw [if_neg (by rw [e1]; decide), if_neg (by rw [e2]; decide)]
theorem put_hit {n : List BV} {f t : Int} {m : MV} {k : Nat} (hk : k < n.length) (h : ∀ j, j < k → isB n[j]! m.e f t = false ∧ aheadB ⟨m.e, f, t, [m]⟩ n[j]! = false) (hh : isB n[k]! m.e f t = true) : putL n f t m = (n.take k ++ [⟨m.e, f, t, (n[k]!).l ++ [m]⟩]) ++ n.drop (k + 1) := by
  rw [put_split (by omega) h, List.drop_eq_getElem_cons hk]
  rw [getElem!_pos n k hk] at hh ⊢
  simp only [putL]
  rw [if_pos hh, List.append_assoc]
  rfl
theorem put_new {n : List BV} {f t : Int} {m : MV} {k : Nat} (hk : k < n.length) (h : ∀ j, j < k → isB n[j]! m.e f t = false ∧ aheadB ⟨m.e, f, t, [m]⟩ n[j]! = false) (hh : isB n[k]! m.e f t = false) (ha : aheadB ⟨m.e, f, t, [m]⟩ n[k]! = true) : putL n f t m = ((n.take k ++ [⟨m.e, f, t, [m]⟩]) ++ [n[k]!]) ++ n.drop (k + 1) := by
  rw [put_split (by omega) h, List.drop_eq_getElem_cons hk]
  rw [getElem!_pos n k hk] at hh ha ⊢
  simp only [putL]
  rw [if_neg (by rw [hh]; decide), if_pos ha]
  simp
theorem put_end {n : List BV} {f t : Int} {m : MV} (h : ∀ j, j < n.length → isB n[j]! m.e f t = false ∧ aheadB ⟨m.e, f, t, [m]⟩ n[j]! = false) : putL n f t m = n ++ [⟨m.e, f, t, [m]⟩] := by
  rw [put_split (Nat.le_refl _) h, List.take_length, List.drop_length]
  rfl
theorem none_behind {n : List BV} {e f t : Int} {l : List MV} (hg : GoodN n) {k : Nat} (hk : k < n.length) (h : isB n[k]! e f t = true ∨ aheadB ⟨e, f, t, l⟩ n[k]! = true) : ∀ j, k < j → j < n.length → isB n[j]! e f t = false := fun j hkj hj => by
  have h1 := List.pairwise_iff_getElem.1 hg.2 k j hk hj hkj
  rw [← getElem!_pos n k hk, ← getElem!_pos n j hj] at h1
  cases q : isB n[j]! e f t
  · rfl
  · rw [isB_iff] at q
    rw [aheadB_iff] at h1
    rcases h with h | h
    · rw [isB_iff] at h; omega
    · rw [aheadB_iff] at h; simp only at h; omega
end Go.Proofs.Ytdgnblkoohakeaa
