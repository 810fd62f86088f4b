/- boxes that are put into a row of the call's own, one by one; none of their lists lies in these blocks -/
import Derived.Test.YtdgnblkoohakeaaUm
namespace Go.Proofs.Ytdgnblkoohakeaa
open Go.RowKit
set_option linter.unusedVariables false
set_option linter.unusedSimpArgs false

/-- v holds these boxes in a row of the call's own; none of their lists lies in that row -/
def OutG (G : Nat → Prop) (B : Nat) (w : World) (v : Value) (n : List BV) : Prop := ∃ xs : List BW, RB4.Free B w v xs ∧ areBx w xs n ∧ (∀ i, i < n.length → (n[i]!).l ≠ [] → OffG (fun b => v.ownBlock = some b ∨ G b) (.slice xs[i]!.p xs[i]!.n xs[i]!.c)) ∧ ∀ b, v.ownBlock = some b → B ≤ b ∧ b < w.heap.size
theorem OutG.nil (G : Nat → Prop) (B : Nat) (w : World) : OutG G B w (.slice none 0 0) [] := ⟨[], .inl (RowKind.Own.nil RB4 _ _), ⟨rfl, fun i hi => absurd hi (Nat.not_lt_zero i)⟩, fun i hi => absurd hi (Nat.not_lt_zero i), fun b hb => by cases hb⟩
theorem OutG.below {G : Nat → Prop} {B : Nat} {w w' : World} {v : Value} {n : List BV} (h : OutG G B w v n) (hb : Below w.heap.size w w') : OutG G B w' v n := by
  obtain ⟨xs, h1, h2, h3, h4⟩ := h
  exact ⟨xs, h1.below hb, h2.below hb, h3, fun b q => ⟨(h4 b q).1, Nat.lt_of_lt_of_le (h4 b q).2 hb.size⟩⟩
theorem OutG.is {G : Nat → Prop} {B : Nat} {w : World} {v : Value} {n : List BV} (h : OutG G B w v n) : IsBs w v n := by
  obtain ⟨xs, h1, h2, h3, h4⟩ := h
  exact ⟨xs, h1.is, h2⟩
theorem OutG.lt {G : Nat → Prop} {B : Nat} {w : World} {v : Value} {n : List BV} (h : OutG G B w v n) : ∀ b, v.ownBlock = some b → B ≤ b ∧ b < w.heap.size := by
  obtain ⟨xs, h1, h2, h3, h4⟩ := h
  exact h4
theorem OutG.cap {G : Nat → Prop} {B : Nat} {w : World} {v : Value} {n : List BV} (h : OutG G B w v n) : capOk v := by
  obtain ⟨xs, h1, h2, h3, h4⟩ := h
  rcases h1 with h1 | ⟨_, ad, rfl⟩
  · intro p m c e
    obtain ⟨g1, ⟨rfl, h0⟩ | ⟨g, cap, cur, rfl, hB, hg, g2, g3, _⟩⟩ := h1
    · cases e; exact Nat.le_refl _
    · cases e; exact g2
  · intro p m c e; cases e; exact Nat.le_refl _
/-- one more box -/
theorem OutG.grew {G : Nat → Prop} {B : Nat} {w w' : World} {v v' : Value} {n : List BV} {b : BV} {r : BW} {xs : List BW} (h2 : areBx w xs n) (h3 : ∀ i, i < n.length → (n[i]!).l ≠ [] → OffG (fun b => v.ownBlock = some b ∨ G b) (.slice xs[i]!.p xs[i]!.n xs[i]!.c)) (hr : isBx w r b) (hoff : b.l ≠ [] → OffG (fun k => v.ownBlock = some k ∨ G k) (.slice r.p r.n r.c))
    (hO : RB4.Free B w' v' (xs ++ [r])) (g : RowKind.Grew RB4 B w w' v) (s : StaysOrNew w v v') (hl : ∀ k, v'.ownBlock = some k → B ≤ k ∧ k < w'.heap.size) : OutG G B w' v' (n ++ [b]) := by
  have keep : ∀ (x : BW) (c : BV), isBx w x c → (c.l ≠ [] → OffG (fun k => v.ownBlock = some k ∨ G k) (.slice x.p x.n x.c)) → isBx w' x c ∧ (c.l ≠ [] → OffG (fun k => v'.ownBlock = some k ∨ G k) (.slice x.p x.n x.c)) := fun x c hx ho => by
    refine ⟨hx.keepG ho g.size fun k hk hG => g.block k hk fun _ _ _ e => hG (.inl e), fun hne q off m d e hq => ?_⟩
    rcases hq with hq | hq
    · rcases s with s | s
      · rw [s] at hq; exact ho hne q off m d e (.inl hq)
      · have := is_blockG hx.l hne e
        have := s q hq
        omega
    · exact ho hne q off m d e (.inr hq)
  refine ⟨xs ++ [r], hO, ⟨by simp [h2.1], fun i hi => ?_⟩, fun i hi => ?_, hl⟩
  · by_cases hin : i < n.length
    · rw [get_snoc_lt (xs := xs) (y := r) (i := i) (by rw [h2.1]; exact hin), get_snoc_lt (xs := n) (y := b) (i := i) hin]
      exact (keep _ _ (h2.2 i hin) (h3 i hin)).1
    · have : i = n.length := by simp at hi; omega
      subst this
      rw [get_snoc_eq (xs := n) (y := b), ← h2.1, get_snoc_eq (xs := xs) (y := r)]
      exact (keep _ _ hr hoff).1
  · by_cases hin : i < n.length
    · rw [get_snoc_lt (xs := xs) (y := r) (i := i) (by rw [h2.1]; exact hin), get_snoc_lt (xs := n) (y := b) (i := i) hin]
      exact (keep _ _ (h2.2 i hin) (h3 i hin)).2
    · have : i = n.length := by simp at hi; omega
      subst this
      rw [get_snoc_eq (xs := n) (y := b), ← h2.1, get_snoc_eq (xs := xs) (y := r)]
      exact (keep _ _ hr hoff).2
theorem OutG.append {ops : Array Oper} {rest : List Oper} {o : Oper} {a : Act} {Q : Exit → Act → World → Prop} {w : World} (hgd : o.guard = none) (s x : Operand)
    (ho : o.op = .call { callee := .builtin .append, args := #[s, x], argTypes := #[RB4.tS, RB4.tS] }) {G : Nat → Prop} {B : Nat} {v vx : Value} {n : List BV} {b : BV} (r : BW) (h : OutG G B w v n) (hs : a.eval s = v)
    (hx : a.eval x = vx) (his : RB4.Is w vx [r]) (hr : isBx w r b) (hoff : b.l ≠ [] → OffG (fun k => v.ownBlock = some k ∨ G k) (.slice r.p r.n r.c)) (hlen : n.length + 1 ≤ 900000) (hbase : B ≤ w.heap.size)
    (K : ∀ v' w', OutG G B w' v' (n ++ [b]) → RowKind.Grew RB4 B w w' v → StaysOrNew w v v' → wpList Try.prog ops Q rest (a.put o.dst v') w') : wpList Try.prog ops Q (o :: rest) a w := by
  obtain ⟨xs, h1, h2, h3, h4⟩ := h
  refine RowKind.Free.append (R := RB4) (by decide) hgd s x ho h1 hs hx his (by rw [h2.1]; exact hlen) hbase fun v' w' hO g st hl => K v' w' (OutG.grew h2 h3 hr hoff hO g st fun k q => ⟨st.elim (fun st => by rw [st] at q; exact (h4 k q).1) (fun st => Nat.le_trans hbase (st k q)), hl (fun b e => (h4 b e).2) k q⟩) g st
theorem OutG.appendR {ops : Array Oper} {o : Oper} {a : Act} {K : Act → World → Prop} {Q : Exit → Act → World → Prop} {E : Prop} {w : World} (hgd : o.guard = none) (s x : Operand)
    (ho : o.op = .call { callee := .builtin .append, args := #[s, x], argTypes := #[RB4.tS, RB4.tS] }) {G : Nat → Prop} {B : Nat} {v vx : Value} {n : List BV} {b : BV} (r : BW) (h : OutG G B w v n) (hs : a.eval s = v)
    (hx : a.eval x = vx) (his : RB4.Is w vx [r]) (hr : isBx w r b) (hoff : b.l ≠ [] → OffG (fun k => v.ownBlock = some k ∨ G k) (.slice r.p r.n r.c)) (hlen : n.length + 1 ≤ 900000) (hbase : B ≤ w.heap.size)
    (KK : ∀ v' w', OutG G B w' v' (n ++ [b]) → RowKind.Grew RB4 B w w' v → StaysOrNew w v v' → K (a.put o.dst v') w') :
    if Region.wanted o (yielded ops a.tmps) = true then Oper.wp Try.prog o a w K Q else E := by
  obtain ⟨xs, h1, h2, h3, h4⟩ := h
  exact RowKind.Free.appendR (R := RB4) (by decide) hgd s x ho h1 hs hx his (by rw [h2.1]; exact hlen) hbase fun v' w' hO g st hl => KK v' w' (OutG.grew h2 h3 hr hoff hO g st fun k q => ⟨st.elim (fun st => by rw [st] at q; exact (h4 k q).1) (fun st => Nat.le_trans hbase (st k q)), hl (fun b e => (h4 b e).2) k q⟩) g st
/-- boxes that were given, copied -/
theorem OutG.copy {G : Nat → Prop} {B A : Nat} {w w0 : World} {v : Value} {n : List BV} {xs : List BW} (h : RB4.Own B w v xs) (ha : areBx w0 xs n) (hb : Below w0.heap.size w0 w) (hA : w0.heap.size ≤ B) (hG : ∀ k, G k → w0.heap.size ≤ k) : OutG G B w v n :=
  ⟨xs, .inl h, ha.below hb, fun i hi hne b off m c e hq => by
    have h1 := is_blockG (ha.2 i hi).l hne e
    rcases hq with hq | hq
    · have h2 := (h.lt b hq).1
      omega
    · have h2 := hG b hq
      omega, h.lt⟩
/-- those blocks may be written -/
theorem OutG.set {G : Nat → Prop} {B : Nat} {w w' : World} {v : Value} {n : List BV} (h : OutG G B w v n) (hs : w.heap.size ≤ w'.heap.size) (hk : ∀ k, k < w.heap.size → ¬ G k → w'.heap[k]? = w.heap[k]?) (hB : ∀ k, G k → k < B) : OutG G B w' v n := by
  obtain ⟨xs, h1, h2, h3, h4⟩ := h
  refine ⟨xs, ?_, ⟨h2.1, fun i hi => (h2.2 i hi).keepG (h3 i hi) hs fun k hk' hG => hk k hk' fun q => hG (.inr q)⟩, h3, fun b q => ⟨(h4 b q).1, Nat.lt_of_lt_of_le (h4 b q).2 hs⟩⟩
  rcases h1 with h1 | h1
  · exact .inl (h1.keepK fun b hb => hk b (h1.lt b hb).2 fun q => by have := (h1.lt b hb).1; have := hB b q; omega)
  · exact .inr h1
end Go.Proofs.Ytdgnblkoohakeaa
