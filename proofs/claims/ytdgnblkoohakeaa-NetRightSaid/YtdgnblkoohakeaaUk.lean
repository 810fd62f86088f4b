/- mailboxes that lie apart from some blocks (IsBsG); an append to a row, or to a slice without room (Free) -/
import Derived.Test.YtdgnblkoohakeaaUb
import Derived.Test.YtdgnblkoohakeaaRowAny
import Derived.Test.YtdgnblkoohakeaaRowFresh
import Derived.Test.YtdgnblkoohakeaaRowKeep
namespace Go.Proofs.Ytdgnblkoohakeaa
open Go.RowKit
set_option linter.unusedVariables false
set_option linter.unusedSimpArgs false

/-- v's block is none of these -/
def OffG (G : Nat → Prop) (v : Value) : Prop := ∀ b off n c, v = .slice (some ⟨b, off, none⟩) n c → ¬ G b
theorem is_keepG {α : Type} [Inhabited α] {R : RowKind α} {G : Nat → Prop} {w w' : World} {v : Value} {xs : List α} (h : R.Is w v xs) (ho : xs ≠ [] → OffG G v) (hs : w.heap.size ≤ w'.heap.size) (hk : ∀ b, b < w.heap.size → ¬ G b → w'.heap[b]? = w.heap[b]?) : R.Is w' v xs := by
  rcases h with h | ⟨hne, b, off, cap, e, hb, hr⟩
  · exact .inl h
  · refine .inr ⟨hne, b, off, cap, e, Nat.lt_of_lt_of_le hb hs, fun j hj i u hu => ?_⟩
    have := hr j hj i u hu
    rw [← this]
    exact World.cell?_of_block (hk b hb (ho hne b off _ _ e))
/-- a row of mailboxes, apart from these blocks -/
def IsBsG (G : Nat → Prop) (w : World) (v : Value) (n : List BV) : Prop := ∃ xs : List BW, RB4.Is w v xs ∧ areBx w xs n ∧ (n ≠ [] → OffG G v) ∧ ∀ i, i < n.length → (n[i]!).l ≠ [] → OffG G (.slice xs[i]!.p xs[i]!.n xs[i]!.c)
theorem IsBsG.is {G : Nat → Prop} {w : World} {v : Value} {n : List BV} (h : IsBsG G w v n) : IsBs w v n := by
  obtain ⟨xs, h1, h2, _⟩ := h
  exact ⟨xs, h1, h2⟩
theorem IsBs.none {w : World} {v : Value} {n : List BV} (h : IsBs w v n) : IsBsG (fun _ => False) w v n := by
  obtain ⟨xs, h1, h2⟩ := h
  exact ⟨xs, h1, h2, fun _ _ _ _ _ _ q => q, fun _ _ _ _ _ _ _ _ q => q⟩
theorem IsBsG.keep {G : Nat → Prop} {w w' : World} {v : Value} {n : List BV} (h : IsBsG G w v n) (hs : w.heap.size ≤ w'.heap.size) (hk : ∀ b, b < w.heap.size → ¬ G b → w'.heap[b]? = w.heap[b]?) : IsBsG G w' v n := by
  obtain ⟨xs, h1, h2, h3, h4⟩ := h
  refine ⟨xs, is_keepG h1 (fun q => h3 fun e => q (List.eq_nil_of_length_eq_zero (by rw [h2.1, e]; rfl))) hs hk, ⟨h2.1, fun i hi => ?_⟩, h3, h4⟩
  have x := h2.2 i hi
  exact ⟨x.e, x.f, x.t, x.n, x.k, is_keepG x.l (h4 i hi) hs hk⟩
theorem IsBsG.below {G : Nat → Prop} {w w' : World} {v : Value} {n : List BV} (h : IsBsG G w v n) (hb : Below w.heap.size w w') : IsBsG G w' v n := h.keep hb.size fun b hl _ => hb.block b hl
theorem IsBsG.mono {G G' : Nat → Prop} {w : World} {v : Value} {n : List BV} (h : IsBsG G w v n) (hg : ∀ b, G' b → G b) : IsBsG G' w v n := by
  obtain ⟨xs, h1, h2, h3, h4⟩ := h
  exact ⟨xs, h1, h2, fun hn b o m c e q => h3 hn b o m c e (hg b q), fun i hi hn b o m c e q => h4 i hi hn b o m c e (hg b q)⟩
/-- blocks that are not there yet -/
theorem is_blockG {α : Type} [Inhabited α] {R : RowKind α} {w : World} {v : Value} {xs : List α} (h : R.Is w v xs) (hn : xs ≠ []) {b off m c : Nat} (e : v = .slice (some ⟨b, off, none⟩) m c) : b < w.heap.size := by
  rcases h with ⟨e0, _⟩ | ⟨_, b', off', cap, e', hb, _⟩
  · exact absurd e0 hn
  · rw [e] at e'
    simp only [Value.slice.injEq, Option.some.injEq, Addr.mk.injEq] at e'
    omega
theorem IsBsG.new {G G' : Nat → Prop} {w : World} {v : Value} {n : List BV} (h : IsBsG G w v n) (hg : ∀ b, G' b → G b ∨ w.heap.size ≤ b) : IsBsG G' w v n := by
  obtain ⟨xs, h1, h2, h3, h4⟩ := h
  refine ⟨xs, h1, h2, fun hn b o m c e q => ?_, fun i hi hn b o m c e q => ?_⟩
  · rcases hg b q with q | q
    · exact h3 hn b o m c e q
    · have := is_blockG h1 (fun e0 => hn (List.eq_nil_of_length_eq_zero (by rw [← h2.1, e0]; rfl))) e
      omega
  · rcases hg b q with q | q
    · exact h4 i hi hn b o m c e q
    · have := is_blockG (h2.2 i hi).l hn e
      omega
namespace RowKind
section
variable {α : Type} {R : RowKind α}
variable (R)
/-- v holds these in a row of the call's own, or is a slice without room -/
def Free (B : Nat) (w : World) (v : Value) (xs : List α) : Prop := R.Own B w v xs ∨ (xs = [] ∧ ∃ ad, v = .slice (some ad) 0 0)
variable {R}
theorem Free.is [Inhabited α] {B : Nat} {w : World} {v : Value} {xs : List α} (h : R.Free B w v xs) : R.Is w v xs := by
  rcases h with h | ⟨rfl, ad, rfl⟩
  · exact h.is
  · exact .inl ⟨rfl, some ad, 0, rfl, fun e => (by cases e)⟩
theorem Free.below {B : Nat} {w w' : World} {v : Value} {xs : List α} (h : R.Free B w v xs) (hb : Below w.heap.size w w') : R.Free B w' v xs := by
  rcases h with h | h
  · exact .inl (h.below hb)
  · exact .inr h
theorem Free.alloc {B : Nat} {w : World} {v : Value} {xs : List α} (h : R.Free B w v xs) (o : Obj) : R.Free B (w.alloc o) v xs := by
  rcases h with h | h
  · exact .inl (h.alloc o)
  · exact .inr h
theorem Fresh.free {B : Nat} {w : World} {v : Value} {xs : List α} (h : R.Fresh B w v xs) : R.Free B w v xs := by
  rcases h with ⟨rfl, ad, rfl⟩ | ⟨_, h⟩
  · exact .inr ⟨rfl, ad, rfl⟩
  · exact .inl h
/-- what an append does: the old blocks are as they were, but one row of this kind -/
structure Grew (R : RowKind α) (B : Nat) (w w' : World) (v : Value) : Prop where
  os : w'.os = w.os
  tape : w'.tape = w.tape
  output : w'.output = w.output
  size : w.heap.size ≤ w'.heap.size
  block : ∀ k, k < w.heap.size → (∀ cur, w.heap[k]? = some (.cells cur R.tE (0, 0)) → B ≤ k → v.ownBlock ≠ some k) → w'.heap[k]? = w.heap[k]?
theorem Own.cellsB {B k : Nat} {w : World} {v : Value} {xs : List α} (h : R.Own B w v xs) (hk : v.ownBlock = some k) : ∃ cur, w.heap[k]? = some (.cells cur R.tE (0, 0)) ∧ B ≤ k := by
  obtain ⟨_, ⟨rfl, _⟩ | ⟨g, cap, cur, rfl, hB, hg, _⟩⟩ := h
  · cases hk
  · have e : g = k := Option.some.inj hk
    subst e
    exact ⟨cur, hg, hB⟩
theorem run_free [Inhabited α] {w : World} {B : Nat} {v vx : Value} {xs ys : List α} (hown : R.Free B w v xs) (his : R.Is w vx ys) (hb0 : 0 < R.bytes) (hlen : xs.length + ys.length ≤ 900000) (hB : B ≤ w.heap.size) (ty : TypeId) :
    ∃ v' w', (Builtin.append_ #[R.tS, R.tS] ty #[v, vx]).run Try.prog w = .ok v' w' ∧ R.Free B w' v' (xs ++ ys) ∧ Grew R B w w' v ∧ StaysOrNew w v v' ∧ ((∀ b, v.ownBlock = some b → b < w.heap.size) → ∀ b, v'.ownBlock = some b → b < w'.heap.size) := by
  rcases hown with hown | ⟨rfl, ad, rfl⟩
  · obtain ⟨v', w', hr, h1, h2, h3⟩ := run_appendAnyL hown his hb0 (byt_ok (Nat.le_trans hlen (by decide))) hB ty
    refine ⟨v', w', hr, .inl h1, ⟨h2.os, h2.tape, h2.output, h2.size, fun k hk hn => h2.block k hk fun e => ?_⟩, h3, fun _ b hb => (h1.lt b hb).2⟩
    obtain ⟨cur, hc, hb⟩ := hown.cellsB e.symm
    exact hn cur hc hb e.symm
  · obtain ⟨i0, hi, hz0, hz1, hz2⟩ := info_parts R.info
    rcases his with ⟨rfl, p, cap, rfl, _⟩ | ⟨hne, b, off, cap, rfl, hb, hr⟩
    · exact ⟨_, w, run_empty_nil w _ _ _ _ R.under hi ad p cap, .inr ⟨rfl, ad, rfl⟩, ⟨rfl, rfl, rfl, Nat.le_refl _, fun _ _ _ => rfl⟩, .inl rfl, fun h => h⟩
    · obtain ⟨ad2, c2, e, hc⟩ := hr.app (c := cap)
      have e2 : ad2 = ⟨b, off, none⟩ := by
        simp only [Value.slice.injEq, Option.some.injEq] at e
        exact e.1.symm
      subst e2
      have hlen2 : ys.length ≤ 900000 := by simpa using hlen
      have hpos : 0 < ys.length := by cases ys with | nil => exact absurd rfl hne | cons => simp
      have hby : (0 + ys.length) * i0.bytes ≤ 140737488355328 := by rw [hz2, Nat.zero_add]; exact byt_ok (Nat.le_trans hlen2 (by decide))
      have hrun := run_append_grow (P := Try.prog) w R.tS ty R.tE i0 R.zero R.under hi hz0 ad 0 0 [] (by simp) (fun j v hv => by simp at hv) ⟨b, off, none⟩ ys.length cap (R.cells ys) (by rw [hz1]; exact R.cells_len ys) hc (by omega) (by omega) (growslice_fits (by omega) hby)
      have hge := grownCap_ge w (0 + ys.length) 0 R.tE
      have hle := grownCap_le_maxLen w (0 + ys.length) 0 R.tE (by unfold maxLen; omega)
      generalize grownCap w (0 + ys.length) 0 R.tE = cp at hge hle hrun
      have hl : ([] : List Value).toArray ++ (R.cells ys).toArray = (R.cells ys).toArray := by simp
      rw [hl] at hrun
      refine ⟨_, _, hrun, .inl ?_, ⟨rfl, rfl, rfl, ?_, ?_⟩, .inr fun k hk => ?_, fun _ k hk => ?_⟩
      · rw [Nat.zero_add, List.nil_append]
        refine ⟨R.cells_len ys, .inr ⟨w.heap.size, cp, _, rfl, hB, heap_alloc_new w.drew _, by omega, hle, ?_, ?_⟩⟩
        · rw [Array.size_append, List.size_toArray, R.cells_len, size_zeroCells, R.zlen, ← Nat.add_mul, show ys.length + (cp - ys.length) = cp by omega]
        · rw [Array.toList_append]
          exact List.take_left' (R.cells_len ys)
      · exact ((Below.refl w.heap.size w).drew.alloc (Nat.le_refl _) _).size
      · exact fun k hk _ => ((Below.refl w.heap.size w).drew.alloc (Nat.le_refl _) _).block k hk
      · have e : w.heap.size = k := Option.some.inj hk
        omega
      · have e : w.heap.size = k := Option.some.inj hk
        subst e
        simp
/-- an append, walked -/
theorem Free.append [Inhabited α] {ops : Array Oper} {rest : List Oper} {o : Oper} {a : Act} {Q : Exit → Act → World → Prop} {w : World} (hb0 : 0 < R.bytes) (hgd : o.guard = none) (s x : Operand)
    (ho : o.op = .call { callee := .builtin .append, args := #[s, x], argTypes := #[R.tS, R.tS] }) {B : Nat} {v vx : Value} {xs ys : List α} (hown : R.Free B w v xs) (hs : a.eval s = v)
    (hx : a.eval x = vx) (his : R.Is w vx ys) (hlen : xs.length + ys.length ≤ 900000) (hbase : B ≤ w.heap.size)
    (h : ∀ v' w', R.Free B w' v' (xs ++ ys) → Grew R B w w' v → StaysOrNew w v v' → ((∀ b, v.ownBlock = some b → b < w.heap.size) → ∀ b, v'.ownBlock = some b → b < w'.heap.size) → wpList Try.prog ops Q rest (a.put o.dst v') w') : wpList Try.prog ops Q (o :: rest) a w := by
  obtain ⟨v', w', hr, h1, h2, h3, h4⟩ := run_free hown his hb0 hlen hbase o.type
  exact wpList_plain hgd fun _ hK => wp_of_runB ho (by rw [hs, hx]; exact hr) (hK _ _ (h v' w' h1 h2 h3 h4))
theorem Free.appendR [Inhabited α] {ops : Array Oper} {o : Oper} {a : Act} {K : Act → World → Prop} {Q : Exit → Act → World → Prop} {E : Prop} {w : World} (hb0 : 0 < R.bytes) (hgd : o.guard = none) (s x : Operand)
    (ho : o.op = .call { callee := .builtin .append, args := #[s, x], argTypes := #[R.tS, R.tS] }) {B : Nat} {v vx : Value} {xs ys : List α} (hown : R.Free B w v xs) (hs : a.eval s = v)
    (hx : a.eval x = vx) (his : R.Is w vx ys) (hlen : xs.length + ys.length ≤ 900000) (hbase : B ≤ w.heap.size)
    (h : ∀ v' w', R.Free B w' v' (xs ++ ys) → Grew R B w w' v → StaysOrNew w v v' → ((∀ b, v.ownBlock = some b → b < w.heap.size) → ∀ b, v'.ownBlock = some b → b < w'.heap.size) → K (a.put o.dst v') w') :
    if Region.wanted o (yielded ops a.tmps) = true then Oper.wp Try.prog o a w K Q else E := by
  have hw : Region.wanted o (yielded ops a.tmps) = true := by simp [Region.wanted, hgd]
  rw [if_pos hw]
  obtain ⟨v', w', hr, h1, h2, h3, h4⟩ := run_free hown his hb0 hlen hbase o.type
  exact wp_of_runB ho (by rw [hs, hx]; exact hr) (h v' w' h1 h2 h3 h4)
theorem Free.lt {B : Nat} {w : World} {v : Value} {xs : List α} (h : R.Own B w v xs) : ∀ k, v.ownBlock = some k → B ≤ k ∧ k < w.heap.size := h.lt
/-- behind what came of it, all ahead of the first base is as it was -/
theorem Grew.below {B B0 : Nat} {w0 w w' : World} {v : Value} (g : Grew R B w w' v) (h : Below B0 w0 w) (hB : B0 ≤ B) (hz : B0 ≤ w.heap.size) : Below B0 w0 w' :=
  ⟨g.os.trans h.os, g.tape.trans h.tape, g.output.trans h.output, Nat.le_trans h.size g.size, fun k hk => (g.block k (by omega) fun cur _ hb => by omega).trans (h.block k hk)⟩
theorem Grew.boxed {B : Nat} {w w' : World} {v : Value} (g : Grew R B w w' v) {k : Nat} {c : Array Value} {t : TypeId} (hb : Boxed w k c t) (ht : t ≠ R.tE) : Boxed w' k c t := by
  refine (g.block k hb.lt fun cur hc _ => ?_).trans hb
  unfold Boxed at hb
  rw [hb] at hc
  simp only [Option.some.injEq, Obj.cells.injEq] at hc
  exact absurd hc.2.1 ht
end
end RowKind
/-- mailboxes apart from a row stay as they are where that row grows, and are apart from what came of it -/
theorem IsBsG.grew {α : Type} {R : RowKind α} {B : Nat} {w w' : World} {v v' u : Value} {n : List BV} (h : IsBsG (fun b => v.ownBlock = some b) w u n) (g : RowKind.Grew R B w w' v) (s : StaysOrNew w v v') : IsBsG (fun b => v'.ownBlock = some b) w' u n := by
  have h1 : IsBsG (fun b => v.ownBlock = some b ∨ v'.ownBlock = some b) w u n := h.new fun b hb => by
    rcases hb with hb | hb
    · exact .inl hb
    · rcases s with s | s
      · rw [s] at hb; exact .inl hb
      · exact .inr (s b hb)
  exact (h1.keep g.size fun b hl hb => g.block b hl fun _ _ _ e => hb (.inl e)).mono fun b hb => .inr hb
end Go.Proofs.Ytdgnblkoohakeaa
