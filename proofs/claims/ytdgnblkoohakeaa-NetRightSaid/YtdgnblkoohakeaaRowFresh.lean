/- append inside a region that draws: to a slice that was made without room, and then to what came of it -/
import Derived.Test.YtdgnblkoohakeaaRow
import Derived.Laws.OwnMore
namespace Go.Proofs.Ytdgnblkoohakeaa
open Go.RowKit
set_option linter.unusedVariables false
set_option linter.unusedSimpArgs false

theorem run_empty_nil {P : Program} (w : World) (t ty e : TypeId) (i : TypeInfo) (ht : P.underlying t = some (.slice e)) (hi : P.info? e = some i) (ad : Addr) (p : Option Addr) (c : Nat) :
    (Builtin.append_ #[t, t] ty #[.slice (some ad) 0 0, .slice p 0 c]).run P w = .ok (.slice (some ad) 0 0) w := by
  cases p with
  | none => simp [Builtin.append_, run_underlying ht, sizeOf, typeInfo, hi, Builtin.lenOf, Builtin.firstCells, storeCells]
  | some b =>
    have hf := run_firstCells_some (P := P) w i.size 0 b 0 c [] (by simp) (fun j u hu => by simp at hu)
    simp [Builtin.append_, run_underlying ht, sizeOf, typeInfo, hi, Builtin.lenOf, hf, storeCells]
theorem balloc1 {w0 W : World} {o : Obj} (h : Below w0.heap.size w0 W) : Below w0.heap.size w0 (W.alloc o) := h.alloc h.size o
theorem balloc2 {w0 W : World} {o o' : Obj} (h : Below w0.heap.size w0 W) : Below w0.heap.size w0 ((W.alloc o).alloc o') := balloc1 (balloc1 h)
theorem bup1 {W wn : World} {o : Obj} (h : Below (W.alloc o).heap.size (W.alloc o) wn) : Below W.heap.size W wn := (balloc1 (Below.refl _ _)).trans (h.mono (by simp))
theorem bup2 {W wn : World} {o o' : Obj} (h : Below ((W.alloc o).alloc o').heap.size ((W.alloc o).alloc o') wn) : Below W.heap.size W wn := bup1 (bup1 h)
namespace RowKind
section
variable {α : Type} {R : RowKind α}
variable (R)
/-- v holds these, in a row of the call's own, or it is a slice without room -/
def Fresh (B : Nat) (w : World) (v : Value) (xs : List α) : Prop := (xs = [] ∧ ∃ ad, v = .slice (some ad) 0 0) ∨ (xs ≠ [] ∧ R.Own B w v xs)
variable {R}
theorem Fresh.below {B : Nat} {w w' : World} {v : Value} {xs : List α} (h : R.Fresh B w v xs) (hb : Below w.heap.size w w') : R.Fresh B w' v xs := by
  rcases h with h | ⟨hn, h⟩
  · exact .inl h
  · exact .inr ⟨hn, h.below hb⟩
theorem Fresh.alloc {B : Nat} {w : World} {v : Value} {xs : List α} (h : R.Fresh B w v xs) (o : Obj) : R.Fresh B (w.alloc o) v xs := by
  rcases h with h | ⟨hn, h⟩
  · exact .inl h
  · exact .inr ⟨hn, h.alloc o⟩
theorem Fresh.mono {B B' : Nat} {w : World} {v : Value} {xs : List α} (h : R.Fresh B w v xs) (hb : B' ≤ B) : R.Fresh B' w v xs := by
  rcases h with h | ⟨hn, h⟩
  · exact .inl h
  · exact .inr ⟨hn, h.mono hb⟩
/-- their own blocks are two -/
def Sep (v vp : Value) (xs : List α) : Prop := xs ≠ [] → ∀ k l, v.ownBlock = some k → vp.ownBlock = some l → l ≠ k
theorem sepA {β : Type} {R2 : RowKind β} {B B2 : Nat} {w w2 : World} {v vp : Value} {xs : List α} {ys : List β} (hf : R.Fresh B w v xs) (hp : R2.Own B2 w2 vp ys) (h : w.heap.size ≤ B2) : Sep v vp xs := fun hne k l hk hl => by
  rcases hf with ⟨e, _⟩ | ⟨_, ho⟩
  · exact absurd e hne
  · have h1 := (ho.lt k hk).2
    have h2 := (hp.lt l hl).1
    omega
theorem sepB {β : Type} {R2 : RowKind β} {B B2 : Nat} {w w2 : World} {v vp : Value} {xs : List α} {ys : List β} (hp : R2.Own B2 w vp ys) (hf : R.Fresh B w2 v xs) (h : w.heap.size ≤ B) : Sep v vp xs := fun hne k l hk hl => by
  rcases hf with ⟨e, _⟩ | ⟨_, ho⟩
  · exact absurd e hne
  · have h1 := (ho.lt k hk).1
    have h2 := (hp.lt l hl).2
    omega
/-- what a step leaves of a row: all, if it leaves the row's own block -/
theorem Own.keepK {B : Nat} {w w' : World} {v : Value} {xs : List α} (h : R.Own B w v xs) (hk : ∀ l, v.ownBlock = some l → w'.heap[l]? = w.heap[l]?) : R.Own B w' v xs := by
  obtain ⟨h1, h2⟩ := h
  refine ⟨h1, ?_⟩
  rcases h2 with h2 | ⟨g, cap, cur, e, hB, hg, rest⟩
  · exact .inl h2
  · exact .inr ⟨g, cap, cur, e, hB, (hk g (by rw [e]; rfl)).trans hg, rest⟩
end
section
variable {α : Type} [Inhabited α] {R : RowKind α}
theorem Fresh.is {B : Nat} {w : World} {v : Value} {xs : List α} (h : R.Fresh B w v xs) : R.Is w v xs := by
  rcases h with ⟨rfl, ad, rfl⟩ | ⟨_, h⟩
  · exact .inl ⟨rfl, some ad, 0, rfl, fun e => (by cases e)⟩
  · exact h.is
theorem wp_of_run {P : Program} {o : Oper} {a : Act} {K : Act → World → Prop} {Q : Exit → Act → World → Prop} {w w' : World} {v : Value} {s x : Operand} {t : TypeId}
    (ho : o.op = .call { callee := .builtin .append, args := #[s, x], argTypes := #[t, t] }) (hr : (Builtin.append_ #[t, t] o.type #[a.eval s, a.eval x]).run P w = .ok v w') (h : K (a.put o.dst v) w') : o.wp P a w K Q := by
  unfold Oper.wp execOp
  simp only [ho, resolve, invoke, builtin, Sem.run_bind, Sem.run_pure, Result.andThen_ok, List.map_toArray, List.map_cons, List.map_nil, hr]
  exact h
/-- a slice without room, and a slice behind it: a new row, or the slice as it was -/
theorem emptyR {ops : Array Oper} {o : Oper} {a : Act} {K : Act → World → Prop} {Q : Exit → Act → World → Prop} {E : Prop} {w : World} (hgd : Region.wanted o (yielded ops a.tmps) = true) (s x : Operand)
    (ho : o.op = .call { callee := .builtin .append, args := #[s, x], argTypes := #[R.tS, R.tS] }) {ad : Addr} (hs : a.eval s = .slice (some ad) 0 0) {vx : Value} {ys : List α} (hx : a.eval x = vx) (his : R.Is w vx ys) (hlen : ys.length ≤ 900000)
    (h : ∀ v' w', R.Fresh w.heap.size w' v' ys → Below w.heap.size w w' → K (a.put o.dst v') w') :
    if Region.wanted o (yielded ops a.tmps) = true then Oper.wp Try.prog o a w K Q else E := by
  rw [if_pos hgd]
  obtain ⟨i0, hi, hz0, hz1, hz2⟩ := info_parts R.info
  rcases his with ⟨rfl, p, cap, rfl, _⟩ | ⟨hne, b, off, cap, rfl, hb, hr⟩
  · refine wp_of_run ho (v := .slice (some ad) 0 0) (w' := w) ?_ (h _ _ (.inl ⟨rfl, ad, rfl⟩) (Below.refl _ _))
    rw [hs, hx]
    exact run_empty_nil w _ _ _ _ R.under hi ad p cap
  · obtain ⟨ad2, c2, e, hc⟩ := hr.app (c := cap)
    have e2 : ad2 = ⟨b, off, none⟩ := by
      simp only [Value.slice.injEq, Option.some.injEq] at e
      exact e.1.symm
    subst e2
    have hpos : 0 < ys.length := by cases ys with | nil => exact absurd rfl hne | cons => simp
    have hby : (0 + ys.length) * i0.bytes ≤ 140737488355328 := by rw [hz2, Nat.zero_add]; exact byt_ok (Nat.le_trans hlen (by decide))
    have hrun := run_append_grow (P := Try.prog) w R.tS o.type R.tE i0 R.zero R.under hi hz0 ad 0 0 [] (by simp) (fun j v hv => by simp at hv) ⟨b, off, none⟩ ys.length cap (R.cells ys) (by rw [hz1]; exact R.cells_len ys) hc (by omega) (by omega) (growslice_fits (by omega) hby)
    have hge := grownCap_ge w (0 + ys.length) 0 R.tE
    have hle := grownCap_le_maxLen w (0 + ys.length) 0 R.tE (by unfold maxLen; omega)
    generalize grownCap w (0 + ys.length) 0 R.tE = cp at hge hle hrun
    have hl : ([] : List Value).toArray ++ (R.cells ys).toArray = (R.cells ys).toArray := by simp
    rw [hl] at hrun
    refine wp_of_run ho (by rw [hs, hx]; exact hrun) (h _ _ (.inr ⟨hne, ?_⟩) ((Below.refl _ w).drew.alloc (Nat.le_refl _) _))
    rw [Nat.zero_add]
    refine ⟨R.cells_len ys, .inr ⟨w.heap.size, cp, _, rfl, Nat.le_refl _, heap_alloc_new w.drew _, by omega, hle, ?_, ?_⟩⟩
    · rw [Array.size_append, List.size_toArray, R.cells_len, size_zeroCells, R.zlen, ← Nat.add_mul, show ys.length + (cp - ys.length) = cp by omega]
    · rw [Array.toList_append]
      exact List.take_left' (R.cells_len ys)
/-- one behind what came of it -/
theorem freshR {ops : Array Oper} {o : Oper} {a : Act} {K : Act → World → Prop} {Q : Exit → Act → World → Prop} {E : Prop} {w : World} {B : Nat} {v : Value} {xs : List α} (hf : R.Fresh B w v xs) (hgd : Region.wanted o (yielded ops a.tmps) = true) (s x : Operand)
    (ho : o.op = .call { callee := .builtin .append, args := #[s, x], argTypes := #[R.tS, R.tS] }) (hs : a.eval s = v) {vx : Value} {y : α} (hx : a.eval x = vx) (hr : R.Is w vx [y]) (hlen : xs.length ≤ 900000) {B0 : Nat} {w0 : World} (hB0 : Below B0 w0 w) (hB : B0 ≤ B) (hBw : B ≤ w.heap.size)
    (h : ∀ v' w', R.Is w' v' (xs ++ [y]) → Below B0 w0 w' → (∀ l, l < w.heap.size → (∀ k, v.ownBlock = some k → xs ≠ [] → l ≠ k) → w'.heap[l]? = w.heap[l]?) → K (a.put o.dst v') w') :
    if Region.wanted o (yielded ops a.tmps) = true then Oper.wp Try.prog o a w K Q else E := by
  rcases hf with ⟨rfl, ad, rfl⟩ | ⟨hne, hown⟩
  · refine emptyR (ys := [y]) hgd s x ho hs hx hr (by simp) ?_
    intro v' w' hF hW
    exact h v' w' hF.is (hB0.trans (hW.mono (Nat.le_trans hB hBw))) (fun l hl _ => hW.block l hl)
  · rw [if_pos hgd]
    obtain ⟨i0, hi, hz0, hz1, hz2⟩ := info_parts R.info
    rcases hr with ⟨e, _⟩ | ⟨_, b, off, c, rfl, hb, hr⟩
    · cases e
    obtain ⟨ad2, c2, e, hc⟩ := hr.app (c := c)
    have e2 : ad2 = ⟨b, off, none⟩ := by
      simp only [Value.slice.injEq, Option.some.injEq] at e
      exact e.1.symm
    subst e2
    refine wp_append_own _ s x R.tS ho B R.tE i0 R.zero R.k R.bytes R.under hi hz0 hz1 hz2 R.zlen R.k0 v xs.length (R.cells xs) hs hown ⟨b, off, none⟩ 1 c (R.cells [y]) hx (R.cells_len [y]) hc one_cells ?_ (byt_ok (by omega)) hBw ?_
    · unfold maxLen; omega
    · intro v' w' h1 h2 _
      have q : R.Own B w' v' (xs ++ [y]) := by
        unfold Own
        rw [R.cells_append, List.length_append]
        exact h1
      refine h v' w' q.is (hB0.grown h2 (Nat.le_trans hB hBw) (fun k hk => Nat.le_trans hB (hown.lt k hk).1)) (fun l hl hk => h2.block l hl ?_)
      intro e
      exact hk l e.symm hne rfl
end
end RowKind
end Go.Proofs.Ytdgnblkoohakeaa
