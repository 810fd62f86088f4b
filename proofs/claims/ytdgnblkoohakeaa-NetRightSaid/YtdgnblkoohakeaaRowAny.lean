/- append to long rows inside a region that draws, from any slice; the block stays, or it is new -/
import Derived.Test.YtdgnblkoohakeaaRowBlock
import Derived.Test.YtdgnblkoohakeaaRowBig
import Derived.Laws.OwnMore
namespace Go.Proofs.Ytdgnblkoohakeaa
open Go.RowKit
set_option linter.unusedVariables false
set_option linter.unusedSimpArgs false
namespace RowKind
section
variable {α : Type} {R : RowKind α}
theorem run_appendBL {w : World} {B : Nat} {v vx : Value} {xs ys : List α} (hown : R.Own B w v xs) (hz : R.App w vx ys) (hb0 : 0 < R.bytes) (hlen : (xs.length + ys.length) * R.bytes ≤ 140737488355328) (hB : B ≤ w.heap.size) (ty : TypeId) :
    ∃ v' w', (Builtin.append_ #[R.tS, R.tS] ty #[v, vx]).run Try.prog w = .ok v' w' ∧ R.Own B w' v' (xs ++ ys) ∧ w.grownBy w' v.ownBlock ∧ StaysOrNew w v v' := by
  obtain ⟨i0, hi, hz0, hz1, hz2⟩ := info_parts R.info
  obtain ⟨ad, c, rfl, hc⟩ := hz
  have hm : xs.length + ys.length ≤ maxLen := len_ok hb0 hlen
  obtain ⟨v', w', hr, h1, h2, _⟩ := run_append_own (P := Try.prog) w B R.tS ty R.tE i0 R.zero R.k R.bytes R.under hi hz0 hz1 hz2 R.zlen R.k0 v xs.length (R.cells xs) hown ad ys.length c (R.cells ys) (R.cells_len ys) hc one_cells hm hlen hB
  refine ⟨v', w', hr, ?_, h2, ?_⟩
  · unfold Own
    rw [R.cells_append, List.length_append]
    exact h1
  · obtain ⟨hl, ⟨rfl, hn⟩ | ⟨g, cap, cur, rfl, hg0, hg, hle, hmx, hcs, htk⟩⟩ := hown
    · have hx : xs = [] := List.length_eq_zero_iff.1 hn
      subst hx
      obtain ⟨v2, w2, hr2, k1, _, _⟩ := run_append_own (P := Try.prog) w w.heap.size R.tS ty R.tE i0 R.zero R.k R.bytes R.under hi hz0 hz1 hz2 R.zlen R.k0 (.slice none 0 0) 0 [] (World.ownsRow_nil w _ R.tE R.k) ad ys.length c (R.cells ys) (R.cells_len ys) hc one_cells (by simpa using hm) (by simpa using hlen) (Nat.le_refl _)
      rw [hr] at hr2
      injection hr2 with e1 e2
      subst e1
      subst e2
      exact .inr fun k hk => (World.ownsRow.lt k1 k hk).1
    · by_cases hroom : xs.length + ys.length ≤ cap
      · have hk := R.k0
        have hsz : ∀ j, j < (R.cells ys).length → xs.length * i0.size + j < cur.size := fun j hj => by
          rw [R.cells_len] at hj
          rw [hcs, hz1]
          have : (xs.length + ys.length) * R.k ≤ cap * R.k := Nat.mul_le_mul_right _ hroom
          rw [Nat.add_mul] at this
          omega
        have hrun := run_append_room_cells (P := Try.prog) w R.tS ty R.tE i0 R.under hi g 0 xs.length cap ad ys.length c (R.cells ys) (by rw [hz1]; exact R.cells_len ys) hc one_cells hroom
          (fun j hj => by rw [Nat.zero_add]; unfold World.cell?; simp only [hg]; rw [Array.getElem?_eq_getElem (hsz j hj)]; rfl)
          (fun j hj => by unfold World.frozen?; simp only [hg]; simp)
        rw [hr] at hrun
        injection hrun with e1 e2
        subst e1
        exact .inl rfl
      · obtain ⟨v2, w2, hr2, k1, _⟩ := run_append_arg_grows (P := Try.prog) w R.tS ty R.tE i0 R.zero R.k R.bytes R.under hi hz0 hz1 hz2 R.zlen R.k0 ⟨g, 0, none⟩ xs.length cap (R.cells xs) (R.cells_len xs)
          (fun j u hj => by
            rw [Addr.add_lit, Nat.zero_add]
            unfold World.cell?
            simp only [hg]
            rw [← htk] at hj
            rw [List.getElem?_take] at hj
            split at hj
            · simpa using hj
            · cases hj)
          ad ys.length c (R.cells ys) (R.cells_len ys) hc (by omega) hm hlen
        rw [hr] at hr2
        injection hr2 with e1 e2
        subst e1
        subst e2
        exact .inr fun k hk => (World.ownsRow.lt k1 k hk).1
end
section
variable {α : Type} [Inhabited α] {R : RowKind α}
/-- append of a slice, wherever it lies, nil too -/
theorem run_appendAnyL {w : World} {B : Nat} {v vx : Value} {xs ys : List α} (hown : R.Own B w v xs) (his : R.Is w vx ys) (hb0 : 0 < R.bytes) (hlen : (xs.length + ys.length) * R.bytes ≤ 140737488355328) (hB : B ≤ w.heap.size) (ty : TypeId) :
    ∃ v' w', (Builtin.append_ #[R.tS, R.tS] ty #[v, vx]).run Try.prog w = .ok v' w' ∧ R.Own B w' v' (xs ++ ys) ∧ w.grownBy w' v.ownBlock ∧ StaysOrNew w v v' := by
  rcases his with ⟨rfl, p, cap, rfl, hp⟩ | ⟨hne, b, off, cap, rfl, hb, hr⟩
  · cases p with
    | none =>
      obtain rfl := hp rfl
      obtain ⟨i0, hi, _⟩ := info_parts R.info
      exact ⟨v, w, run_append_owned_none (P := Try.prog) (w := w) B R.tS ty R.tE i0 R.k R.under hi v _ _ hown, by rw [List.append_nil]; exact hown, ⟨rfl, rfl, rfl, Nat.le_refl _, fun _ _ _ => rfl⟩, .inl rfl⟩
    | some ad => exact run_appendBL hown ⟨ad, cap, rfl, fun j u hu => by simp [cells] at hu⟩ hb0 hlen hB ty
  · exact run_appendBL hown hr.app hb0 hlen hB ty
theorem Own.appendAnyRL {ops : Array Oper} {o : Oper} {a : Act} {K : Act → World → Prop} {Q : Exit → Act → World → Prop} {E : Prop} {w : World} (hb0 : 0 < R.bytes) (hgd : o.guard = none) (s x : Operand)
    (ho : o.op = .call { callee := .builtin .append, args := #[s, x], argTypes := #[R.tS, R.tS] }) {B : Nat} {v vx : Value} {xs ys : List α} (hown : R.Own B w v xs) (hs : a.eval s = v)
    (hx : a.eval x = vx) (his : R.Is w vx ys) (hlen : (xs.length + ys.length) * R.bytes ≤ 140737488355328) (hbase : B ≤ w.heap.size)
    (h : ∀ v' w', R.Own B w' v' (xs ++ ys) → w.grownBy w' v.ownBlock → StaysOrNew w v v' → K (a.put o.dst v') w') :
    if Region.wanted o (yielded ops a.tmps) = true then Oper.wp Try.prog o a w K Q else E := by
  have hw : Region.wanted o (yielded ops a.tmps) = true := by simp [Region.wanted, hgd]
  rw [if_pos hw]
  obtain ⟨v', w', hr, h1, h2, h3⟩ := run_appendAnyL hown his hb0 hlen hbase o.type
  exact wp_of_runB ho (by rw [hs, hx]; exact hr) (h v' w' h1 h2 h3)
end
end RowKind
end Go.Proofs.Ytdgnblkoohakeaa
