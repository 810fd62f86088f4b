/- plain: what may come of what: along edges, sooner and later -/
import Derived.Test.YtjaahmgokiobjaaGreatG12
namespace Go.Proofs.YtjaahmgokiobjaaGreat
open Go.RowKit
set_option linter.unusedVariables false
set_option linter.unusedSimpArgs false

theorem leT_trans {t u v : TV} (h : leT t u = true) (k : leT u v = true) : leT t v = true := by
  rw [leT_eq, decide_eq_true_eq] at h k ⊢
  refine ⟨h.1.trans k.1, h.2.1, k.2.2.1, ?_⟩
  omega
theorem leT_self {t : TV} (h : t.rightB = true) : leT t t = true := by
  rw [leT_eq, decide_eq_true_eq]
  exact ⟨rfl, h, h, by omega, by omega, by omega, by omega⟩
/-- a lower step may be done where the other one may -/
theorem apply_lower {a b : HV} {t : TV} (hle : leH a b = true) (hb : applyOk b t = true) : applyOk a t = true ∧ leT (applyT a t) (applyT b t) = true := by
  have hle' := hle
  rw [leH_eq, decide_eq_true_eq] at hle
  obtain ⟨ra, _, hf, hg, l0, l1, l2, l3⟩ := hle
  obtain ⟨rb, rt, db, ob⟩ := (applyOk_iff b t).1 hb
  have p := tpos rt
  have sa := right_size (shape_of ra); have sb := right_size (shape_of rb)
  have b0 := at_bound (shape_of ra) 0; have b1 := at_bound (shape_of ra) 1; have b2 := at_bound (shape_of ra) 2; have b3 := at_bound (shape_of ra) 3
  have c := coord_is t
  have le : (outT a t).c0 ≤ (outT b t).c0 ∧ (outT a t).c1 ≤ (outT b t).c1 ∧ (outT a t).c2 ≤ (outT b t).c2 ∧ (outT a t).c3 ≤ (outT b t).c3 ∧ 0 ≤ (outT a t).c0 ∧ 0 ≤ (outT a t).c1 ∧ 0 ≤ (outT a t).c2 ∧ 0 ≤ (outT a t).c3 := by
    simp only [outT, outC_at, c.1, c.2.1, c.2.2.1, c.2.2.2]
    omega
  have oa : (outT a t).rightB = true := by
    have r := tright ob
    apply decide_eq_true
    unfold rightP at r ⊢
    have : (outT a t).d = (outT b t).d := hg
    rw [this]
    omega
  have ok : applyOk a t = true := (applyOk_iff a t).2 ⟨ra, rt, db.trans hf.symm, oa⟩
  exact ⟨ok, order_time hle' ok hb⟩
/-- two steps that may be done one behind the other may be put together -/
theorem then_ok {a b : HV} {t : TV} (ha : applyOk a t = true) (hb : applyOk b (applyT a t) = true) : thenOk a b = true := by
  obtain ⟨ra, rt, da, oa⟩ := (applyOk_iff a t).1 ha
  rw [applyT_ok ha] at hb
  obtain ⟨rb, _, db, ob⟩ := (applyOk_iff b (outT a t)).1 hb
  have p := tpos rt
  have sa := right_size (shape_of ra); have sb := right_size (shape_of rb)
  have c := coord_is t
  have c' := coord_out a t
  have hg : a.k + a.t = b.f := db
  refine (thenOk_at a b).2 ⟨ra, rb, hg, fun j hj => ?_⟩
  have B := right_bound (of_decide_eq_true (p := _) (decide_eq_true (show (outT b (outT a t)).rightB = true from ob)))
  have hj4 : j = 0 ∨ j = 1 ∨ j = 2 ∨ j = 3 := by omega
  have B' : (outC b (outT a t) 0 ≤ 1048576) ∧ (outC b (outT a t) 1 ≤ 1048576) ∧ (outC b (outT a t) 2 ≤ 1048576) ∧ (outC b (outT a t) 3 ≤ 1048576) := ⟨B.1.2, B.2.1.2, B.2.2.1.2, B.2.2.2.2⟩
  simp only [outC_at, c'.1, c'.2.1, c'.2.2.1, c'.2.2.2, c.1, c.2.1, c.2.2.1, c.2.2.2] at B'
  rcases hj4 with rfl | rfl | rfl | rfl
  · have := B'.1
    show b.at 0 + a.at 0 ≤ _
    rw [if_pos (by omega)] at this
    split at this
    · omega
    · rw [if_pos (by omega)] at this; omega
  · have := B'.2.1
    show b.at 1 + a.at 1 ≤ _
    rw [if_pos (by omega)] at this
    split at this
    · omega
    · rw [if_pos (by omega)] at this; omega
  · have := B'.2.2.1
    show b.at 2 + a.at 2 ≤ _
    rw [if_pos (by omega)] at this
    split at this
    · omega
    · rw [if_pos (by omega)] at this; omega
  · have := B'.2.2.2
    show b.at 3 + a.at 3 ≤ _
    rw [if_pos (by omega)] at this
    split at this
    · omega
    · rw [if_pos (by omega)] at this; omega
/-- may it come by one of these steps? -/
def comes (l : List HV) (t u : TV) : Prop := ∃ h ∈ l, applyOk h t = true ∧ leT (applyT h t) u = true
theorem comes_least {S : HV → Prop} {l : List HV} (L : LeastOf S l) {x : HV} {t u : TV} (hx : S x) (ho : applyOk x t = true) (hl : leT (applyT x t) u = true) : comes l t u := by
  obtain ⟨h, hm, hle⟩ := L.cover x hx
  have q := apply_lower hle ho
  exact ⟨h, hm, q.1, leT_trans q.2 hl⟩
theorem same_apply (d : Int) (h1 : 1 ≤ d) (h4 : d ≤ 4) (t : TV) (ht : t.rightB = true) (hd : t.d = d) : applyOk ⟨d, d, 0, 0, 0, 0, 0, 0, 0, 0, 0⟩ t = true ∧ applyT ⟨d, d, 0, 0, 0, 0, 0, 0, 0, 0, 0⟩ t = t := by
  have r := tright ht
  have key : HV.right ⟨d, d, 0, 0, 0, 0, 0, 0, 0, 0, 0⟩ := by
    unfold HV.right HV.shape fitsP
    simp
    omega
  have z : ∀ i : Int, 0 ≤ i → i < 4 → HV.at ⟨d, d, 0, 0, 0, 0, 0, 0, 0, 0, 0⟩ i = 0 := fun i _ _ => by
    unfold HV.at HV.add HV.tl
    simp
  have hout : outT ⟨d, d, 0, 0, 0, 0, 0, 0, 0, 0, 0⟩ t = t := by
    obtain ⟨td, c0, c1, c2, c3⟩ := t
    have hd : td = d := hd
    subst hd
    unfold rightP at r
    have gz : ∀ i : Int, td ≤ i → greatestS td i ≤ 0 := fun i hi => by unfold greatestS; split <;> (try split) <;> omega
    have g0 := gz 0; have g1 := gz 1; have g2 := gz 2; have g3 := gz 3
    have c := coord_is ⟨td, c0, c1, c2, c3⟩
    have e : ∀ i, outC ⟨td, td, 0, 0, 0, 0, 0, 0, 0, 0, 0⟩ ⟨td, c0, c1, c2, c3⟩ i = _ := outC_at _ _
    unfold outT
    rw [e, e, e, e, z 0 (by omega) (by omega), z 1 (by omega) (by omega), z 2 (by omega) (by omega), z 3 (by omega) (by omega), c.1, c.2.1, c.2.2.1, c.2.2.2]
    simp only [TV.mk.injEq]
    simp only at r
    refine ⟨by omega, ?_, ?_, ?_, ?_⟩
    all_goals
      split
      · omega
      · first | (rw [if_neg (by omega)]; omega) | (split <;> omega)
  have ok : applyOk ⟨d, d, 0, 0, 0, 0, 0, 0, 0, 0, 0⟩ t = true := (applyOk_iff _ t).2 ⟨decide_eq_true key, ht, hd, by rw [hout]; exact ht⟩
  exact ⟨ok, (applyT_ok ok).trans hout⟩
theorem way_more {E : List NE} {n : Nat} {h0 : HV} {m : Nat} {x : HV} (w : Way E n h0 m x) {e : NE} (he : e ∈ E) (hs : e.src = m) (ho : thenOk x e.s = true) : Way E n h0 e.dst (thenV x e.s) := by
  obtain ⟨es, hE, hr⟩ := w
  refine ⟨es ++ [e], fun a ha => ?_, ?_⟩
  · rcases List.mem_append.1 ha with h | h
    · exact hE a h
    · rw [List.mem_singleton.1 h]; exact he
  · rw [run_append, hr]
    show run m x [e] = _
    unfold run
    rw [if_pos ⟨hs, ho⟩]
    rfl
theorem way_none (E : List NE) (n : Nat) (h0 : HV) : Way E n h0 n h0 := ⟨[], fun _ h => by simp at h, rfl⟩
/-- along an edge what comes may come -/
theorem comes_edge {E : List NE} {n : Nat} {h0 : HV} {m : Nat} {l l' : List HV} {e : NE} (L : LeastOf (Way E n h0 m) l) (L' : LeastOf (Way E n h0 e.dst) l') (he : e ∈ E) (hs : e.src = m) {t u : TV} (hc : comes l t u) (ho : applyOk e.s u = true) : comes l' t (applyT e.s u) := by
  obtain ⟨x, hx, hxo, hxl⟩ := hc
  have k := keeps_time hxl ho
  have o := then_ok hxo k.1
  have q := then_time o hxo
  refine comes_least L' (way_more (L.mem x hx) he hs o) ?_ ?_
  · rw [← q.1]; exact k.1
  · rw [← q.2]; exact k.2
end Go.Proofs.YtjaahmgokiobjaaGreat
