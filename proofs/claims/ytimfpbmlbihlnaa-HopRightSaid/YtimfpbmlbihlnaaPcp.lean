/- the document's Apply on steps: the walk -/
import Derived.Test.YtimfpbmlbihlnaaPb
import Derived.Test.YtimfpbmlbihlnaaRc
import Derived.Test.YtimfpbmlbihlnaaH4
namespace Go.Proofs.Ytimfpbmlbihlnaa
open Go.RowKit
set_option linter.unusedVariables false
set_option linter.unusedSimpArgs false
attribute [local go_sem ↓] loadH loadT storeH storeT
attribute [local simp] size_setRow
attribute [local go_sem] rowAt_head rowOf_alloc_at rowOf_alloc_past rowOf_drew rowOf_drewN rowOf_setRow_same rowOf_setRow_other rowOf_setCell_same rowOf_setCell_other size_setRow setRow_drew setRow_alloc_at setRow_alloc_past one_int one_bool cell_setRow_same cell_setRow_other frozen_setRow_same frozen_setRow_other

/-- rows of ints -/
def RN : RowKind Int where
  enc := fun x => [.int .i64 x]
  k := 1
  k0 := by decide
  len := fun _ => rfl
  one := by
    intro c u hu
    simp at hu
    subst hu
    rfl
  tE := 3
  tS := 45
  zero := .int .i64 0
  bytes := 8
  info := by kernel_rfl
  under := Try.underlying45
  zlen := rfl
  byt := by decide
theorem RN_cells : ∀ xs : List Int, RN.cells xs = xs.map (Value.int .i64)
  | [] => rfl
  | x :: xs => by
    have := RN_cells xs
    unfold RowKind.cells at *
    rw [List.flatMap_cons, this]
    rfl
theorem RN_own {B : Nat} {w : World} {v : Value} {xs : List Int} : RN.Own B w v xs ↔ OwnI B w v xs := by
  unfold RowKind.Own OwnI
  rw [RN_cells]
  exact Iff.rfl
theorem atN {w : World} {b off : Nat} {xs : List Int} (h : RN.Row w b off xs) (j : Nat) (hj : j < xs.length) : w.cell? ⟨b, off + j, none⟩ = some (.int .i64 xs[j]!) := by
  have := h j hj 0 _ rfl
  rw [show off + j * RN.k + 0 = off + j from by show off + j * 1 + 0 = _; omega] at this
  exact this
def outA (P : List PV) (C : List Int) : List Int := P.map (fun (p : PV) => if (0 : Int) ≤ p.o then p.x + C[p.o.toNat]! else p.x)
theorem outA_take (P : List PV) (C : List Int) (k : Nat) (hk : k < P.length) : outA (P.take (k + 1)) C = outA (P.take k) C ++ [if 0 ≤ P[k]!.o then P[k]!.x + C[P[k]!.o.toNat]! else P[k]!.x] := by
  unfold outA
  rw [take_getA P k hk, List.map_append]
  rfl
theorem coords_len (d c0 c1 c2 c3 : Int) (h : 1 ≤ d) (h4 : d ≤ 4) : ((coords d c0 c1 c2 c3).length : Int) = d := by
  unfold coords
  rw [List.length_take]
  simp only [List.length_cons, List.length_nil]
  omega
theorem coords_get (d c0 c1 c2 c3 : Int) (i : Nat) (h4 : d ≤ 4) (hi : (i : Int) < d) : (coords d c0 c1 c2 c3)[i]! = TV.coord ⟨d, c0, c1, c2, c3⟩ i := by
  have hl : i < (coords d c0 c1 c2 c3).length := by unfold coords; rw [List.length_take]; simp only [List.length_cons, List.length_nil]; omega
  rw [getElem!_pos _ i hl]
  have e : (coords d c0 c1 c2 c3)[i] = [c0, c1, c2, c3][i]'(by first | (simp; done) | (simp; omega)) := List.getElem_take
  rw [e]
  unfold TV.coord
  have : i = 0 ∨ i = 1 ∨ i = 2 ∨ i = 3 := by omega
  rcases this with rfl | rfl | rfl | rfl <;> simp
theorem coords_ok {d c0 c1 c2 c3 : Int} (h : rightB d c0 c1 c2 c3 = true) : ∀ c ∈ coords d c0 c1 c2 c3, 0 ≤ c ∧ c ≤ 1048576 := by
  obtain ⟨h0, h1, h2, h3⟩ := right_bound h
  intro c hc
  have := List.mem_of_mem_take hc
  simp at this
  rcases this with rfl | rfl | rfl | rfl <;> assumption
theorem min40 : (min (4 : Int) 0).toNat = 0 := rfl
theorem min41 : (min (4 : Int) 1).toNat = 1 := rfl
theorem min42 : (min (4 : Int) 2).toNat = 2 := rfl
theorem min43 : (min (4 : Int) 3).toNat = 3 := rfl
theorem min44 : (min (4 : Int) 4).toNat = 4 := rfl
theorem parts_ok {h : HV} (r : h.rightB = true) : ∀ p ∈ partsP h, (0 ≤ p.x ∧ p.x ≤ 1048576) ∧ -1 ≤ p.o ∧ p.o < h.k ∨ (0 ≤ p.x ∧ p.x ≤ 1048576) ∧ p.o = -1 := by
  have q : h.right := of_decide_eq_true r
  obtain ⟨f, k, t, a0, a1, a2, a3, b0, b1, b2, b3⟩ := h
  obtain ⟨⟨s1, s2, s3, s4, s5, s6⟩, g1, g2, hA, hB⟩ := q
  simp only [fitsP] at s1 s2 s3 s4 s5 s6 g1 g2 hA hB
  clear r
  have hk : k = 0 ∨ k = 1 ∨ k = 2 ∨ k = 3 ∨ k = 4 := by omega
  have hu : t = 0 ∨ t = 1 ∨ t = 2 ∨ t = 3 ∨ t = 4 := by omega
  rcases hk with rfl | rfl | rfl | rfl | rfl <;> rcases hu with rfl | rfl | rfl | rfl | rfl
  all_goals first | (exfalso; omega) | skip
  all_goals
    simp only [partsP, keptP, tailP, min40, min41, min42, min43, min44, List.take_zero, List.take_succ_cons, List.cons_append, List.nil_append, List.forall_mem_cons]
    repeat' constructor
    all_goals first | omega | (intro p hp; simp at hp)
theorem outT_is {h : HV} {t : TV} (r : h.rightB = true) (rt : t.rightB = true) (hd : t.d = h.f) :
    outT h t = ⟨((outA (partsP h) (coords t.d t.c0 t.c1 t.c2 t.c3)).length : Int), nth (outA (partsP h) (coords t.d t.c0 t.c1 t.c2 t.c3)) 0, nth (outA (partsP h) (coords t.d t.c0 t.c1 t.c2 t.c3)) 1, nth (outA (partsP h) (coords t.d t.c0 t.c1 t.c2 t.c3)) 2, nth (outA (partsP h) (coords t.d t.c0 t.c1 t.c2 t.c3)) 3⟩ := by
  have q : h.right := of_decide_eq_true r
  obtain ⟨f, k, u, a0, a1, a2, a3, b0, b1, b2, b3⟩ := h
  obtain ⟨d, c0, c1, c2, c3⟩ := t
  obtain ⟨⟨s1, s2, s3, s4, s5, s6⟩, g1, g2, _, _⟩ := q
  simp only at s1 s2 s3 s4 s5 s6 g1 g2 hd
  subst hd
  have g := fun (i : Nat) (hi : (i : Int) < d) => coords_get d c0 c1 c2 c3 i (by omega) hi
  have e0 := g 0; have e1 := g 1; have e2 := g 2; have e3 := g 3
  generalize coords d c0 c1 c2 c3 = C at *
  clear g r rt
  have hk : k = 0 ∨ k = 1 ∨ k = 2 ∨ k = 3 ∨ k = 4 := by omega
  have hu : u = 0 ∨ u = 1 ∨ u = 2 ∨ u = 3 ∨ u = 4 := by omega
  rcases hk with rfl | rfl | rfl | rfl | rfl <;> rcases hu with rfl | rfl | rfl | rfl | rfl
  all_goals first | (exfalso; omega) | skip
  all_goals
    (try have e0 := e0 (by omega))
    (try have e1 := e1 (by omega))
    (try have e2 := e2 (by omega))
    (try have e3 := e3 (by omega))
    simp [outT, outC, HV.add, HV.tl, partsP, keptP, tailP, outA, nth, TV.coord, min40, min41, min42, min43, min44, *] at *
    try omega
theorem apply_plain_no {h : HV} {t : TV} (n : (h.rightB && t.rightB && (t.d == h.f)) = false) : applyOk h t = false ∧ applyT h t = ⟨0, 0, 0, 0, 0⟩ := by
  have hn : applyOk h t = false := by unfold applyOk; rw [n]; rfl
  exact ⟨hn, by unfold applyT TV.gate; rw [hn]; rfl⟩
theorem apply_plain {h : HV} {t : TV} (r : h.rightB = true) (rt : t.rightB = true) (hd : t.d = h.f) : ofV (outA (partsP h) (coords t.d t.c0 t.c1 t.c2 t.c3)) = .tuple #[(applyT h t).val, .bool (applyOk h t)] := by
  have e : applyOk h t = (outT h t).rightB := by unfold applyOk; rw [r, rt, hd]; simp
  unfold applyT
  rw [e, outT_is r rt hd]
  rfl
end Go.Proofs.Ytimfpbmlbihlnaa
