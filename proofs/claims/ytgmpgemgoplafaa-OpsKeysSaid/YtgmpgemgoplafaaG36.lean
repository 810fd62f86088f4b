/- append to a row of the call's own within a fence; what comes of an operator as items -/
import Derived.Test.YtgmpgemgoplafaaG35
import Derived.Test.YtgmpgemgoplafaaG30
import Derived.OwnWalkIn
namespace Go.Proofs.Ytgmpgemgoplafaa
open Go.RowKit Go.Shelf
set_option linter.unusedVariables false
set_option linter.unusedSimpArgs false

theorem RowKind.Own.appendBF {α : Type} {R : RowKind α} {F : Fence} {n : Nat} {ops : Array Oper} {rest : List Oper} {o : Oper} {a : Act} {Q : Exit → Act → World → Prop} {w : World} (hgd : o.guard = none) (s x : Operand)
    (ho : o.op = .call { callee := .builtin .append, args := #[s, x], argTypes := #[R.tS, R.tS] }) {B : Nat} {v vx : Value} {xs : List α} (hown : R.Own B w v xs) (hs : a.eval s = v) (ys : List α)
    (hx : a.eval x = vx) (hz : R.App w vx ys) (hlen : xs.length + ys.length ≤ 1000000) (hbase : B ≤ w.heap.size)
    (h : ∀ v' w', R.Own B w' v' (xs ++ ys) → w.grownBy w' v.ownBlock → StaysOrNew w v v' → wpListIn F n Try.prog ops Q rest (a.put o.dst v') w') : wpListIn F n Try.prog ops Q (o :: rest) a w := by
  obtain ⟨v', w', hr, h1, h2, h3⟩ := RowKind.run_appendB hown hz hlen hbase o.type
  refine wpListIn_plain hgd fun K hK => ?_
  unfold Oper.wpIn
  refine ⟨?_, ?_⟩
  · simp [Oper.about, ho, resolve, Target.leads, Sem.run_pure]
  · rw [Oper.semAt_plain F _ _ (by rw [ho]; intro c hc; cases hc)]
    simp [execOp, ho, resolve, invoke, builtin, hs, hx, hr, Result.andThen]
    exact hK _ _ (h v' w' h1 h2 h3)
def asI (l : List (RV × Int)) : List IV := l.map fun x => ⟨x.1, x.2⟩
theorem asI_append (l m : List (RV × Int)) : asI (l ++ m) = asI l ++ asI m := by simp [asI]
theorem asI_each (k arg : Int) (p : List NV) (b : List IV) : asI (eachP k arg p b) = eachO k arg p b := by
  induction b with
  | nil => rfl
  | cons c b ih =>
    have h1 : eachP k arg p (c :: b) = pairP (oftenO k c) (oneO k arg p c.t) ++ eachP k arg p b := by simp [eachP]
    rw [h1, asI_append, ih, eachO_cons]
    congr 1
    simp [asI, pairP, oftenO]
theorem asI_pairs (m o : List IV) : asI (pairsL m o) = pairsO m o := by
  induction m with
  | nil => rfl
  | cons c m ih =>
    have h1 : pairsL (c :: m) o = pairO c o ++ pairsL m o := by simp [pairsL]
    have h2 : pairsO (c :: m) o = (o.map fun d => (⟨sumO c.t.k c.t.v d.t.v, c.n * d.n⟩ : IV)) ++ pairsO m o := by simp [pairsO]
    rw [h1, asI_append, ih, h2]
    congr 1
    simp [asI, pairO]
theorem asI_key (kind : Int) (m o : List IV) : asI (keyL kind m o) = keyO kind m o := by
  unfold keyL keyO
  split
  · exact asI_pairs m o
  · rfl
theorem asI_keys (kind : Int) (a b : List IV) : asI (byKeysL kind a b) = byKeysO kind a b := by
  unfold byKeysL byKeysO
  induction keysO a.length a b with
  | nil => rfl
  | cons x l ih => rw [List.flatMap_cons, List.flatMap_cons, asI_append, ih, asI_key]
theorem asI_comes (k arg : Int) (p : List NV) (t0 t1 : List IV) : asI (comesL k arg p t0 t1) = comesO k arg p t0 t1 := by
  unfold comesL comesO
  split
  · exact asI_each _ _ _ _
  · split
    · exact asI_keys _ _ _
    · split
      · exact asI_keys _ _ _
      · split
        · exact asI_each _ _ _ _
        · rfl
theorem asI_prefix {l m : List (RV × Int)} (h : l <+: m) (hp : ∀ c ∈ asI m, 0 < c.n) : manyO (asI l) ≤ manyO (asI m) ∧ ∀ c ∈ asI l, 0 < c.n := by
  obtain ⟨r, rfl⟩ := h
  rw [asI_append] at hp ⊢
  rw [manyO_append]
  have h2 := manyO_pos (l := asI r) fun c hc => hp c (List.mem_append_right _ hc)
  exact ⟨by omega, fun c hc => hp c (List.mem_append_left _ hc)⟩
theorem asI_snoc (l : List (RV × Int)) (x : RV × Int) : asI (l ++ [x]) = asI l ++ [⟨x.1, x.2⟩] := by simp [asI]
theorem many_snoc (l : List (RV × Int)) (x : RV × Int) : manyO (asI (l ++ [x])) = manyO (asI l) + x.2 := by rw [asI_snoc, manyO_append]; simp [manyO]
/-- what a row of one's own program or bag is, where no block of it is turned -/
theorem KpL.isK {α : Type} [Inhabited α] {R : RowKind α} {Br Bl B0 : Nat} {A B : World} (h : KpL Br Bl A B) {v : Value} {L : List α} (hi : ∃ U, R.Is U v L ∧ Below U.heap.size U A ∧ U.heap.size ≤ B0) (hr : B0 ≤ Br) (hl : B0 ≤ Bl) (hp : ∀ g, rowPtr A Bl = some g → B0 ≤ g) : R.Is B v L := by
  obtain ⟨U, hU, hb, hs⟩ := hi
  have hA := hU.below hb
  rcases hU with ⟨h0, p, c, e, hc⟩ | ⟨h0, b, o, c, e, hbu, hrow⟩
  · exact .inl ⟨h0, p, c, e, hc⟩
  · rcases hA with ⟨h0', _⟩ | ⟨_, b', o', c', e', hb', hrow'⟩
    · exact absurd h0' h0
    · rw [e] at e'
      cases e'
      refine .inr ⟨h0, b, o, c, e, Nat.lt_of_lt_of_le hb' h.size, fun j hj q u hu => ?_⟩
      have hc := hrow' j hj q u hu
      unfold World.cell? at hc ⊢
      cases hk : A.heap[b]? with
      | none => simp [hk] at hc
      | some ob =>
        rw [h.same b ob hk ?_ (by omega) (by omega) (fun e2 => by have := hp b e2; omega)]
        · simpa [hk] using hc
        · simp only [hk] at hc
          cases ob <;> simp_all [Obj.isCells]
end Go.Proofs.Ytgmpgemgoplafaa
