/- plain: what is put in and taken out, step by step: each message that was put is in one box, in its order, or was taken, once -/
import Derived.Test.YtdgnblkoohakeaaUa
namespace Go.Proofs.Ytdgnblkoohakeaa
open Go.RowKit
set_option linter.unusedVariables false
set_option linter.unusedSimpArgs false

theorem erase_perm {α : Type} [Inhabited α] {l : List α} {i : Nat} (hi : i < l.length) : List.Perm l (l[i]! :: (l.take i ++ l.drop (i + 1))) := by
  rw [getElem!_pos l i hi]
  have e : l = l.take i ++ l[i] :: l.drop (i + 1) := by
    rw [← List.drop_eq_getElem_cons hi, List.take_append_drop]
  exact (List.Perm.of_eq e).trans List.perm_middle
theorem put_perm (n : List BV) (f t : Int) (m : MV) : List.Perm ((putL n f t m).flatMap BV.l) (m :: n.flatMap BV.l) := by
  induction n with
  | nil => simp [putL]
  | cons b n ih =>
    simp only [putL]
    split
    · simp only [List.flatMap_cons]
      rw [List.append_assoc]
      exact (List.perm_append_comm (l₁ := b.l) (l₂ := [m] ++ n.flatMap BV.l)).trans (by
        show List.Perm (m :: (n.flatMap BV.l ++ b.l)) (m :: (b.l ++ n.flatMap BV.l))
        exact List.Perm.cons _ List.perm_append_comm)
    · split
      · simp
      · simp only [List.flatMap_cons]
        exact (List.Perm.append_left b.l ih).trans List.perm_middle
theorem take_perm {n : List BV} {e f t : Int} {i : Nat} (hi : i < lenL n e f t) : List.Perm (n.flatMap BV.l) ((listL n e f t)[i]! :: (takeL n e f t i).flatMap BV.l) := by
  induction n with
  | nil => exact absurd hi (Nat.not_lt_zero i)
  | cons b n ih =>
    simp only [lenL, listL, takeL] at hi ⊢
    split
    · rename_i q
      rw [if_pos q] at hi
      have hp : List.Perm b.l (b.l[i]! :: b.l.eraseIdx i) := by
        rw [List.eraseIdx_eq_take_drop_succ]
        exact erase_perm hi
      split
      · rename_i h1
        obtain ⟨x, hx⟩ := List.length_eq_one_iff.1 h1
        have : i = 0 := by omega
        subst this
        simp [hx]
      · simp only [List.flatMap_cons]
        exact List.Perm.append_right _ hp
    · rename_i q
      rw [if_neg q] at hi
      simp only [List.flatMap_cons]
      exact (List.Perm.append_left b.l (ih hi)).trans List.perm_middle
theorem lenL_le (n : List BV) (e f t : Int) : lenL n e f t ≤ (n.flatMap BV.l).length := by
  induction n with
  | nil => exact Nat.le_refl _
  | cons b n ih =>
    simp only [lenL, List.flatMap_cons, List.length_append]
    split <;> omega
structure KInv (n : List BV) (ins : List Int) (next taken : Int) : Prop where
  good : GoodN n
  sorted : ∀ b ∈ n, b.l.Pairwise fun x y => x.n < y.n
  low : ∀ b ∈ n, ∀ m ∈ b.l, 0 ≤ m.n ∧ m.n < next
  perm : List.Perm ins ((n.flatMap BV.l).map MV.n)
  nodup : ins.Nodup
  count : (ins.length : Int) + taken = next
theorem KInv.start : KInv [] [] 0 0 := ⟨good_nilN, fun b h => (by cases h), fun b h => (by cases h), List.Perm.refl _, List.nodup_nil, rfl⟩
theorem KInv.len {n : List BV} {ins : List Int} {next taken : Int} (h : KInv n ins next taken) : (n.flatMap BV.l).length = ins.length := by
  have := h.perm.length_eq
  rw [List.length_map] at this
  exact this.symm
theorem KInv.all {n : List BV} {ins : List Int} {next taken : Int} (h : KInv n ins next taken) : rightN n = true ∧ (allN n).length = ins.length := by
  have r := (rightN_iff n).2 h.good
  refine ⟨r, ?_⟩
  unfold allN
  rw [if_pos r]
  exact h.len
theorem KInv.small {n : List BV} {ins : List Int} {next taken : Int} (h : KInv n ins next taken) (e f t : Int) : lenN n e f t = lenL n e f t ∧ lenL n e f t ≤ ins.length := by
  refine ⟨by unfold lenN; rw [if_pos ((rightN_iff n).2 h.good)], ?_⟩
  rw [← h.len]
  exact lenL_le n e f t
theorem KInv.put {n : List BV} {ins : List Int} {next taken : Int} (h : KInv n ins next taken) {f t : Int} {m : MV} (h0 : 0 ≤ f ∧ 0 ≤ t ∧ 0 ≤ m.e) (hl : lenL n m.e f t < 4096) (hm : m.n = next) (hx : 0 ≤ next) : KInv (putL n f t m) (ins ++ [next]) (next + 1) taken := by
  have key : ∀ c ∈ putL n f t m, c ∈ n ∨ (∃ b ∈ n, c.l = b.l ++ [m]) ∨ c.l = [m] := by
    intro c hc
    clear h hl hm hx h0
    induction n with
    | nil =>
      simp only [putL, List.mem_singleton] at hc
      subst hc
      exact .inr (.inr rfl)
    | cons b n ih =>
      simp only [putL] at hc
      split at hc
      · rcases List.mem_cons.1 hc with rfl | hc
        · exact .inr (.inl ⟨b, List.mem_cons_self, rfl⟩)
        · exact .inl (List.mem_cons_of_mem _ hc)
      · split at hc
        · rcases List.mem_cons.1 hc with rfl | hc
          · exact .inr (.inr rfl)
          · exact .inl hc
        · rcases List.mem_cons.1 hc with rfl | hc
          · exact .inl List.mem_cons_self
          · rcases ih hc with q | ⟨b', hb', q⟩ | q
            · exact .inl (List.mem_cons_of_mem _ q)
            · exact .inr (.inl ⟨b', List.mem_cons_of_mem _ hb', q⟩)
            · exact .inr (.inr q)
  refine ⟨put_good h.good h0 hl, fun c hc => ?_, fun c hc x hx' => ?_, ?_, ?_, ?_⟩
  · rcases key c hc with q | ⟨b, hb, q⟩ | q
    · exact h.sorted c q
    · rw [q, List.pairwise_append]
      refine ⟨h.sorted b hb, List.pairwise_singleton _ _, fun x hx y hy => ?_⟩
      simp only [List.mem_singleton] at hy
      subst hy
      rw [hm]
      exact (h.low b hb x hx).2
    · rw [q]; exact List.pairwise_singleton _ _
  · rcases key c hc with q | ⟨b, hb, q⟩ | q
    · have := h.low c q x hx'; omega
    · rw [q] at hx'
      rcases List.mem_append.1 hx' with hx' | hx'
      · have := h.low b hb x hx'; omega
      · simp only [List.mem_singleton] at hx'; subst hx'; omega
    · rw [q] at hx'
      simp only [List.mem_singleton] at hx'; subst hx'; omega
  · have p := (put_perm n f t m).map MV.n
    rw [List.map_cons, hm] at p
    exact ((List.perm_append_comm (l₁ := ins) (l₂ := [next])).trans (List.Perm.cons _ h.perm)).trans p.symm
  · rw [List.nodup_append]
    refine ⟨h.nodup, by simp, fun a ha b hb e => ?_⟩
    simp only [List.mem_singleton] at hb
    subst hb
    subst e
    obtain ⟨x, hx1, hx2⟩ := List.mem_map.1 (h.perm.mem_iff.1 ha)
    obtain ⟨b, hb1, hb2⟩ := List.mem_flatMap.1 hx1
    have := h.low b hb1 x hb2
    omega
  · have := h.count
    rw [List.length_append, List.length_singleton]
    omega
theorem erase_split {ins : List Int} {j : Nat} (hj : j < ins.length) : List.Perm ins (ins[j]! :: (ins.take j ++ ins.drop (j + 1))) := erase_perm hj
theorem KInv.take {n : List BV} {ins : List Int} {next taken : Int} (h : KInv n ins next taken) {e f t : Int} {i : Nat} (hi : i < lenL n e f t) :
    ((listL n e f t)[i]!).n ∈ ins ∧ ∀ j, j < ins.length → ins[j]! = ((listL n e f t)[i]!).n → KInv (takeL n e f t i) (ins.take j ++ ins.drop (j + 1)) next (taken + 1) := by
  have P := take_perm hi
  have Pm := P.map MV.n
  rw [List.map_cons] at Pm
  have Q := h.perm.trans Pm
  generalize (listL n e f t)[i]! = x at *
  refine ⟨Q.mem_iff.2 List.mem_cons_self, fun j hj ej => ?_⟩
  have key : ∀ c ∈ takeL n e f t i, c ∈ n ∨ ∃ b ∈ n, c.l = b.l.eraseIdx i := by
    intro c hc
    clear h hi P Pm Q
    induction n with
    | nil => cases hc
    | cons b n ih =>
      simp only [takeL] at hc
      split at hc
      · split at hc
        · exact .inl (List.mem_cons_of_mem _ hc)
        · rcases List.mem_cons.1 hc with rfl | hc
          · exact .inr ⟨b, List.mem_cons_self, rfl⟩
          · exact .inl (List.mem_cons_of_mem _ hc)
      · rcases List.mem_cons.1 hc with rfl | hc
        · exact .inl List.mem_cons_self
        · rcases ih hc with q | ⟨b', hb', q⟩
          · exact .inl (List.mem_cons_of_mem _ q)
          · exact .inr ⟨b', List.mem_cons_of_mem _ hb', q⟩
  have E := erase_split hj
  rw [ej] at E
  have E2 := (E.symm.trans Q).cons_inv
  have hnd := E.nodup_iff.1 h.nodup
  refine ⟨take_good h.good hi, fun c hc => ?_, fun c hc y hy => ?_, E2, (List.nodup_cons.1 hnd).2, ?_⟩
  · rcases key c hc with q | ⟨b, hb, q⟩
    · exact h.sorted c q
    · rw [q]; exact (h.sorted b hb).sublist (List.eraseIdx_sublist _ _)
  · rcases key c hc with q | ⟨b, hb, q⟩
    · exact h.low c q y hy
    · rw [q] at hy; exact h.low b hb y (List.mem_of_mem_eraseIdx hy)
  · have := h.count
    have := E.length_eq
    rw [List.length_cons] at this
    omega
end Go.Proofs.Ytdgnblkoohakeaa
