/- plain facts of what a program makes: at most eight records, errors of one to five; two numbers; a way around; an echo -/
import Derived.Test.YthhceggcdaljdaaGreatK01
namespace Go.Proofs.YthhceggcdaljdaaGreat
open Go.RowKit
set_option linter.unusedVariables false
set_option linter.unusedSimpArgs false

theorem ofN_err (op a b : Int) : (ofN op a b).2 = 0 ∨ (ofN op a b).2 = 2 ∨ (ofN op a b).2 = 3 := by
  have hr : ∀ x, (roomN x).2 = 0 ∨ (roomN x).2 = 2 ∨ (roomN x).2 = 3 := fun x => by
    unfold roomN; split <;> simp
  unfold ofN
  repeat' (first | exact hr _ | split)
  all_goals simp
/-- what an instruction leaves -/
theorem stepP_what {r : RV} {x : NV} {s s' : List Int} {out out' : List RV} {pc pc' : Nat} {e : Int} (h : stepP r x s out pc = (e, s', out', pc')) :
    ((e = 0 ∨ e = 1 ∨ e = 2 ∨ e = 3) ∧ out' = out) ∨ (out.length = 8 ∧ e = 5) ∨ (out.length ≠ 8 ∧ e = 0 ∧ out'.length = out.length + 1) := by
  unfold stepP at h
  by_cases hb : s.length < takesN x.op ∨ 8 < s.length - takesN x.op + givesN x.op
  · rw [if_pos hb] at h
    simp only [Prod.mk.injEq] at h
    exact .inl ⟨.inr (.inl h.1.symm), h.2.2.1.symm⟩
  rw [if_neg hb] at h
  simp only at h
  generalize (if takesN x.op = 0 then (0 : Int) else s[s.length - takesN x.op]!) = a at h
  generalize (if takesN x.op = 2 then s[s.length - takesN x.op + 1]! else (0 : Int)) = b at h
  generalize s.take (s.length - takesN x.op) = t at h
  by_cases h1 : x.op = 1
  · rw [if_pos h1] at h; simp only [Prod.mk.injEq] at h; exact .inl ⟨.inl h.1.symm, h.2.2.1.symm⟩
  rw [if_neg h1] at h
  by_cases h1 : x.op = 2
  · rw [if_pos h1] at h; simp only [Prod.mk.injEq] at h; exact .inl ⟨.inl h.1.symm, h.2.2.1.symm⟩
  rw [if_neg h1] at h
  by_cases h1 : x.op = 3
  · rw [if_pos h1] at h; simp only [Prod.mk.injEq] at h; exact .inl ⟨.inl h.1.symm, h.2.2.1.symm⟩
  rw [if_neg h1] at h
  by_cases h1 : x.op = 11
  · rw [if_pos h1] at h; simp only [Prod.mk.injEq] at h; exact .inl ⟨.inl h.1.symm, h.2.2.1.symm⟩
  rw [if_neg h1] at h
  by_cases h1 : x.op = 12
  · rw [if_pos h1] at h; simp only [Prod.mk.injEq] at h; exact .inl ⟨.inl h.1.symm, h.2.2.1.symm⟩
  rw [if_neg h1] at h
  by_cases h1 : x.op = 13
  · rw [if_pos h1] at h; simp only [Prod.mk.injEq] at h; exact .inl ⟨.inl h.1.symm, h.2.2.1.symm⟩
  rw [if_neg h1] at h
  by_cases h1 : x.op = 14
  · rw [if_pos h1] at h; simp only [Prod.mk.injEq] at h; exact .inl ⟨.inl h.1.symm, h.2.2.1.symm⟩
  rw [if_neg h1] at h
  by_cases h1 : x.op = 15
  · rw [if_pos h1] at h; simp only [Prod.mk.injEq] at h; exact .inl ⟨.inl h.1.symm, h.2.2.1.symm⟩
  rw [if_neg h1] at h
  by_cases h1 : x.op = 16
  · rw [if_pos h1] at h
    simp only [Prod.mk.injEq] at h
    obtain ⟨k1, _, k3, _⟩ := h
    by_cases h8 : out.length = 8
    · rw [if_pos h8] at k1; exact .inr (.inl ⟨h8, k1.symm⟩)
    · rw [if_neg h8] at k1; exact .inr (.inr ⟨h8, k1.symm, by rw [← k3]; simp⟩)
  rw [if_neg h1] at h
  simp only [Prod.mk.injEq] at h
  obtain ⟨k1, _, k3, _⟩ := h
  have := ofN_err x.op a b
  rw [k1] at this
  exact .inl ⟨by omega, k3.symm⟩
theorem stepP_out {r : RV} {x : NV} {s s' : List Int} {out out' : List RV} {pc pc' : Nat} (h : stepP r x s out pc = (0, s', out', pc')) (h8 : out.length ≤ 8) : out'.length ≤ 8 := by
  rcases stepP_what h with ⟨_, k⟩ | ⟨_, k⟩ | ⟨k1, _, k2⟩
  · rw [k]; exact h8
  · cases k
  · omega
theorem stepP_err (r : RV) (x : NV) (s : List Int) (out : List RV) (pc : Nat) : (stepP r x s out pc).1 = 0 ∨ (1 ≤ (stepP r x s out pc).1 ∧ (stepP r x s out pc).1 ≤ 5) := by
  generalize hq : stepP r x s out pc = q
  obtain ⟨e, s', out', pc'⟩ := q
  simp only
  rcases stepP_what hq with ⟨k, _⟩ | ⟨_, k⟩ | ⟨_, k, _⟩ <;> omega
theorem runP_ends (p : List NV) (r : RV) : ∀ (f : Nat) (s : List Int) (out : List RV) (pc : Nat), out.length ≤ 8 →
    ((runP p r f s out pc).2 = 0 ∧ (runP p r f s out pc).1.length ≤ 8) ∨ (∃ e, 1 ≤ e ∧ e ≤ 5 ∧ runP p r f s out pc = errL r e)
  | 0, s, out, pc, h => by
    unfold runP
    split
    · exact .inl ⟨rfl, h⟩
    · exact .inr ⟨4, by decide, by decide, rfl⟩
  | f + 1, s, out, pc, h => by
    rcases Nat.lt_or_ge pc p.length with hp | hp
    · generalize hs : stepP r p[pc]! s out (pc + 1) = q
      obtain ⟨e, s', out', pc'⟩ := q
      by_cases he : e = 0
      · subst he
        rw [runP_go hp hs]
        exact runP_ends p r f s' out' pc' (stepP_out hs h)
      · rw [runP_bad hp hs he]
        have := stepP_err r p[pc]! s out (pc + 1)
        rw [hs] at this
        exact .inr ⟨e, by omega, by omega, rfl⟩
    · rw [runP_end hp]; exact .inl ⟨rfl, h⟩
/-- what ProgEnds asks -/
theorem runC_ends (p : List NV) (r : RV) : ((runC p r).2 = 0 ∧ (runC p r).1.length ≤ 8 ∧ (rightC p = true ∨ (runC p r).1 = [])) ∨ (rightC p = true ∧ ∃ e, 1 ≤ e ∧ e ≤ 5 ∧ runC p r = errL r e) := by
  unfold runC
  by_cases h : rightC p = true
  · rw [if_pos h]
    rcases runP_ends p r 256 [] [] 0 (by simp) with k | k
    · exact .inl ⟨k.1, k.2, .inl h⟩
    · exact .inr ⟨h, k⟩
  · rw [if_neg h]
    exact .inl ⟨rfl, by simp, .inr rfl⟩
theorem runC_len (p : List NV) (r : RV) : (runC p r).1.length ≤ 8 := by
  rcases runC_ends p r with h | ⟨_, e, _, _, h⟩
  · exact h.2.1
  · rw [h]; simp [errL]

/-- a piece so often -/
def repL (m : Nat) (blk : List NV) : List NV := (List.replicate m blk).flatten
theorem repL_succ (m : Nat) (blk : List NV) : repL (m + 1) blk = blk ++ repL m blk := by unfold repL; rw [List.replicate_succ, List.flatten_cons]
theorem repL_add (m : Nat) (blk : List NV) : repL (m + 1) blk = repL m blk ++ blk := by unfold repL; rw [List.replicate_succ', List.flatten_append]; simp
theorem repL_len (m : Nat) (blk : List NV) : (repL m blk).length = m * blk.length := by
  induction m with
  | zero => simp [repL]
  | succ m ih => rw [repL_succ, List.length_append, ih, Nat.add_mul]; omega
theorem repL_at (blk tl : List NV) : ∀ (m i j : Nat), i < m → j < blk.length → (repL m blk ++ tl)[i * blk.length + j]? = blk[j]?
  | m + 1, 0, j, hi, hj => by
    rw [repL_succ, List.append_assoc, Nat.zero_mul, Nat.zero_add, List.getElem?_append_left hj]
  | m + 1, i + 1, j, hi, hj => by
    have h := repL_at blk tl m i j (by omega) hj
    have e : (i + 1) * blk.length + j = blk.length + (i * blk.length + j) := by rw [Nat.add_mul]; omega
    rw [repL_succ, List.append_assoc, e, List.getElem?_append_right (by omega), ← h]
    congr 1
    omega
theorem repL_get (blk tl : List NV) (m i j : Nat) (hi : i < m) (hj : j < blk.length) : (repL m blk ++ tl)[i * blk.length + j]! = blk[j]! := by
  rw [List.getElem!_eq_getElem?_getD, List.getElem!_eq_getElem?_getD, repL_at blk tl m i j hi hj]
theorem repL_tail (blk tl : List NV) (m j : Nat) : (repL m blk ++ tl)[m * blk.length + j]! = tl[j]! := by
  rw [List.getElem!_eq_getElem?_getD, List.getElem!_eq_getElem?_getD, List.getElem?_append_right (by rw [repL_len]; omega), repL_len]
  congr 2
  omega
/- a way around -/
def blkA : List NV := [⟨3, 0⟩, ⟨13, 0⟩]
theorem stepA0 (r : RV) (pc : Nat) : stepP r ⟨3, 0⟩ [] [] pc = (0, [r.v], [], pc) := by simp [stepP, takesN, givesN]
theorem stepA1 (r : RV) (v : Int) (pc : Nat) : stepP r ⟨13, 0⟩ [v] [] pc = (0, [], [], pc) := by simp [stepP, takesN, givesN]
theorem stepA2 (r : RV) (n : Nat) (pc : Nat) : stepP r ⟨14, (n : Int)⟩ [] [] pc = (0, [], [], n) := by simp [stepP, takesN, givesN]
theorem runA_two {m i f : Nat} {r : RV} (tl : List NV) (hi : i < m) : runP (repL m blkA ++ tl) r (f + 1 + 1) [] [] (2 * i) = runP (repL m blkA ++ tl) r f [] [] (2 * (i + 1)) := by
  have hl : (repL m blkA ++ tl).length = m * 2 + tl.length := by rw [List.length_append, repL_len]; rfl
  have g0 : (repL m blkA ++ tl)[2 * i]! = ⟨3, 0⟩ := by have := repL_get blkA tl m i 0 hi (by decide); rw [show i * blkA.length + 0 = 2 * i from by show i * 2 + 0 = _; omega] at this; exact this
  have g1 : (repL m blkA ++ tl)[2 * i + 1]! = ⟨13, 0⟩ := by have := repL_get blkA tl m i 1 hi (by decide); rw [show i * blkA.length + 1 = 2 * i + 1 from by show i * 2 + 1 = _; omega] at this; exact this
  rw [runP_go (by omega) (by rw [g0]; exact stepA0 r _), runP_go (by omega) (by rw [g1]; exact stepA1 r _ _)]
  rfl
theorem runA_end (tl : List NV) (r : RV) (m : Nat) : ∀ (k i f : Nat), i + k = m → runP (repL m blkA ++ tl) r (f + 2 * k) [] [] (2 * i) = runP (repL m blkA ++ tl) r f [] [] (2 * m)
  | 0, i, f, h => by
    have e : i = m := by omega
    subst e
    rfl
  | k + 1, i, f, h => by
    rw [show f + 2 * (k + 1) = f + 2 * k + 1 + 1 by omega, runA_two tl (by omega)]
    exact runA_end tl r m k (i + 1) f (by omega)
theorem rightA (m : Nat) (x : NV) (hm : m ≤ 29) (hx : x.ok (m * 2 + 1)) : rightC (repL m blkA ++ [x]) = true := by
  have hl : (repL m blkA ++ [x]).length = m * 2 + 1 := by rw [List.length_append, repL_len]; rfl
  unfold rightC
  rw [hl, Bool.and_eq_true]
  refine ⟨?_, decide_eq_true (by omega)⟩
  rw [List.all_eq_true]
  intro y hy
  refine decide_eq_true ?_
  rcases List.mem_append.1 hy with hy | hy
  · unfold repL at hy
    obtain ⟨l, h1, h2⟩ := List.mem_flatten.1 hy
    have := List.eq_of_mem_replicate h1
    subst this
    simp [blkA] at h2
    rcases h2 with rfl | rfl <;> (unfold NV.ok; simp)
  · simp at hy
    subst hy
    exact hx
/-- a way to the end -/
theorem runC_around (m : Nat) (hm : m ≤ 29) (r : RV) : runC (repL m blkA ++ [⟨14, ((m * 2 + 1 : Nat) : Int)⟩]) r = ([], 0) := by
  have hl : (repL m blkA ++ [(⟨14, ((m * 2 + 1 : Nat) : Int)⟩ : NV)]).length = m * 2 + 1 := by rw [List.length_append, repL_len]; rfl
  unfold runC
  rw [if_pos (rightA m _ hm (by unfold NV.ok; simp only; omega))]
  have h := runA_end [⟨14, ((m * 2 + 1 : Nat) : Int)⟩] r m m 0 (256 - 2 * m) (by omega)
  rw [show 256 - 2 * m + 2 * m = 255 - 2 * m + 1 + 2 * m by omega] at h
  have h2 := runA_end [⟨14, ((m * 2 + 1 : Nat) : Int)⟩] r m m 0 (255 - 2 * m + 1) (by omega)
  rw [show 255 - 2 * m + 1 + 2 * m = 256 by omega] at h2
  rw [show (0 : Nat) = 2 * 0 by rfl] 
  rw [h2]
  have g : (repL m blkA ++ [(⟨14, ((m * 2 + 1 : Nat) : Int)⟩ : NV)])[2 * m]! = ⟨14, ((m * 2 + 1 : Nat) : Int)⟩ := by
    have := repL_tail blkA [(⟨14, ((m * 2 + 1 : Nat) : Int)⟩ : NV)] m 0
    rw [show m * blkA.length + 0 = 2 * m from by show m * 2 + 0 = _; omega] at this
    exact this
  rw [runP_go (by omega) (by rw [g]; exact stepA2 r _ _), runP_end (by omega)]
/-- a way around without an end -/
theorem runA_round (m : Nat) (r : RV) : ∀ (f i : Nat), i ≤ m → runP (repL m blkA ++ [⟨14, 0⟩]) r f [] [] (2 * i) = errL r 4 := by
  intro f
  induction f using Nat.strongRecOn with
  | _ f ih =>
    intro i hi
    have hl : (repL m blkA ++ [(⟨14, 0⟩ : NV)]).length = m * 2 + 1 := by rw [List.length_append, repL_len]; rfl
    rcases Nat.lt_or_ge i m with him | him
    · have g0 : (repL m blkA ++ [(⟨14, 0⟩ : NV)])[2 * i]! = ⟨3, 0⟩ := by have := repL_get blkA [(⟨14, 0⟩ : NV)] m i 0 him (by decide); rw [show i * blkA.length + 0 = 2 * i from by show i * 2 + 0 = _; omega] at this; exact this
      match f with
      | 0 => exact runP_fuel (by omega)
      | 1 =>
        rw [runP_go (by omega) (by rw [g0]; exact stepA0 r _)]
        exact runP_fuel (by omega)
      | f + 2 =>
        rw [runA_two _ him]
        exact ih f (by omega) (i + 1) (by omega)
    · obtain rfl : i = m := by omega
      have g : (repL i blkA ++ [(⟨14, 0⟩ : NV)])[2 * i]! = ⟨14, 0⟩ := by
        have := repL_tail blkA [(⟨14, 0⟩ : NV)] i 0
        rw [show i * blkA.length + 0 = 2 * i from by show i * 2 + 0 = _; omega] at this
        exact this
      match f with
      | 0 => exact runP_fuel (by omega)
      | f + 1 =>
        rw [runP_go (by omega) (by rw [g]; exact stepA2 r 0 _)]
        exact ih f (by omega) 0 (by omega)
theorem runC_round (m : Nat) (hm : m ≤ 29) (r : RV) : runC (repL m blkA ++ [⟨14, 0⟩]) r = errL r 4 := by
  unfold runC
  rw [if_pos (rightA m _ hm (by unfold NV.ok; simp only; omega))]
  exact runA_round m r 256 0 (by omega)
/- an echo -/
def blkE : List NV := [⟨2, 0⟩, ⟨3, 0⟩, ⟨16, 0⟩]
theorem stepE0 (r : RV) (out : List RV) (pc : Nat) : stepP r ⟨2, 0⟩ [] out pc = (0, [r.k], out, pc) := by simp [stepP, takesN, givesN]
theorem stepE1 (r : RV) (k : Int) (out : List RV) (pc : Nat) : stepP r ⟨3, 0⟩ [k] out pc = (0, [k, r.v], out, pc) := by simp [stepP, takesN, givesN]
theorem stepE2 (r : RV) (k v : Int) (out : List RV) (pc : Nat) : stepP r ⟨16, 0⟩ [k, v] out pc = (if out.length = 8 then 5 else 0, [], out ++ [⟨k, v⟩], pc) := by simp [stepP, takesN, givesN]
theorem getE {m i : Nat} (j : Nat) (hi : i < m) (hj : j < 3) : (repL m blkE)[3 * i + j]! = blkE[j]! := by
  have := repL_get blkE [] m i j hi hj
  rw [List.append_nil, show i * blkE.length + j = 3 * i + j from by show i * 3 + j = _; omega] at this
  exact this
theorem runE_three {m i f : Nat} {r : RV} {out : List RV} (hi : i < m) (h8 : out.length ≠ 8) : runP (repL m blkE) r (f + 1 + 1 + 1) [] out (3 * i) = runP (repL m blkE) r f [] (out ++ [r]) (3 * (i + 1)) := by
  have hl : (repL m blkE).length = m * 3 := repL_len m blkE
  have g0 : (repL m blkE)[3 * i]! = ⟨2, 0⟩ := getE 0 hi (by decide)
  have g1 : (repL m blkE)[3 * i + 1]! = ⟨3, 0⟩ := getE 1 hi (by decide)
  have g2 : (repL m blkE)[3 * i + 1 + 1]! = ⟨16, 0⟩ := getE 2 hi (by decide)
  have e2 : stepP r ⟨16, 0⟩ [r.k, r.v] out (3 * i + 1 + 1 + 1) = (0, [], out ++ [r], 3 * i + 1 + 1 + 1) := by rw [stepE2, if_neg h8]
  rw [runP_go (by omega) (by rw [g0]; exact stepE0 r _ _), runP_go (by omega) (by rw [g1]; exact stepE1 r _ _ _), runP_go (by omega) (by rw [g2]; exact e2)]
  rfl
theorem runE_err {m i f : Nat} {r : RV} {out : List RV} (hi : i < m) (h8 : out.length = 8) : runP (repL m blkE) r (f + 1 + 1 + 1) [] out (3 * i) = errL r 5 := by
  have hl : (repL m blkE).length = m * 3 := repL_len m blkE
  have g0 : (repL m blkE)[3 * i]! = ⟨2, 0⟩ := getE 0 hi (by decide)
  have g1 : (repL m blkE)[3 * i + 1]! = ⟨3, 0⟩ := getE 1 hi (by decide)
  have g2 : (repL m blkE)[3 * i + 1 + 1]! = ⟨16, 0⟩ := getE 2 hi (by decide)
  have e2 : stepP r ⟨16, 0⟩ [r.k, r.v] out (3 * i + 1 + 1 + 1) = (5, [], out ++ [r], 3 * i + 1 + 1 + 1) := by rw [stepE2, if_pos h8]
  rw [runP_go (by omega) (by rw [g0]; exact stepE0 r _ _), runP_go (by omega) (by rw [g1]; exact stepE1 r _ _ _), runP_bad (e := 5) (by omega) (show stepP r _ [r.k, r.v] out (3 * i + 1 + 1 + 1) = _ from by rw [g2]; exact e2) (by decide)]
theorem runE_all (m : Nat) (r : RV) : ∀ (k i f : Nat), i + k ≤ m → i + k ≤ 8 → runP (repL m blkE) r (f + 3 * k) [] (List.replicate i r) (3 * i) = runP (repL m blkE) r f [] (List.replicate (i + k) r) (3 * (i + k))
  | 0, i, f, _, _ => rfl
  | k + 1, i, f, h, h8 => by
    rw [show f + 3 * (k + 1) = f + 3 * k + 1 + 1 + 1 by omega, runE_three (by omega) (by rw [List.length_replicate]; omega), ← List.replicate_succ', runE_all m r k (i + 1) f (by omega) (by omega), show i + 1 + k = i + (k + 1) by omega]
theorem rightE (m : Nat) (hm : m ≤ 11) : rightC (repL m blkE) = true := by
  have hl : (repL m blkE).length = m * 3 := repL_len m blkE
  unfold rightC
  rw [hl, Bool.and_eq_true]
  refine ⟨?_, decide_eq_true (by omega)⟩
  rw [List.all_eq_true]
  intro y hy
  refine decide_eq_true ?_
  unfold repL at hy
  obtain ⟨l, h1, h2⟩ := List.mem_flatten.1 hy
  have := List.eq_of_mem_replicate h1
  subst this
  simp [blkE] at h2
  rcases h2 with rfl | rfl | rfl <;> (unfold NV.ok; simp)
theorem runC_echo (m : Nat) (hm : m ≤ 8) (r : RV) : runC (repL m blkE) r = (List.replicate m r, 0) := by
  unfold runC
  rw [if_pos (rightE m (by omega))]
  have h := runE_all m r m 0 (256 - 3 * m) (by omega) (by omega)
  rw [show 256 - 3 * m + 3 * m = 256 by omega, Nat.zero_add] at h
  have h2 : runP (repL m blkE) r 256 [] [] 0 = runP (repL m blkE) r (256 - 3 * m) [] (List.replicate m r) (3 * m) := h
  rw [h2, runP_end (by rw [repL_len]; show m * 3 ≤ _; omega)]
theorem runC_echo9 (m : Nat) (hm : 8 < m) (hm2 : m ≤ 11) (r : RV) : runC (repL m blkE) r = errL r 5 := by
  unfold runC
  rw [if_pos (rightE m hm2)]
  have h : runP (repL m blkE) r 256 [] [] 0 = runP (repL m blkE) r 232 [] (List.replicate 8 r) (3 * 8) := runE_all m r 8 0 232 (by omega) (by omega)
  rw [h]
  exact runE_err (f := 229) hm (by rw [List.length_replicate])
/- two numbers -/
def prog2 (op a b : Int) : List NV := [⟨1, 0⟩, ⟨1, a⟩, ⟨1, b⟩, ⟨op, 0⟩, ⟨16, 0⟩]
theorem runC_two (op a b : Int) (h4 : 4 ≤ op) (h10 : op ≤ 10) (r : RV) : runC (prog2 op a b) r = if (ofN op a b).2 = 0 then ([⟨0, (ofN op a b).1⟩], 0) else errL r (ofN op a b).2 := by
  have hr : rightC (prog2 op a b) = true := by
    unfold rightC
    rw [Bool.and_eq_true]
    refine ⟨?_, decide_eq_true (by show 5 ≤ 64; decide)⟩
    simp [prog2, NV.ok]
    omega
  unfold runC
  rw [if_pos hr]
  have s0 : stepP r ⟨1, 0⟩ [] [] (0 + 1) = (0, [0], [], 0 + 1) := by simp [stepP, takesN, givesN]
  have s1 : stepP r ⟨1, a⟩ [0] [] (0 + 1 + 1) = (0, [0, a], [], 0 + 1 + 1) := by simp [stepP, takesN, givesN]
  have s2 : stepP r ⟨1, b⟩ [0, a] [] (0 + 1 + 1 + 1) = (0, [0, a, b], [], 0 + 1 + 1 + 1) := by simp [stepP, takesN, givesN]
  have ht : takesN op = 2 := by unfold takesN; rw [if_pos (by omega)]
  have hg : givesN op = 1 := by unfold givesN; rw [if_pos (by omega)]
  have s3 : stepP r ⟨op, 0⟩ [0, a, b] [] (0 + 1 + 1 + 1 + 1) = ((ofN op a b).2, [0, (ofN op a b).1], [], 0 + 1 + 1 + 1 + 1) := by
    unfold stepP
    simp only [ht, hg]
    rw [if_neg (by simp), if_neg (by omega), if_neg (by omega), if_neg (by omega), if_neg (by omega), if_neg (by omega), if_neg (by omega), if_neg (by omega), if_neg (by omega), if_neg (by omega)]
    rfl
  rw [runP_go (f := 255) (by show 0 < 5; decide) s0, runP_go (f := 254) (by show 1 < 5; decide) s1, runP_go (f := 253) (by show 2 < 5; decide) s2]
  by_cases hz : (ofN op a b).2 = 0
  · rw [if_pos hz]
    rw [hz] at s3
    have s4 : stepP r ⟨16, 0⟩ [0, (ofN op a b).1] [] (0 + 1 + 1 + 1 + 1 + 1) = (0, [], [⟨0, (ofN op a b).1⟩], 0 + 1 + 1 + 1 + 1 + 1) := by simp [stepP, takesN, givesN]
    rw [runP_go (f := 252) (by show 3 < 5; decide) s3, runP_go (f := 251) (by show 4 < 5; decide) s4]
    exact runP_end (by show 5 ≤ 5; decide)
  · rw [if_neg hz]
    exact runP_bad (f := 252) (by show 3 < 5; decide) s3 hz
end Go.Proofs.YthhceggcdaljdaaGreat
