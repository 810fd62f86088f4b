/- running a program: the plain steps (stepP, runP, runC); rows that the call makes itself: a part of one, two side by side -/
import Derived.Test.YtcflfakffeglgaaQb
import Derived.Test.YtcflfakffeglgaaQc
import Derived.Laws.OwnMore
namespace Go.Proofs.Ytcflfakffeglgaa
open Go.RowKit
set_option linter.unusedVariables false
set_option linter.unusedSimpArgs false

def takesL : List Int := [0, 0, 0, 0, 2, 2, 2, 2, 2, 2, 2, 1, 2, 1, 0, 1, 2]
def givesL : List Int := [0, 1, 1, 1, 1, 1, 1, 1, 1, 1, 1, 2, 2, 0, 0, 0, 0]
def takesN (op : Int) : Nat := if 4 ≤ op ∧ op ≤ 10 ∨ op = 12 ∨ op = 16 then 2 else if op = 11 ∨ op = 13 ∨ op = 15 then 1 else 0
def givesN (op : Int) : Nat := if 1 ≤ op ∧ op ≤ 10 then 1 else if op = 11 ∨ op = 12 then 2 else 0
/-- one instruction: the error, the stack, what is emitted, the next place -/
def stepP (r : RV) (x : NV) (s : List Int) (out : List RV) (pc : Nat) : Int × List Int × List RV × Nat :=
  if s.length < takesN x.op ∨ 8 < s.length - takesN x.op + givesN x.op then (1, s, out, pc)
  else
    let n := s.length - takesN x.op
    let a := if takesN x.op = 0 then 0 else s[n]!
    let b := if takesN x.op = 2 then s[n + 1]! else 0
    if x.op = 1 then (0, s.take n ++ [x.n], out, pc)
    else if x.op = 2 then (0, s.take n ++ [r.k], out, pc)
    else if x.op = 3 then (0, s.take n ++ [r.v], out, pc)
    else if x.op = 11 then (0, s.take n ++ [a, a], out, pc)
    else if x.op = 12 then (0, s.take n ++ [b, a], out, pc)
    else if x.op = 13 then (0, s.take n, out, pc)
    else if x.op = 14 then (0, s.take n, out, x.n.toNat)
    else if x.op = 15 then (0, s.take n, out, if a = 0 then x.n.toNat else pc)
    else if x.op = 16 then (if out.length = 8 then 5 else 0, s.take n, out ++ [⟨a, b⟩], pc)
    else ((ofN x.op a b).2, s.take n ++ [(ofN x.op a b).1], out, pc)
def errL (r : RV) (bad : Int) : List RV × Int := ([⟨r.k, -9223372036854775808 + bad⟩], bad)
def runP (p : List NV) (r : RV) : Nat → List Int → List RV → Nat → List RV × Int
  | 0, _, out, pc => if p.length ≤ pc then (out, 0) else errL r 4
  | f + 1, s, out, pc => if p.length ≤ pc then (out, 0) else
      if (stepP r p[pc]! s out (pc + 1)).1 ≠ 0 then errL r (stepP r p[pc]! s out (pc + 1)).1
      else runP p r f (stepP r p[pc]! s out (pc + 1)).2.1 (stepP r p[pc]! s out (pc + 1)).2.2.1 (stepP r p[pc]! s out (pc + 1)).2.2.2
def runC (p : List NV) (r : RV) : List RV × Int := if rightC p = true then runP p r 256 [] [] 0 else ([], 0)
theorem runP_end {p : List NV} {r : RV} {f : Nat} {s : List Int} {out : List RV} {pc : Nat} (h : p.length ≤ pc) : runP p r f s out pc = (out, 0) := by
  cases f <;> (unfold runP; rw [if_pos h])
theorem runP_fuel {p : List NV} {r : RV} {s : List Int} {out : List RV} {pc : Nat} (h : pc < p.length) : runP p r 0 s out pc = errL r 4 := by
  unfold runP
  rw [if_neg (by omega)]
theorem runP_bad {p : List NV} {r : RV} {f : Nat} {s s' : List Int} {out out' : List RV} {pc pc' : Nat} {e : Int} (h : pc < p.length) (hs : stepP r p[pc]! s out (pc + 1) = (e, s', out', pc')) (he : e ≠ 0) : runP p r (f + 1) s out pc = errL r e := by
  unfold runP
  rw [if_neg (by omega), hs]
  exact if_pos he
theorem runP_go {p : List NV} {r : RV} {f : Nat} {s s' : List Int} {out out' : List RV} {pc pc' : Nat} (h : pc < p.length) (hs : stepP r p[pc]! s out (pc + 1) = (0, s', out', pc')) : runP p r (f + 1) s out pc = runP p r f s' out' pc' := by
  rw [runP, if_neg (by omega), hs]
  rfl

/-- rows of numbers of 64 bits -/
def R6 : RowKind Int where
  enc := fun x => [.int .i64 x]
  k := 1
  k0 := by decide
  len := fun _ => rfl
  one := by
    intro c u hu
    simp at hu
    subst hu
    rfl
  tE := 2
  tS := 39
  zero := .int .i64 0
  bytes := 8
  info := by kernel_rfl
  under := Try.underlying39
  zlen := rfl
  byt := by decide
theorem at6 {w : World} {b off : Nat} {xs : List Int} (h : R6.Row w b off xs) (j : Nat) (hj : j < xs.length) : w.cell? ⟨b, off + j, none⟩ = some (.int .i64 xs[j]!) := by
  have := h j hj 0 _ rfl
  rw [show off + j * R6.k + 0 = off + j from by show off + j * 1 + 0 = _; omega] at this
  exact this
namespace RowKind
theorem Row.litL {α : Type} [Inhabited α] {R : RowKind α} (w : World) (xs : List α) (t : TypeId) : R.Row (w.alloc (.cells (R.cells xs).toArray t)) w.heap.size 0 xs := by
  intro j hj i u hu
  have hi : i < R.k := by have := (List.getElem?_eq_some_iff.1 hu).1; rw [R.len] at this; exact this
  unfold World.cell?
  rw [heap_alloc_new]
  simp only [Nat.zero_add]
  rw [List.getElem?_toArray, R.cells_get xs j hj i hi]
  exact hu
theorem cells_take {α : Type} {R : RowKind α} : ∀ (xs : List α) (m : Nat), R.cells (xs.take m) = (R.cells xs).take (m * R.k)
  | [], m => by simp [cells]
  | x :: xs, 0 => by simp [cells]
  | x :: xs, m + 1 => by
    have := cells_take (R := R) xs m
    unfold cells at *
    rw [List.take_succ_cons, List.flatMap_cons, List.flatMap_cons, this, Nat.add_mul, Nat.one_mul, Nat.add_comm, ← R.len x, List.take_length_add_append]
/-- its first ones -/
theorem Own.part {α : Type} {R : RowKind α} {B : Nat} {w : World} {p : Option Addr} {n c : Nat} {xs : List α} (h : R.Own B w (.slice p n c) xs) (m : Nat) (hm : m ≤ n) : R.Own B w (.slice p m c) (xs.take m) := by
  obtain ⟨h1, h2⟩ := h
  rcases h2 with ⟨e, hn⟩ | ⟨g, cap, cur, e, hB, hg, hc, hmx, hs, ht⟩
  · simp only [Value.slice.injEq] at e
    obtain ⟨rfl, rfl, rfl⟩ := e
    obtain rfl : m = 0 := by omega
    rw [List.take_zero]
    exact Own.nil R B w
  · simp only [Value.slice.injEq] at e
    obtain ⟨rfl, rfl, rfl⟩ := e
    have hl : (xs.take m).length = m := by rw [List.length_take]; omega
    refine ⟨by rw [R.cells_len], .inr ⟨g, c, cur, by rw [hl], hB, hg, by omega, hmx, hs, ?_⟩⟩
    rw [hl, cells_take, ← ht, List.take_take]
    congr 1
    exact (Nat.min_eq_left (Nat.mul_le_mul_right _ (by omega))).symm
theorem Own.apart {α β : Type} {R : RowKind α} {R2 : RowKind β} {B : Nat} {w : World} {v u : Value} {xs : List α} {ys : List β} (h : R.Own B w v xs) (h2 : R2.Own B w u ys) (ht : R2.tE ≠ R.tE) : ∀ k, u.ownBlock = some k → v.ownBlock ≠ some k := by
  intro k hk e
  obtain ⟨_, ⟨rfl, _⟩ | ⟨g, cap, cur, rfl, _, hg, _⟩⟩ := h
  · cases e
  obtain ⟨_, ⟨rfl, _⟩ | ⟨g2, cap2, cur2, rfl, _, hg2, _⟩⟩ := h2
  · cases hk
  have e1 : g = k := Option.some.inj e
  have e2 : g2 = k := Option.some.inj hk
  subst e1
  subst e2
  rw [hg] at hg2
  simp only [Option.some.injEq, Obj.cells.injEq] at hg2
  exact ht hg2.2.1.symm
theorem Own.keepO {β : Type} {R : RowKind β} {B : Nat} {w w' : World} {v : Value} {xs : List β} (h : R.Own B w v xs) (hk : ∀ l, v.ownBlock = some l → w'.heap[l]? = w.heap[l]?) : R.Own B w' v xs := by
  obtain ⟨h1, h2⟩ := h
  refine ⟨h1, ?_⟩
  rcases h2 with h2 | ⟨g, cap, cur, e, hB, hg, rest⟩
  · exact .inl h2
  · exact .inr ⟨g, cap, cur, e, hB, (hk g (by rw [e]; rfl)).trans hg, rest⟩
/-- append of some that were just made; another row, of another type, stays -/
theorem Own.pushO {α β : Type} [Inhabited α] {R : RowKind α} {R2 : RowKind β} {ops : Array Oper} {rest : List Oper} {o : Oper} {a : Act} {Q : Exit → Act → World → Prop} {w0 w : World} {B : Nat} {v u : Value} {xs ys : List α} {zs : List β} (hown : R.Own B w v xs) (hoth : R2.Own B w u zs) (ht : R2.tE ≠ R.tE) (hb : Below B w0 w) (hB : B ≤ w.heap.size)
    (hgd : o.guard = none) (s x : Operand) (ho : o.op = .call { callee := .builtin .append, args := #[s, x], argTypes := #[R.tS, R.tS] }) (hs : a.eval s = v) (t : TypeId)
    (hx : a.eval x = .slice (some ⟨w.heap.size, 0, none⟩) ys.length ys.length) (hlen : xs.length + ys.length ≤ 900000)
    (h : ∀ v' w', R.Own B w' v' (xs ++ ys) → R2.Own B w' u zs → Below B w0 w' → wpList Try.prog ops Q rest (a.put o.dst v') w') :
    wpList Try.prog ops Q (o :: rest) a (w.alloc (.cells (R.cells ys).toArray t)) := by
  have hown' : R.Own B (w.alloc (.cells (R.cells ys).toArray t)) v xs := hown.alloc _
  have hoth' : R2.Own B (w.alloc (.cells (R.cells ys).toArray t)) u zs := hoth.alloc _
  refine Own.append (R := R) hgd s x ho hown' hs ys hx (Row.app (Row.litL w ys t)) (by omega) (by simp; omega) ?_
  intro v' w' h1 h2
  have hlt := hown'.lt
  have hap := hown'.apart hoth' ht
  refine h v' w' h1 (hoth'.keepO fun l hl => h2.block l ((hoth'.lt l hl).2) (fun e => hap l hl e.symm)) ?_
  exact (hb.alloc hB _).grown h2 (by simp; omega) (fun k hk => (hlt k hk).1)
end RowKind
end Go.Proofs.Ytcflfakffeglgaa
