/- numbers of 64 bits; instructions (NV), rows of them (RC) -/
import Derived.Test.YtgmpgemgoplafaaG02
import Derived.Test.YtgmpgemgoplafaaG01
import Derived.Laws.MakeOwn
import Derived.Test.YtgmpgemgoplafaaG03
import Derived.Laws.OwnMore
namespace Go.Proofs.Ytgmpgemgoplafaa
open Go.RowKit
set_option linter.unusedVariables false
set_option linter.unusedSimpArgs false

/-- it has room in 64 bits -/
def inR (x : Int) : Prop := -9223372036854775808 ≤ x ∧ x ≤ 9223372036854775807
instance (x : Int) : Decidable (inR x) := by unfold inR; infer_instance
structure NV where
  op : Int
  n : Int
instance : Inhabited NV := ⟨⟨0, 0⟩⟩
def NV.enc (x : NV) : List Value := [.int .i64 x.op, .int .i64 x.n]
abbrev NV.val (x : NV) : Value := .agg #[.int .i64 x.op, .int .i64 x.n]
def RC : RowKind NV where
  enc := NV.enc
  k := 2
  k0 := by decide
  len := fun _ => rfl
  one := by
    intro c u hu
    simp [NV.enc] at hu
    rcases hu with rfl | rfl <;> rfl
  tE := 119
  tS := 22
  zero := .agg #[.int .i64 0, .int .i64 0]
  bytes := 16
  info := by kernel_rfl
  under := Try.underlying22
  zlen := rfl
  byt := by decide
theorem atC7 {w : World} {b off : Nat} {xs : List NV} (h : RC.Row w b off xs) (j : Nat) (hj : j < xs.length) :
    w.cell? ⟨b, off + j * 2, none⟩ = some (.int .i64 xs[j]!.op) ∧ w.cell? ⟨b, off + j * 2 + 1, none⟩ = some (.int .i64 xs[j]!.n) :=
  ⟨h j hj 0 _ rfl, h j hj 1 _ rfl⟩
def NV.ok (len : Nat) (x : NV) : Prop := 1 ≤ x.op ∧ x.op ≤ 16 ∧ ((x.op = 14 ∨ x.op = 15) → 0 ≤ x.n ∧ x.n ≤ (len : Int)) ∧ ((x.op ≠ 1 ∧ x.op ≠ 14 ∧ x.op ≠ 15) → x.n = 0)
instance (len : Nat) (x : NV) : Decidable (x.ok len) := by unfold NV.ok; infer_instance
end Go.Proofs.Ytgmpgemgoplafaa
/- what an operation on two numbers gives (ofN), and the document's Of, sum, product, one -/
namespace Go.Proofs.Ytgmpgemgoplafaa
open Go.RowKit
set_option linter.unusedVariables false
set_option linter.unusedSimpArgs false

/-- a number that has room, or none -/
def roomN (x : Int) : Int × Int := if inR x then (x, 0) else (0, 2)
def ofN (op a b : Int) : Int × Int :=
  if op = 4 then roomN (a + b) else if op = 5 then roomN (a - b) else if op = 6 then roomN (a * b)
  else if op = 7 then (if b = 0 then (0, 3) else roomN (a.tdiv b))
  else if op = 8 then (if b = 0 then (0, 3) else (a.tmod b, 0))
  else if op = 9 then (if a < b then 1 else 0, 0)
  else if op = 10 then (if a = b then 1 else 0, 0)
  else (0, 0)
theorem wrap_in {x : Int} (h : inR x) : wrap64 x = x := by
  unfold inR at h
  unfold wrap64
  omega
theorem wrap_range (x : Int) : inR (wrap64 x) := by
  unfold inR
  unfold wrap64
  omega
theorem wrap_mod (x : Int) : ∃ k : Int, wrap64 x = x + k * 18446744073709551616 := by
  refine ⟨(wrap64 x - x) / 18446744073709551616, ?_⟩
  unfold wrap64
  omega
/-- the test by which the product is told to have had room -/
theorem prod_test {a b : Int} (ha : inR a) (hb : inR b) (h0 : b ≠ 0) : (wrap64 (a * b)).tdiv b = a ↔ inR (a * b) := by
  constructor
  · intro h
    have h1 := Int.mul_tdiv_add_tmod (wrap64 (a * b)) b
    rw [h] at h1
    obtain ⟨k, hk⟩ := wrap_mod (a * b)
    have h2 := Int.natAbs_tmod (wrap64 (a * b)) b
    have h3 := Nat.mod_lt (wrap64 (a * b)).natAbs (show 0 < b.natAbs by omega)
    rw [← h2] at h3
    clear h2
    have hw := wrap_range (a * b)
    rw [Int.mul_comm b a] at h1
    generalize (wrap64 (a * b)).tmod b = r at *
    generalize wrap64 (a * b) = p at *
    generalize a * b = q at *
    unfold inR at *
    omega
  · intro h
    rw [wrap_in h, Int.mul_tdiv_cancel _ h0]

theorem tdiv_in {x b : Int} (hx : inR x) (h0 : b ≠ 0) (h1 : ¬ (b = -1 ∧ x = -9223372036854775808)) : inR (x.tdiv b) := by
  by_cases hb : b = 1
  · subst hb; rw [Int.tdiv_one]; exact hx
  by_cases hb2 : b = -1
  · subst hb2
    have : x.tdiv (-1) = -x := by rw [Int.tdiv_neg, Int.tdiv_one]
    rw [this]
    unfold inR at *
    omega
  have h2 : (x.tdiv b).natAbs = x.natAbs / b.natAbs := Int.natAbs_tdiv x b
  have h3 : x.natAbs / b.natAbs ≤ x.natAbs / 2 := Nat.div_le_div_left (by omega) (by decide)
  rw [← h2] at h3
  unfold inR at *
  omega
def roomV (x : Int) : Value := .tuple #[.int .i64 (roomN x).1, .bool (decide ((roomN x).2 = 0))]
theorem roomV_in {x : Int} (h : inR x) : roomV x = .tuple #[.int .i64 x, .bool true] := by unfold roomV roomN; rw [if_pos h]; rfl
theorem roomV_out {x : Int} (h : ¬ inR x) : roomV x = .tuple #[.int .i64 0, .bool false] := by unfold roomV roomN; rw [if_neg h]; rfl
theorem ret2 {a a' : Int} {b : Bool} {v : Value} (hv : v = .tuple #[.int .i64 a', .bool b]) (h : a = a') : Ending.returned (.tuple #[.int .i64 a, .bool b]) = .returned v := by rw [hv, h]
end Go.Proofs.Ytgmpgemgoplafaa
/- the document's Of on two numbers -/
namespace Go.Proofs.Ytgmpgemgoplafaa
open Go.RowKit
set_option linter.unusedVariables false
set_option linter.unusedSimpArgs false

theorem roomN_in {x : Int} (h : inR x) : roomN x = (x, 0) := if_pos h
theorem roomN_out {x : Int} (h : ¬ inR x) : roomN x = (0, 2) := if_neg h
abbrev ofV2 (r : Int × Int) : Value := .tuple #[.int .i64 r.1, .int .i64 r.2]
theorem tmod_in {a b : Int} (ha : inR a) (h0 : b ≠ 0) : inR (a.tmod b) := by
  have h := Int.natAbs_tmod a b
  have h2 := Nat.mod_le a.natAbs b.natAbs
  have h3 : a.tmod b = 0 ∨ (0 ≤ a ∧ 0 ≤ a.tmod b) ∨ (a < 0 ∧ a.tmod b ≤ 0) := by
    rcases Int.le_total 0 a with q | q
    · exact .inr (.inl ⟨q, Int.tmod_nonneg b q⟩)
    · by_cases z : a = 0
      · subst z; exact .inl (Int.zero_tmod b)
      · refine .inr (.inr ⟨by omega, ?_⟩)
        have := Int.tmod_nonneg b (show 0 ≤ -a by omega)
        rw [Int.neg_tmod] at this
        omega
  rw [← h] at h2
  unfold inR at *
  omega
theorem ret2i {a a' b b' : Int} (h : a = a') (k : b = b') : Ending.returned (.tuple #[.int .i64 a, .int .i64 b]) = .returned (.tuple #[.int .i64 a', .int .i64 b']) := by rw [h, k]
end Go.Proofs.Ytgmpgemgoplafaa
/- instructions (NV), rows of them (RC); right programs (rightC); the document's Right -/
namespace Go.Proofs.Ytgmpgemgoplafaa
open Go.RowKit
set_option linter.unusedVariables false
set_option linter.unusedSimpArgs false

def rightC (p : List NV) : Bool := (p.all fun x => decide (x.ok p.length)) && decide (p.length ≤ 64)
theorem all_drop {p : List NV} {len k : Nat} (h : k < p.length) : ((p.drop k).all fun x => decide (x.ok len)) = (decide (p[k]!.ok len) && (p.drop (k + 1)).all fun x => decide (x.ok len)) := by
  rw [List.drop_eq_getElem_cons h, List.all_cons, getElem!_pos p k h]
end Go.Proofs.Ytgmpgemgoplafaa
/- running a program: the plain steps (stepP, runP, runC); rows that the call makes itself: a part of one, two side by side -/
namespace Go.Proofs.Ytgmpgemgoplafaa
open Go.RowKit
set_option linter.unusedVariables false
set_option linter.unusedSimpArgs false

def takesL : List Int := [0, 0, 0, 0, 2, 2, 2, 2, 2, 2, 2, 1, 2, 1, 0, 1, 2]
def givesL : List Int := [0, 1, 1, 1, 1, 1, 1, 1, 1, 1, 1, 2, 2, 0, 0, 0, 0]
def takesN (op : Int) : Nat := if 4 ≤ op ∧ op ≤ 10 ∨ op = 12 ∨ op = 16 then 2 else if op = 11 ∨ op = 13 ∨ op = 15 then 1 else 0
def givesN (op : Int) : Nat := if 1 ≤ op ∧ op ≤ 10 then 1 else if op = 11 ∨ op = 12 then 2 else 0
/-- one instruction: the error, the stack, what is emitted, the next place -/
def stepP (r : RV) (x : NV) (s : List Int) (out : List RV) (pc : Nat) : Int × List Int × List RV × Nat :=
  if s.length < takesN x.op ∨ 8 < s.length - takesN x.op + givesN x.op then (1, s, out, pc)
  else
    let n := s.length - takesN x.op
    let a := if takesN x.op = 0 then 0 else s[n]!
    let b := if takesN x.op = 2 then s[n + 1]! else 0
    if x.op = 1 then (0, s.take n ++ [x.n], out, pc)
    else if x.op = 2 then (0, s.take n ++ [r.k], out, pc)
    else if x.op = 3 then (0, s.take n ++ [r.v], out, pc)
    else if x.op = 11 then (0, s.take n ++ [a, a], out, pc)
    else if x.op = 12 then (0, s.take n ++ [b, a], out, pc)
    else if x.op = 13 then (0, s.take n, out, pc)
    else if x.op = 14 then (0, s.take n, out, x.n.toNat)
    else if x.op = 15 then (0, s.take n, out, if a = 0 then x.n.toNat else pc)
    else if x.op = 16 then (if out.length = 8 then 5 else 0, s.take n, out ++ [⟨a, b⟩], pc)
    else ((ofN x.op a b).2, s.take n ++ [(ofN x.op a b).1], out, pc)
def errL (r : RV) (bad : Int) : List RV × Int := ([⟨r.k, -9223372036854775808 + bad⟩], bad)
def runP (p : List NV) (r : RV) : Nat → List Int → List RV → Nat → List RV × Int
  | 0, _, out, pc => if p.length ≤ pc then (out, 0) else errL r 4
  | f + 1, s, out, pc => if p.length ≤ pc then (out, 0) else
      if (stepP r p[pc]! s out (pc + 1)).1 ≠ 0 then errL r (stepP r p[pc]! s out (pc + 1)).1
      else runP p r f (stepP r p[pc]! s out (pc + 1)).2.1 (stepP r p[pc]! s out (pc + 1)).2.2.1 (stepP r p[pc]! s out (pc + 1)).2.2.2
def runC (p : List NV) (r : RV) : List RV × Int := if rightC p = true then runP p r 256 [] [] 0 else ([], 0)
theorem runP_end {p : List NV} {r : RV} {f : Nat} {s : List Int} {out : List RV} {pc : Nat} (h : p.length ≤ pc) : runP p r f s out pc = (out, 0) := by
  cases f <;> (unfold runP; rw [if_pos h])
theorem runP_fuel {p : List NV} {r : RV} {s : List Int} {out : List RV} {pc : Nat} (h : pc < p.length) : runP p r 0 s out pc = errL r 4 := by
  unfold runP
  rw [if_neg (by omega)]
theorem runP_bad {p : List NV} {r : RV} {f : Nat} {s s' : List Int} {out out' : List RV} {pc pc' : Nat} {e : Int} (h : pc < p.length) (hs : stepP r p[pc]! s out (pc + 1) = (e, s', out', pc')) (he : e ≠ 0) : runP p r (f + 1) s out pc = errL r e := by
  unfold runP
  rw [if_neg (by omega), hs]
  exact if_pos he
theorem runP_go {p : List NV} {r : RV} {f : Nat} {s s' : List Int} {out out' : List RV} {pc pc' : Nat} (h : pc < p.length) (hs : stepP r p[pc]! s out (pc + 1) = (0, s', out', pc')) : runP p r (f + 1) s out pc = runP p r f s' out' pc' := by
  rw [runP, if_neg (by omega), hs]
  rfl

/-- rows of numbers of 64 bits -/
def R6 : RowKind Int where
  enc := fun x => [.int .i64 x]
  k := 1
  k0 := by decide
  len := fun _ => rfl
  one := by
    intro c u hu
    simp at hu
    subst hu
    rfl
  tE := 2
  tS := 109
  zero := .int .i64 0
  bytes := 8
  info := by kernel_rfl
  under := Try.underlying109
  zlen := rfl
  byt := by decide
theorem at6 {w : World} {b off : Nat} {xs : List Int} (h : R6.Row w b off xs) (j : Nat) (hj : j < xs.length) : w.cell? ⟨b, off + j, none⟩ = some (.int .i64 xs[j]!) := by
  have := h j hj 0 _ rfl
  rw [show off + j * R6.k + 0 = off + j from by show off + j * 1 + 0 = _; omega] at this
  exact this
namespace RowKind
theorem Row.litL {α : Type} [Inhabited α] {R : RowKind α} (w : World) (xs : List α) (t : TypeId) : R.Row (w.alloc (.cells (R.cells xs).toArray t)) w.heap.size 0 xs := by
  intro j hj i u hu
  have hi : i < R.k := by have := (List.getElem?_eq_some_iff.1 hu).1; rw [R.len] at this; exact this
  unfold World.cell?
  rw [heap_alloc_new]
  simp only [Nat.zero_add]
  rw [List.getElem?_toArray, R.cells_get xs j hj i hi]
  exact hu
theorem cells_take {α : Type} {R : RowKind α} : ∀ (xs : List α) (m : Nat), R.cells (xs.take m) = (R.cells xs).take (m * R.k)
  | [], m => by simp [cells]
  | x :: xs, 0 => by simp [cells]
  | x :: xs, m + 1 => by
    have := cells_take (R := R) xs m
    unfold cells at *
    rw [List.take_succ_cons, List.flatMap_cons, List.flatMap_cons, this, Nat.add_mul, Nat.one_mul, Nat.add_comm, ← R.len x, List.take_length_add_append]
/-- its first ones -/
theorem Own.part {α : Type} {R : RowKind α} {B : Nat} {w : World} {p : Option Addr} {n c : Nat} {xs : List α} (h : R.Own B w (.slice p n c) xs) (m : Nat) (hm : m ≤ n) : R.Own B w (.slice p m c) (xs.take m) := by
  obtain ⟨h1, h2⟩ := h
  rcases h2 with ⟨e, hn⟩ | ⟨g, cap, cur, e, hB, hg, hc, hmx, hs, ht⟩
  · simp only [Value.slice.injEq] at e
    obtain ⟨rfl, rfl, rfl⟩ := e
    obtain rfl : m = 0 := by omega
    rw [List.take_zero]
    exact Own.nil R B w
  · simp only [Value.slice.injEq] at e
    obtain ⟨rfl, rfl, rfl⟩ := e
    have hl : (xs.take m).length = m := by rw [List.length_take]; omega
    refine ⟨by rw [R.cells_len], .inr ⟨g, c, cur, by rw [hl], hB, hg, by omega, hmx, hs, ?_⟩⟩
    rw [hl, cells_take, ← ht, List.take_take]
    congr 1
    exact (Nat.min_eq_left (Nat.mul_le_mul_right _ (by omega))).symm
theorem Own.apart {α β : Type} {R : RowKind α} {R2 : RowKind β} {B : Nat} {w : World} {v u : Value} {xs : List α} {ys : List β} (h : R.Own B w v xs) (h2 : R2.Own B w u ys) (ht : R2.tE ≠ R.tE) : ∀ k, u.ownBlock = some k → v.ownBlock ≠ some k := by
  intro k hk e
  obtain ⟨_, ⟨rfl, _⟩ | ⟨g, cap, cur, rfl, _, hg, _⟩⟩ := h
  · cases e
  obtain ⟨_, ⟨rfl, _⟩ | ⟨g2, cap2, cur2, rfl, _, hg2, _⟩⟩ := h2
  · cases hk
  have e1 : g = k := Option.some.inj e
  have e2 : g2 = k := Option.some.inj hk
  subst e1
  subst e2
  rw [hg] at hg2
  simp only [Option.some.injEq, Obj.cells.injEq] at hg2
  exact ht hg2.2.1.symm
theorem Own.keepO {β : Type} {R : RowKind β} {B : Nat} {w w' : World} {v : Value} {xs : List β} (h : R.Own B w v xs) (hk : ∀ l, v.ownBlock = some l → w'.heap[l]? = w.heap[l]?) : R.Own B w' v xs := by
  obtain ⟨h1, h2⟩ := h
  refine ⟨h1, ?_⟩
  rcases h2 with h2 | ⟨g, cap, cur, e, hB, hg, rest⟩
  · exact .inl h2
  · exact .inr ⟨g, cap, cur, e, hB, (hk g (by rw [e]; rfl)).trans hg, rest⟩
/-- append of some that were just made; another row, of another type, stays -/
theorem Own.pushO {α β : Type} [Inhabited α] {R : RowKind α} {R2 : RowKind β} {ops : Array Oper} {rest : List Oper} {o : Oper} {a : Act} {Q : Exit → Act → World → Prop} {w0 w : World} {B : Nat} {v u : Value} {xs ys : List α} {zs : List β} (hown : R.Own B w v xs) (hoth : R2.Own B w u zs) (ht : R2.tE ≠ R.tE) (hb : Below B w0 w) (hB : B ≤ w.heap.size)
    (hgd : o.guard = none) (s x : Operand) (ho : o.op = .call { callee := .builtin .append, args := #[s, x], argTypes := #[R.tS, R.tS] }) (hs : a.eval s = v) (t : TypeId)
    (hx : a.eval x = .slice (some ⟨w.heap.size, 0, none⟩) ys.length ys.length) (hlen : xs.length + ys.length ≤ 900000)
    (h : ∀ v' w', R.Own B w' v' (xs ++ ys) → R2.Own B w' u zs → Below B w0 w' → wpList Try.prog ops Q rest (a.put o.dst v') w') :
    wpList Try.prog ops Q (o :: rest) a (w.alloc (.cells (R.cells ys).toArray t)) := by
  have hown' : R.Own B (w.alloc (.cells (R.cells ys).toArray t)) v xs := hown.alloc _
  have hoth' : R2.Own B (w.alloc (.cells (R.cells ys).toArray t)) u zs := hoth.alloc _
  refine Own.append (R := R) hgd s x ho hown' hs ys hx (Row.app (Row.litL w ys t)) (by omega) (by simp; omega) ?_
  intro v' w' h1 h2
  have hlt := hown'.lt
  have hap := hown'.apart hoth' ht
  refine h v' w' h1 (hoth'.keepO fun l hl => h2.block l ((hoth'.lt l hl).2) (fun e => hap l hl e.symm)) ?_
  exact (hb.alloc hB _).grown h2 (by simp; omega) (fun k hk => (hlt k hk).1)
end RowKind
end Go.Proofs.Ytgmpgemgoplafaa
