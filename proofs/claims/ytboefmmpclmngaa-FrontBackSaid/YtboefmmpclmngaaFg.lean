/- changes of counts: rows of them; what adding and taking away does, as plain facts -/
import Derived.Test.YtboefmmpclmngaaFp
import Derived.Test.YtboefmmpclmngaaOpenRow
namespace Go.Proofs.Ytboefmmpclmngaa
open Go.ChangeShapes Go.WideShapes Go.ChangeAt Go.RowKit Go.Deep
set_option linter.unusedVariables false
set_option linter.unusedSimpArgs false

def encH (c : CV) : List Value := [.int .i64 c.t.d, .int .i64 c.t.c0, .int .i64 c.t.c1, .int .i64 c.t.c2, .int .i64 c.t.c3, .int .i16 c.n]
def RH : RowKind CV where
  enc := encH
  k := 6
  k0 := by decide
  len := fun _ => rfl
  one := by
    intro c u hu
    simp [encH] at hu
    rcases hu with rfl | rfl | rfl | rfl | rfl | rfl <;> rfl
  tE := 62
  tS := 59
  zero := .agg #[.int .i64 0, .int .i64 0, .int .i64 0, .int .i64 0, .int .i64 0, .int .i16 0]
  bytes := 48
  info := by kernel_rfl
  under := Try.underlying59
  zlen := rfl
  byt := by decide
theorem atH {w : World} {b off : Nat} {xs : List CV} (h : RH.Row w b off xs) (j : Nat) (hj : j < xs.length) :
    w.cell? ⟨b, off + j * 6, none⟩ = some (.int .i64 xs[j]!.t.d) ∧ w.cell? ⟨b, off + j * 6 + 1, none⟩ = some (.int .i64 xs[j]!.t.c0) ∧ w.cell? ⟨b, off + j * 6 + 2, none⟩ = some (.int .i64 xs[j]!.t.c1) ∧ w.cell? ⟨b, off + j * 6 + 3, none⟩ = some (.int .i64 xs[j]!.t.c2) ∧ w.cell? ⟨b, off + j * 6 + 4, none⟩ = some (.int .i64 xs[j]!.t.c3) ∧ w.cell? ⟨b, off + j * 6 + 5, none⟩ = some (.int .i16 xs[j]!.n) :=
  ⟨h j hj 0 _ rfl, h j hj 1 _ rfl, h j hj 2 _ rfl, h j hj 3 _ rfl, h j hj 4 _ rfl, h j hj 5 _ rfl⟩
def inH (c : CV) : Prop := -32768 ≤ c.n ∧ c.n ≤ 32767
section
variable {H : Type} {enc : TypeId × Value → H} {w : World} {base : Nat} {sp : Nat → Bool} {held : Bool}
theorem change_size : Try.prog.cellsOf 62 = 6 := by kernel_rfl
theorem i16_size : Try.prog.cellsOf 60 = 1 := by kernel_rfl
set_option maxRecDepth 100000 in
theorem open_change_cells (n : Nat) (cs : List Value) (x : DataW H × List MemPlace) (h : DataW.trod enc Try.prog w base sp held n 62 cs = some x) : ∃ c : CV, cs = encH c ∧ inH c := by
  obtain ⟨xs, m, _, _, hl, hxl, hf⟩ := DataW.trod_struct Try.underlying62 h
  rw [change_size] at hl
  match cs, hl with
  | [v0, v1, v2, v3, v4, v5], _ =>
    match xs, hxl with
    | [y0, y1], _ =>
      have g0 := hf 0 ⟨ "Time", 26, 0, false, "", "", 0⟩ rfl
      have g1 := hf 1 ⟨ "N", 60, 5, false, "", "", 40⟩ rfl
      dsimp only at g0 g1
      rw [time_size] at g0
      rw [i16_size] at g1
      simp only [List.drop_zero, List.take_succ_cons, List.take_zero, List.drop_succ_cons, List.getElem?_cons_zero, List.getElem?_cons_succ] at g0 g1
      obtain ⟨t, e0⟩ := open_time_cells g0
      obtain ⟨k, e1, _, hwf⟩ := DataW.trod_int Try.underlying60 g1
      refine ⟨⟨t, k⟩, ?_, ?_⟩
      · have r : [v0, v1, v2, v3, v4, v5] = [v0, v1, v2, v3, v4] ++ [v5] := rfl
        rw [r, e0, e1]
        rfl
      · have hh := Bool.and_eq_true_iff.1 hwf
        exact ⟨of_decide_eq_true hh.1, of_decide_eq_true hh.2⟩
set_option maxRecDepth 100000 in
theorem open_changes {r : Reach} {b0 : Nat} {v : Value} {d : DataW H} {ps : List MemPlace} (hval : Value.okWide Try.prog w r b0 59 v) (hd : DataW.Trod enc Try.prog w base sp held 59 v d ps) : ∃ xs : List CV, RH.Is w v xs ∧ capOk v ∧ ∀ x ∈ xs, inH x :=
  open_rows RH inH change_size open_change_cells hval hd
end

def effs (ls : List CV) (u : TV) : Int := (ls.map fun c => eff c.t c.n u).sum
def tots (ls : List CV) : Int := (ls.map fun c => if c.t.ok = true then c.n else 0).sum
theorem effs_append (a b : List CV) (u : TV) : effs (a ++ b) u = effs a u + effs b u := by simp [effs]
theorem tots_append (a b : List CV) : tots (a ++ b) = tots a + tots b := by simp [tots]
theorem effs_one (c : CV) (u : TV) : effs [c] u = eff c.t c.n u := by simp [effs]
theorem tots_one (c : CV) : tots [c] = if c.t.ok = true then c.n else 0 := by simp [tots]
theorem effs_reverse (a : List CV) (u : TV) : effs a.reverse u = effs a u := by
  induction a with
  | nil => rfl
  | cons c a ih => rw [List.reverse_cons, effs_append, ih, effs_one]; simp only [effs, List.map_cons, List.sum_cons]; omega
theorem tots_reverse (a : List CV) : tots a.reverse = tots a := by
  induction a with
  | nil => rfl
  | cons c a ih => rw [List.reverse_cons, tots_append, ih, tots_one]; simp only [tots, List.map_cons, List.sum_cons]; omega
theorem eff_bound {c : CV} (h : inH c) (u : TV) : -32768 ≤ eff c.t c.n u ∧ eff c.t c.n u ≤ 32768 := by
  obtain ⟨h1, h2⟩ := h
  unfold eff
  split <;> omega
theorem effs_bound : ∀ (ls : List CV), (∀ c ∈ ls, inH c) → ∀ u, -(32768 * (ls.length : Int)) ≤ effs ls u ∧ effs ls u ≤ 32768 * (ls.length : Int)
  | [], _, u => by simp [effs]
  | c :: ls, h, u => by
    have h1 := effs_bound ls (fun d hd => h d (by simp [hd])) u
    have h2 := eff_bound (h c (by simp)) u
    simp only [effs, List.map_cons, List.sum_cons, List.length_cons] at *
    omega
theorem tots_bound : ∀ (ls : List CV), (∀ c ∈ ls, inH c) → -(32768 * (ls.length : Int)) ≤ tots ls ∧ tots ls ≤ 32768 * (ls.length : Int)
  | [], _ => by simp [tots]
  | c :: ls, h => by
    have h1 := tots_bound ls (fun d hd => h d (by simp [hd]))
    obtain ⟨h2, h3⟩ := h c (by simp)
    simp only [tots, List.map_cons, List.sum_cons, List.length_cons] at *
    split <;> omega
/-- counts that have taken this and that -/
structure St (f : List CV) (e : TV → Int) (s : Int) (m : Nat) : Prop where
  good : goodC f
  at_ : ∀ u, atS f u = e u
  sum : sumC f = s
  len : f.length ≤ m
theorem St.nil : St [] (fun _ => 0) 0 0 := ⟨⟨fun c h => (by cases h), List.Pairwise.nil⟩, fun u => rfl, rfl, Nat.le_refl _⟩
theorem St.add {f : List CV} {e : TV → Int} {s : Int} {m : Nat} (h : St f e s m) (t : TV) (n : Int) (h1 : -32768 ≤ n ∧ n ≤ 32768) (h2 : -10000000 ≤ e t ∧ e t ≤ 10000000) :
    St (addC f t n) (fun u => e u + eff t n u) (s + if t.ok = true then n else 0) (m + 1) := by
  obtain ⟨a, b, c, d⟩ := addC_put (f := f) (t := t) (n := n) h.good (by omega) (by rw [h.at_]; omega)
  exact ⟨a, fun u => by rw [b, h.at_], by rw [c, h.sum], Nat.le_trans d (by have := h.len; omega)⟩
/-- behind the first k of the changes -/
def Up (ls : List CV) (k : Nat) (f : List CV) : Prop := St f (effs (ls.take k)) (tots (ls.take k)) k
theorem Up.zero (ls : List CV) : Up ls 0 [] := by
  have := St.nil
  unfold Up
  exact this
theorem Up.succ {ls : List CV} {k : Nat} {f : List CV} (hl : ∀ c ∈ ls, inH c) (h100 : ls.length ≤ 100) (h : Up ls k f) (hk : k < ls.length) : Up ls (k + 1) (addC f (ls[k]!).t (ls[k]!).n) := by
  have hc := hl ls[k]! (by rw [getElem!_pos ls k hk]; exact List.getElem_mem hk)
  obtain ⟨h1, h2⟩ := hc
  have hb := effs_bound (ls.take k) (fun c hc => hl c (List.mem_of_mem_take hc)) (ls[k]!).t
  have hlen : (ls.take k).length ≤ 100 := by rw [List.length_take]; omega
  have := St.add h (ls[k]!).t (ls[k]!).n (by omega) (by omega)
  unfold Up
  have e1 : effs (ls.take (k + 1)) = fun u => effs (ls.take k) u + eff (ls[k]!).t (ls[k]!).n u := by
    funext u; rw [take_getA ls k hk, effs_append, effs_one]
  have e2 : tots (ls.take (k + 1)) = tots (ls.take k) + if (ls[k]!).t.ok = true then (ls[k]!).n else 0 := by rw [take_getA ls k hk, tots_append, tots_one]
  rw [e1, e2]
  exact this
theorem eff_neg (t : TV) (n : Int) (u : TV) : eff t (-n) u = - eff t n u := by unfold eff; split <;> omega
/-- behind the first k that were taken away -/
def Down (ls os : List CV) (k : Nat) (f : List CV) : Prop := St f (fun u => effs ls u - effs (os.take k) u) (tots ls - tots (os.take k)) (ls.length + k)
theorem Up.down {ls os : List CV} {f : List CV} (h : Up ls ls.length f) : Down ls os 0 f := by
  unfold Down
  unfold Up at h
  rw [List.take_of_length_le (Nat.le_refl _)] at h
  exact ⟨h.good, fun u => by rw [h.at_]; simp [effs], by rw [h.sum]; simp [tots], h.len⟩
theorem Down.succ {ls os : List CV} {k : Nat} {f : List CV} (hl : ∀ c ∈ ls, inH c) (ho : ∀ c ∈ os, inH c) (h100 : ls.length ≤ 100) (h1o : os.length ≤ 100) (h : Down ls os k f) (hk : k < os.length) : Down ls os (k + 1) (addC f (os[k]!).t (-(os[k]!).n)) := by
  have hc := ho os[k]! (by rw [getElem!_pos os k hk]; exact List.getElem_mem hk)
  obtain ⟨h1, h2⟩ := hc
  have hb := effs_bound (os.take k) (fun c hc => ho c (List.mem_of_mem_take hc)) (os[k]!).t
  have hb2 := effs_bound ls hl (os[k]!).t
  have hlen : (os.take k).length ≤ 100 := by rw [List.length_take]; omega
  have := St.add h (os[k]!).t (-(os[k]!).n) (by omega) (by omega)
  unfold Down
  have e1 : (fun u => effs ls u - effs (os.take (k + 1)) u) = fun u => effs ls u - effs (os.take k) u + eff (os[k]!).t (-(os[k]!).n) u := by
    funext u; rw [take_getA os k hk, effs_append, effs_one, eff_neg]; omega
  have e2 : tots ls - tots (os.take (k + 1)) = tots ls - tots (os.take k) + if (os[k]!).t.ok = true then -(os[k]!).n else 0 := by
    rw [take_getA os k hk, tots_append, tots_one]; split <;> omega
  rw [e1, e2]
  exact this
/-- the order in which they are taken away -/
def ordC (ls : List CV) (turned : Bool) : List CV := if turned then ls.reverse else ls
theorem Down.end {ls : List CV} {b : Bool} {f : List CV} (h : Down ls (ordC ls b) ls.length f) : f = [] := by
  unfold Down at h
  refine good_empty h.good fun u => ?_
  rw [h.at_]
  have : (ordC ls b).take ls.length = ordC ls b := List.take_of_length_le (by unfold ordC; split <;> simp)
  rw [this]
  unfold ordC
  split
  · rw [effs_reverse]; omega
  · omega
theorem ord_at {ls : List CV} {b : Bool} {k : Nat} (hk : k < ls.length) : (ordC ls b)[k]! = ls[if b then ls.length - 1 - k else k]! := by
  unfold ordC
  cases b
  · rfl
  · simp only [if_true]
    rw [getElem!_pos ls.reverse k (by simpa using hk), List.getElem_reverse, getElem!_pos ls (ls.length - 1 - k) (by omega)]
theorem ord_in {ls : List CV} (b : Bool) (h : ∀ c ∈ ls, inH c) : ∀ c ∈ ordC ls b, inH c := by
  unfold ordC
  split
  · intro c hc; exact h c (List.mem_reverse.1 hc)
  · exact h
theorem ord_len (ls : List CV) (b : Bool) : (ordC ls b).length = ls.length := by unfold ordC; split <;> simp
end Go.Proofs.Ytboefmmpclmngaa
