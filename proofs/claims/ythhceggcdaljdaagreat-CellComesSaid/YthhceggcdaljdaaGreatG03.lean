/- bag.fits, bag.Right -/
import Derived.Test.YthhceggcdaljdaaGreatG02
import Derived.Test.YthhceggcdaljdaaGreatProg
import Derived.WalkKit
import Derived.Below
import Derived.Handy
import Derived.Deep.QuietTactic
import Derived.BigQuiet
import Derived.Lib.Hide
import Derived.Deep.Light
namespace Go.Proofs.YthhceggcdaljdaaGreat
open Go.RowKit
set_option linter.unusedVariables false
set_option linter.unusedSimpArgs false

def fitsN (n : Int) : Bool := decide (-2147483648 ≤ n ∧ n ≤ 2147483648)
def IV.ok (c : IV) : Bool := !(c.n == 0) && fitsN c.n
/-- the first k are right, and in order -/
def upI (xs : List IV) (k : Nat) : Bool := decide (∀ j, j < k → (xs[j]!).ok = true ∧ (0 < j → (xs[j - 1]!).t.lt (xs[j]!).t = true))
def rightI (xs : List IV) : Bool := upI xs xs.length
theorem upI_zero (xs : List IV) : upI xs 0 = true := decide_eq_true (by intro j h; omega)
theorem upI_succ {xs : List IV} {k : Nat} (h : upI xs k = true) (h1 : (xs[k]!).ok = true) (h2 : 0 < k → (xs[k - 1]!).t.lt (xs[k]!).t = true) : upI xs (k + 1) = true := by
  refine decide_eq_true fun j hj => ?_
  by_cases e : j = k
  · subst e; exact ⟨h1, h2⟩
  · exact of_decide_eq_true h j (by omega)
theorem rightI_no_ok {xs : List IV} {k : Nat} (hk : k < xs.length) (h1 : (xs[k]!).ok = false) : rightI xs = false :=
  decide_eq_false fun h => by have := (h k hk).1; rw [h1] at this; cases this
theorem rightI_no_lt {xs : List IV} {k : Nat} (hk : k < xs.length) (h0 : 0 < k) (h1 : (xs[k - 1]!).t.lt (xs[k]!).t = false) : rightI xs = false :=
  decide_eq_false fun h => by have := (h k hk).2 h0; rw [h1] at this; cases this
theorem bfits_any (n : Int) (w : World) : Calls Tryz.prog 133 #[.int .i64 n] w (Ret (.bool (fitsN n)) w) := by
  go_enter Tryz.func133, Tryz.ntmps133
  by_cases h1 : -2147483648 ≤ n
  · by_cases h2 : n ≤ 2147483648
    · go_wp2
      go_returns
      exact ⟨ret_bool (decide_eq_true ⟨h1, h2⟩).symm, Below.refl _ _⟩
    · go_wp2
      go_returns
      exact ⟨ret_bool (decide_eq_false fun h => absurd h.2 (by omega)).symm, Below.refl _ _⟩
  · go_wp2
    go_returns
    exact ⟨ret_bool (decide_eq_false fun h => absurd h.1 (by omega)).symm, Below.refl _ _⟩
structure Own3 (w : World) (b : Nat) (v0 v1 v2 : Value) : Prop where
  l0 : w.cell? ⟨b, 0, none⟩ = some v0
  l1 : w.cell? ⟨b, 1, none⟩ = some v1
  l2 : w.cell? ⟨b, 2, none⟩ = some v2
theorem Own3.new (w : World) (v0 v1 v2 : Value) (t : TypeId) : Own3 (w.alloc (.cells #[v0, v1, v2] t)) w.heap.size v0 v1 v2 := ⟨by simp, by simp, by simp⟩
theorem Own3.below {w w' : World} {B b : Nat} {v0 v1 v2 : Value} (h : Own3 w b v0 v1 v2) (hb : Below B w w') (hl : b < B) : Own3 w' b v0 v1 v2 :=
  ⟨(hb.cell (p := ⟨b, 0, none⟩) hl).trans h.l0, (hb.cell (p := ⟨b, 1, none⟩) hl).trans h.l1, (hb.cell (p := ⟨b, 2, none⟩) hl).trans h.l2⟩
set_option maxRecDepth 100000 in
set_option maxHeartbeats 4000000 in
theorem bright_row (xs : List IV) (b off cap : Nat) (w : World) (hl : xs.length ≤ 900000) (hb : b < w.heap.size) (hr : RI.Row w b off xs) :
    Calls Tryz.prog 93 #[.slice (some ⟨b, off, none⟩) xs.length cap] w (Ret (.bool (rightI xs)) w) := by
  have hrow : Hid (∀ (W : World), Below w.heap.size w W → ∀ j, j < xs.length → _) := fun W hW j hj => atI (hr.below hW hb) j hj
  clear hr
  generalize hn : xs.length = n at hl
  have HN := Lib.hid hn
  clear hn
  go_enter Tryz.func93, Tryz.ntmps93
  go_wp2
  go_loopg [7] n (fun gg i wr => ∃ k : Nat, k ≤ n ∧ n - k ≤ gg ∧ i = .int .i64 k ∧ Hid (Below w.heap.size w wr) ∧ Hid (upI xs k = true))
  case atStart => exact ⟨0, Nat.zero_le _, by omega, rfl, Below.refl _ _, upI_zero _⟩
  case round =>
    obtain ⟨k, hkn, hg, rfl, HB, HU⟩ := hrel
    by_cases hlt : k < n
    · have hlz : (k : Int) < (n : Int) := by omega
      have hc := hrow.out wr HB.out k (by rw [HN.out]; exact hlt)
      have hno1 := fun h => rightI_no_ok (xs := xs) (k := k) (by rw [HN.out]; exact hlt) h
      have hno2 := fun h => rightI_no_lt (xs := xs) (k := k) (by rw [HN.out]; exact hlt) h
      have hup := fun h => upI_succ (xs := xs) (k := k) HU.out h
      have hcp := fun (W : World) (hW : Below w.heap.size w W) (h : 0 < k) => hrow.out W hW (k - 1) (by rw [HN.out]; omega)
      generalize xs[k]! = c at hc hno1 hno2 hup
      generalize xs[k - 1]! = c' at hno2 hup hcp
      obtain ⟨t, m⟩ := c
      obtain ⟨e0, e1, e2⟩ := hc
      simp only at e0 e1 e2
      have hF := fun W => bfits_any m W
      have hL := fun W => bless_any c'.t t W
      have hok : IV.ok ⟨t, m⟩ = (!(m == 0) && fitsN m) := rfl
      rw [hok] at hno1 hup
      clear hok hrow
      generalize fitsN m = q2 at hno1 hup hF
      generalize c'.t.lt t = q3 at hno2 hup hL
      have HF := Lib.hid hF; have HL := Lib.hid hL
      clear hF hL
      have HN1 := Lib.hid hno1; have HN2 := Lib.hid hno2; have HUP := Lib.hid hup; have HCP := Lib.hid hcp
      clear hno1 hno2 hup hcp
      by_cases hm : m = 0
      · subst hm
        have HB1 := Lib.hid (HB.out.alloc HB.out.size (.cells #[.int .i64 t.k, .int .i64 t.v, .int .i64 0] 57))
        go_wp2
        go_returns
        exact ⟨ret_bool (HN1.out rfl).symm, HB1.out⟩
      have hmb : (m == 0) = false := by simpa using hm
      go_wp2_with fail
      refine (HF.out _).mono ?_
      rintro e w1 ⟨rfl, hb⟩
      have hX1 := (Own3.new wr (.int .i64 t.k) (.int .i64 t.v) (.int .i64 m) 57).below hb (by simp)
      have hB1 := bcall (HB.out.alloc HB.out.size _) hb (by simp; have := HB.out.size; omega)
      clear hb
      obtain ⟨p0, p1, p2⟩ := hX1
      have HB1 := Lib.hid hB1
      clear hB1 e0 e1 e2
      cases q2
      · go_wp2
        go_returns
        exact ⟨ret_bool (HN1.out (by rw [hmb]; rfl)).symm, HB1.out⟩
      by_cases hk0 : k = 0
      · subst hk0
        have HU1 : Hid (upI xs (0 + 1) = true) := HUP.out (by rw [hmb]; rfl) (fun h => absurd h (by omega))
        clear HUP HN1 HN2 HCP HU
        go_wp2_with fail
        refine wp_region_beh (by kernel_rfl) (by kernel_rfl) ?_
        repeat (first | go_big_quiet_step (first | (with_reducible exact Calls.beh (HL.out _))) | quiet_step (first | (with_reducible exact Calls.beh (HL.out _))))
        refine wpQuiet_nil ?_
        intro _ hw'
        obtain ⟨g, hw''⟩ := hw'
        subst hw''
        have HB3 := Lib.hid (HB1.out.trans (g.h.mono HB1.out.size))
        clear p0 p1 p2
        generalize g.w = wq at *
        clear g
        go_wp2
        go_roundg (n - (0 + 1))
        case measure => omega
        case rel => exact ⟨0 + 1, by omega, by omega, by go_num, HB3.out, HU1.out⟩
      obtain ⟨k', rfl⟩ : ∃ k', k = k' + 1 := ⟨k - 1, by omega⟩
      have hkz : (0 : Int) < ((k' + 1 : Nat) : Int) := by omega
      have hc := HCP.out _ HB1.out (by omega)
      simp only [Nat.add_sub_cancel] at hc
      obtain ⟨f0, f1, f2⟩ := hc
      clear HCP f2
      replace p0 := fun p => beh_cell p0 p
      replace p1 := fun p => beh_cell p1 p
      replace p2 := fun p => beh_cell p2 p
      replace f0 := fun p => beh_cell f0 p
      replace f1 := fun p => beh_cell f1 p
      cases q3
      · go_wp2_with fail
        refine wp_region_beh (by kernel_rfl) (by kernel_rfl) ?_
        repeat (first | go_big_quiet_step (first | (with_reducible exact Calls.beh (HL.out _))) | quiet_step (first | (with_reducible exact Calls.beh (HL.out _))))
        refine wpQuiet_nil ?_
        intro _ hw'
        obtain ⟨g, hw''⟩ := hw'
        subst hw''
        have HB3 := Lib.hid (HB1.out.trans (g.h.mono HB1.out.size))
        clear p0 p1 p2
        generalize g.w = wq at *
        clear g
        go_wp2
        go_returns
        exact ⟨ret_bool (HN2.out (by omega) (by trivial)).symm, HB3.out⟩
      · have HU1 : Hid (upI xs (k' + 1 + 1) = true) := HUP.out (by rw [hmb]; rfl) (fun _ => rfl)
        clear HUP HN1 HN2 HU
        go_wp2_with fail
        refine wp_region_beh (by kernel_rfl) (by kernel_rfl) ?_
        repeat (first | go_big_quiet_step (first | (with_reducible exact Calls.beh (HL.out _))) | quiet_step (first | (with_reducible exact Calls.beh (HL.out _))))
        refine wpQuiet_nil ?_
        intro _ hw'
        obtain ⟨g, hw''⟩ := hw'
        subst hw''
        have HB3 := Lib.hid (HB1.out.trans (g.h.mono HB1.out.size))
        clear p0 p1 p2
        generalize g.w = wq at *
        clear g
        go_wp2
        go_roundg (n - (k' + 1 + 1))
        case measure => omega
        case rel => exact ⟨k' + 1 + 1, by omega, by omega, by go_num, HB3.out, HU1.out⟩
    · have hlz : ¬ (k : Int) < (n : Int) := by omega
      have : k = n := by omega
      subst this
      have HX : Hid (rightI xs = true) := by
        have h := HU.out
        rw [← HN.out] at h
        exact h
      clear HU hrow
      go_wp2
      go_returns
      exact ⟨ret_bool HX.out.symm, HB.out⟩
set_option maxHeartbeats 2000000 in
theorem bright_nil (p : Option Addr) (cap : Nat) (w : World) : Calls Tryz.prog 93 #[.slice p 0 cap] w (Ret (.bool (rightI [])) w) := by
  go_enter Tryz.func93, Tryz.ntmps93
  go_wp2
  refine wp_loop_rounds 1 ?_
  rw [rounds_succ]
  go_wp2
  go_returns
  exact ⟨ret_bool (by decide), Below.refl _ _⟩
theorem bright_any (xs : List IV) (v : Value) (w : World) (hl : xs.length ≤ 900000) (h : RI.Is w v xs) : Calls Tryz.prog 93 #[v] w (Ret (.bool (rightI xs)) w) := by
  rcases h with ⟨rfl, p, cap, rfl, _⟩ | ⟨_, b, off, cap, rfl, hb, hr⟩
  · exact bright_nil p cap w
  · exact bright_row xs b off cap w hl hb hr
end Go.Proofs.YthhceggcdaljdaaGreat
namespace Go.Proofs.YthhceggcdaljdaaGreat
open Go.RowKit
set_option linter.unusedVariables false

/-- the cells of block b, if none of them is frozen -/
def rowOf (w : World) (b : Nat) : Option (Array Value) :=
  match w.heap[b]? with
  | some (.cells c _ fr) => if fr.2 ≤ fr.1 then some c else none
  | _ => none
/-- the same world, but that block b's cells are these -/
def setRow (w : World) (b : Nat) (cs : Array Value) : World :=
  { w with heap := w.heap.modify b fun
      | .cells c e fr => .cells cs e fr
      | o => o }

theorem rowOf_some {w : World} {b : Nat} {c : Array Value} (h : rowOf w b = some c) : ∃ t fr, w.heap[b]? = some (.cells c t fr) ∧ fr.2 ≤ fr.1 := by
  unfold rowOf at h
  split at h
  · split at h
    · rename_i c' t fr hh hle
      obtain rfl := Option.some.inj h
      exact ⟨t, fr, hh, hle⟩
    · cases h
  · cases h
theorem rowOf_cell {w : World} {b : Nat} {c : Array Value} (h : rowOf w b = some c) (i : Nat) : w.cell? ⟨b, i, none⟩ = c[i]? := by
  obtain ⟨t, fr, hh, _⟩ := rowOf_some h
  simp [World.cell?, hh]
theorem rowOf_frozen {w : World} {b : Nat} {c : Array Value} (h : rowOf w b = some c) (i : Nat) : w.frozen? ⟨b, i, none⟩ = false := by
  obtain ⟨t, ⟨lo, hi⟩, hh, hle⟩ := rowOf_some h
  simp only [World.frozen?, hh, Bool.and_eq_false_iff, decide_eq_false_iff_not]
  simp only at hle
  omega
theorem rowOf_lt {w : World} {b : Nat} {c : Array Value} (h : rowOf w b = some c) : b < w.heap.size := by
  obtain ⟨t, fr, hh, _⟩ := rowOf_some h
  exact (Array.getElem?_eq_some_iff.1 hh).1
theorem rowOf_block {w w' : World} {b : Nat} (h : w'.heap[b]? = w.heap[b]?) : rowOf w' b = rowOf w b := by unfold rowOf; rw [h]
theorem rowOf_below {W w1 : World} {B b : Nat} {c : Array Value} (h : rowOf W b = some c) (hb : Below B W w1) (hl : b < B) : rowOf w1 b = some c := (rowOf_block (hb.block b hl)).trans h
theorem rowOf_alloc_at {w : World} (c : Array Value) (t : TypeId) (n : Nat) (hn : n = w.heap.size) : rowOf (w.alloc (.cells c t)) n = some c := by
  subst hn
  show (match (w.heap.push (.cells c t))[w.heap.size]? with | some (.cells c _ fr) => if fr.2 ≤ fr.1 then some c else none | _ => none) = some c
  rw [Array.getElem?_push, if_pos rfl]
  rfl
theorem rowOf_alloc_past {w : World} (o : Obj) (n : Nat) (hn : n < w.heap.size) : rowOf (w.alloc o) n = rowOf w n := rowOf_block (Below.heap_alloc w o n hn)
theorem rowOf_drew {w : World} (n : Nat) : rowOf w.drew n = rowOf w n := rfl
theorem rowOf_drewN {w : World} (m n : Nat) : rowOf (w.drewN m) n = rowOf w n := rfl
theorem heap_setRow (w : World) (b : Nat) (c : Array Value) (k : Nat) (h : k ≠ b) : (setRow w b c).heap[k]? = w.heap[k]? := by
  simp only [setRow, Array.getElem?_modify]
  rw [if_neg (by omega)]
theorem rowOf_setRow_other {w : World} (b n : Nat) (c : Array Value) (h : n ≠ b) : rowOf (setRow w b c) n = rowOf w n := rowOf_block (heap_setRow w b c n h)
theorem rowOf_setRow_same {w : World} (b : Nat) (c : Array Value) (h : (rowOf w b).isSome = true) : rowOf (setRow w b c) b = some c := by
  obtain ⟨c0, h0⟩ := Option.isSome_iff_exists.1 h
  obtain ⟨t, fr, hh, hle⟩ := rowOf_some h0
  simp [rowOf, setRow, Array.getElem?_modify, hh, hle]
theorem rowOf_setCell_other {w : World} (a : Addr) (n : Nat) (v : Value) (h : n ≠ a.block) : rowOf (w.setCell a v) n = rowOf w n := rowOf_block (Below.heap_setCell w a v n h)
theorem rowOf_setCell_same {w : World} (b i : Nat) (v : Value) : rowOf (w.setCell ⟨b, i, none⟩ v) b = (rowOf w b).map (·.setIfInBounds i v) := by
  unfold rowOf World.setCell
  simp only [Array.getElem?_modify, if_true]
  cases h : w.heap[b]? with
  | none => simp
  | some o =>
    cases o <;> simp <;> split <;> simp
theorem size_setRow {w : World} (b : Nat) (c : Array Value) : (setRow w b c).heap.size = w.heap.size := by simp [setRow]
theorem setRow_drew {w : World} (b : Nat) (c : Array Value) : setRow w.drew b c = (setRow w b c).drew := rfl
theorem setRow_alloc_at {w : World} (c c' : Array Value) (t : TypeId) (n : Nat) (hn : n = w.heap.size) : setRow (w.alloc (.cells c t)) n c' = w.alloc (.cells c' t) := by
  subst hn
  unfold setRow World.alloc
  congr 1
  apply Array.ext_getElem?
  intro k
  simp only [Array.getElem?_modify, Array.getElem?_push]
  by_cases hk : k = w.heap.size
  · subst hk; simp
  · have : ¬ w.heap.size = k := fun e => hk e.symm
    simp [hk, this]
theorem setRow_alloc_past {w : World} (o : Obj) (n : Nat) (c : Array Value) (hn : n < w.heap.size) : setRow (w.alloc o) n c = (setRow w n c).alloc o := by
  unfold setRow World.alloc
  congr 1
  apply Array.ext_getElem?
  intro k
  simp only [Array.getElem?_modify, Array.getElem?_push, Array.size_modify]
  by_cases hk : k = w.heap.size
  · subst hk
    simp [Nat.ne_of_lt hn]
  · simp [hk]
theorem below_setRow {B : Nat} {a w : World} (h : Below B a w) (b : Nat) (c : Array Value) (hB : B ≤ b) : Below B a (setRow w b c) :=
  h.trans ⟨rfl, rfl, rfl, by simp [setRow], fun k hk => heap_setRow _ _ _ _ (by omega)⟩

theorem add_at (b j : Nat) : (⟨b, 0, none⟩ : Addr).add j = ⟨b, j, none⟩ := by
  unfold Addr.add
  split
  · rename_i h; subst h; rfl
  · simp
/-- what a call of the interpreter's own does where no row is known -/
def slow {α : Type} (x : Sem α) : Sem α := x

theorem run_loadVar_of (P : Program) (w : World) (t : TypeId) (b n : Nat) (ha : (isAgg t).run P w = .ok true w) (hs : (sizeOf t).run P w = .ok n w) :
    (loadVar t ⟨b, 0, none⟩).run P w = match rowOf w b with
      | some c => if c.size = n then .ok (.agg c) w else (slow (loadVar t ⟨b, 0, none⟩)).run P w
      | none => (slow (loadVar t ⟨b, 0, none⟩)).run P w := by
  split
  · rename_i c hc
    split
    · rename_i hn
      subst hn
      have hl : (loadCells ⟨b, 0, none⟩ c.size).run P w = .ok c w := by
        have := run_loadCells_list (P := P) w ⟨b, 0, none⟩ c.toList (fun j v hj => by
          rw [add_at, rowOf_cell hc]; simpa using hj)
        simpa using this
      simp [loadVar, ha, hs, Result.andThen, hl]
    · rfl
  · rfl

def putFrom (c : Array Value) (i : Nat) : List Value → Array Value
  | [] => c
  | v :: r => putFrom (c.setIfInBounds i v) (i + 1) r
theorem size_putFrom : ∀ (vs : List Value) (c : Array Value) (i : Nat), (putFrom c i vs).size = c.size
  | [], _, _ => rfl
  | v :: r, c, i => by rw [putFrom, size_putFrom r]; simp
theorem get_putFrom : ∀ (vs : List Value) (c : Array Value) (i k : Nat), i + vs.length ≤ c.size → (putFrom c i vs)[k]? = if i ≤ k ∧ k < i + vs.length then vs[k - i]? else c[k]?
  | [], c, i, k, _ => by rw [putFrom, if_neg (by intro q; simp at q; omega)]
  | v :: r, c, i, k, h => by
    simp only [List.length_cons] at h
    rw [putFrom, get_putFrom r _ _ _ (by simp; omega), List.length_cons]
    by_cases hk : k = i
    · subst hk
      rw [if_neg (by omega), if_pos (by omega), Nat.sub_self, Array.getElem?_setIfInBounds, if_pos rfl, if_pos (by omega)]
      rfl
    · by_cases hk2 : i + 1 ≤ k ∧ k < i + 1 + r.length
      · rw [if_pos hk2, if_pos (by omega), show k - i = (k - (i + 1)) + 1 by omega, List.getElem?_cons_succ]
      · rw [if_neg hk2, if_neg (by omega), Array.getElem?_setIfInBounds, if_neg (by omega)]
theorem putFrom_all {c cs : Array Value} (h : c.size = cs.size) : putFrom c 0 cs.toList = cs := by
  apply Array.ext_getElem?
  intro k
  rw [get_putFrom _ _ _ _ (by simp; omega)]
  by_cases hk : k < cs.size
  · rw [if_pos (by simp; omega)]; simp
  · rw [if_neg (by simp; omega), Array.getElem?_eq_none (by omega), Array.getElem?_eq_none (by omega)]
theorem setRow_self {w : World} {b : Nat} {c : Array Value} (h : rowOf w b = some c) : setRow w b c = w := by
  obtain ⟨t, fr, hh, _⟩ := rowOf_some h
  have : (w.heap.modify b fun | .cells c' e fr => .cells c e fr | o => o) = w.heap := by
    apply Array.ext_getElem?
    intro k
    simp only [Array.getElem?_modify]
    by_cases hk : b = k
    · subst hk; simp [hh]
    · simp [hk]
  unfold setRow
  rw [this]
theorem setRow_setRow (w : World) (b : Nat) (c c' : Array Value) : setRow (setRow w b c) b c' = setRow w b c' := by
  unfold setRow
  congr 1
  apply Array.ext_getElem?
  intro k
  simp only [Array.getElem?_modify]
  by_cases hk : b = k
  · subst hk
    simp only [if_true]
    cases w.heap[b]? with
    | none => rfl
    | some o => cases o <;> rfl
  · simp [hk]
theorem setCell_row {w : World} {b : Nat} {c : Array Value} (h : rowOf w b = some c) (i : Nat) (v : Value) : w.setCell ⟨b, i, none⟩ v = setRow w b (c.setIfInBounds i v) := by
  obtain ⟨t, fr, hh, _⟩ := rowOf_some h
  unfold setRow World.setCell
  congr 1
  apply Array.ext_getElem?
  intro k
  simp only [Array.getElem?_modify]
  by_cases hk : b = k
  · subst hk; simp [hh]
  · simp [hk]
theorem run_storeCells_row (P : Program) (b : Nat) : ∀ (vs : List Value) (i : Nat) (w : World) (c : Array Value), rowOf w b = some c → i + vs.length ≤ c.size → (∀ v ∈ vs, v.oneCell' = true) →
    (storeCells ⟨b, 0, none⟩ vs i).run P w = .ok () (setRow w b (putFrom c i vs))
  | [], i, w, c, hc, _, _ => by rw [putFrom, setRow_self hc]; rfl
  | v :: rest, i, w, c, hc, hn, ho => by
    simp only [List.length_cons] at hn
    have hi : i < c.size := by omega
    have hcell : w.cell? ⟨b, i, none⟩ = some c[i] := by rw [rowOf_cell hc]; exact Array.getElem?_eq_getElem hi
    have hst : (store ((⟨b, 0, none⟩ : Addr).add i) v).run P w = .ok () (w.setCell ⟨b, i, none⟩ v) := by
      rw [add_at, run_store P w _ v _ (ho v (by simp)), hcell]
      simp only [rowOf_frozen hc]
      rfl
    have hrow : rowOf (w.setCell ⟨b, i, none⟩ v) b = some (c.setIfInBounds i v) := by rw [rowOf_setCell_same, hc]; rfl
    have ih := run_storeCells_row P b rest (i + 1) (w.setCell ⟨b, i, none⟩ v) (c.setIfInBounds i v) hrow (by simp; omega) (fun x hx => ho x (by simp [hx]))
    rw [storeCells, Sem.run_bind, hst]
    show (storeCells ⟨b, 0, none⟩ rest (i + 1)).run P (w.setCell ⟨b, i, none⟩ v) = _
    rw [ih, setCell_row hc, setRow_setRow]
    rfl

theorem run_storeVar_of (P : Program) (w : World) (t : TypeId) (b n : Nat) (cs : Array Value) (hs : (sizeOf t).run P w = .ok n w) :
    (storeVar t ⟨b, 0, none⟩ (.agg cs)).run P w = match rowOf w b with
      | some c => if c.size = n ∧ cs.size = n ∧ n ≠ 0 ∧ cs.toList.all Value.oneCell' = true then .ok () (setRow w b cs) else (slow (storeVar t ⟨b, 0, none⟩ (.agg cs))).run P w
      | none => (slow (storeVar t ⟨b, 0, none⟩ (.agg cs))).run P w := by
  split
  · rename_i c hc
    split
    · rename_i h
      obtain ⟨h1, h2, h3, h4⟩ := h
      have hr := run_storeCells_row P b cs.toList 0 w c hc (by simp; omega) (List.all_eq_true.1 h4)
      rw [putFrom_all (by omega)] at hr
      simp only [storeVar, Sem.run_bind, hs, Result.andThen, Value.cells, h2]
      simp only [ne_eq, not_true, if_false]
      exact hr
    · rfl
  · rfl
end Go.Proofs.YthhceggcdaljdaaGreat
namespace Go.Proofs.YthhceggcdaljdaaGreat
open Go.RowKit
set_option linter.unusedVariables false
set_option linter.unusedSimpArgs false

theorem one_int (k : IntKind) (n : Int) : (Value.int k n).oneCell' = true := rfl
theorem one_bool (b : Bool) : (Value.bool b).oneCell' = true := rfl
/-- the row that begins at an address -/
def rowAt (w : World) (a : Addr) : Option (Array Value) := if a.off = 0 ∧ a.spot = none then rowOf w a.block else none
theorem rowAt_head (w : World) (b : Nat) : rowAt w ⟨b, 0, none⟩ = rowOf w b := rfl
theorem at_head {w : World} {a : Addr} {c : Array Value} (h : rowAt w a = some c) : a = ⟨a.block, 0, none⟩ ∧ rowOf w a.block = some c := by
  unfold rowAt at h
  split at h
  · rename_i q
    obtain ⟨b, o, sp⟩ := a
    obtain ⟨rfl, rfl⟩ := q
    exact ⟨rfl, h⟩
  · cases h
theorem run_loadVar_at (P : Program) (w : World) (t : TypeId) (a : Addr) (n : Nat) (ha : (isAgg t).run P w = .ok true w) (hs : (sizeOf t).run P w = .ok n w) :
    (loadVar t a).run P w = match rowAt w a with
      | some c => if c.size = n then .ok (.agg c) w else (slow (loadVar t a)).run P w
      | none => (slow (loadVar t a)).run P w := by
  split
  · rename_i c hc
    obtain ⟨h1, h2⟩ := at_head hc
    rw [h1]
    rw [run_loadVar_of P w t a.block n ha hs, h2]
  · rfl
theorem run_storeVar_at (P : Program) (w : World) (t : TypeId) (a : Addr) (n : Nat) (cs : Array Value) (hs : (sizeOf t).run P w = .ok n w) :
    (storeVar t a (.agg cs)).run P w = match rowAt w a with
      | some c => if c.size = n ∧ cs.size = n ∧ n ≠ 0 ∧ cs.toList.all Value.oneCell' = true then .ok () (setRow w a.block cs) else (slow (storeVar t a (.agg cs))).run P w
      | none => (slow (storeVar t a (.agg cs))).run P w := by
  split
  · rename_i c hc
    obtain ⟨h1, h2⟩ := at_head hc
    rw [h1]
    rw [run_storeVar_of P w t a.block n cs hs, h2]
  · rfl
theorem run_loadAt_any (P : Program) (w : World) (t : TypeId) (n : Nat) (ha : (isAgg t).run P w = .ok true w) (hs : (sizeOf t).run P w = .ok n w) (p : Value) :
    (Instr.loadAt t p).run P w = match p with
      | .pointer (some a) => (match rowAt w a with
        | some c => if c.size = n then .ok (.agg c) w else (slow (Instr.loadAt t (.pointer (some a)))).run P w
        | none => (slow (Instr.loadAt t (.pointer (some a)))).run P w)
      | p => (slow (Instr.loadAt t p)).run P w := by
  split
  · rename_i a
    have h : (Instr.loadAt t (.pointer (some a))).run P w = (loadVar t a).run P w := by simp [Instr.loadAt, Instr.sureAddr]
    rw [h, run_loadVar_at P w t a n ha hs]
    split
    · split
      · rfl
      · exact h.symm
    · exact h.symm
  · rfl
theorem run_storeAt_any (P : Program) (w : World) (t : TypeId) (n : Nat) (hs : (sizeOf t).run P w = .ok n w) (p v : Value) :
    (Instr.storeAt t p v).run P w = match p, v with
      | .pointer (some a), .agg cs => (match rowAt w a with
        | some c => if c.size = n ∧ cs.size = n ∧ n ≠ 0 ∧ cs.toList.all Value.oneCell' = true then .ok () (setRow w a.block cs) else (slow (Instr.storeAt t (.pointer (some a)) (.agg cs))).run P w
        | none => (slow (Instr.storeAt t (.pointer (some a)) (.agg cs))).run P w)
      | p, v => (slow (Instr.storeAt t p v)).run P w := by
  split
  · rename_i a cs
    have h : (Instr.storeAt t (.pointer (some a)) (.agg cs)).run P w = (storeVar t a (.agg cs)).run P w := by simp [Instr.storeAt, Instr.sureAddr]
    rw [h, run_storeVar_at P w t a n cs hs]
    split
    · split
      · rfl
      · exact h.symm
    · exact h.symm
  · rfl
def slowP (p : Prop) : Prop := p
theorem row_new {w : World} {c : Array Value} {t : TypeId} {n : Nat} (hn : n = w.heap.size) : rowOf (w.alloc (.cells c t)) n = some c := rowOf_alloc_at c t n hn
theorem row_old {w : World} {o : Obj} {n : Nat} {c : Array Value} (h : rowOf w n = some c) : rowOf (w.alloc o) n = some c := (rowOf_alloc_past o n (rowOf_lt h)).trans h
theorem row_drew {w : World} {n : Nat} {c : Array Value} (h : rowOf w n = some c) : rowOf w.drew n = some c := h
theorem row_drewN {w : World} {m n : Nat} {c : Array Value} (h : rowOf w n = some c) : rowOf (w.drewN m) n = some c := h
theorem row_set_other {w : World} {b n : Nat} {c c' : Array Value} (h : rowOf w n = some c) (hne : n ≠ b) : rowOf (setRow w b c') n = some c := (rowOf_setRow_other b n c' hne).trans h
theorem row_set_same {w : World} {b : Nat} {c c' : Array Value} (h : rowOf w b = some c) : rowOf (setRow w b c') b = some c' := rowOf_setRow_same b c' (by rw [h]; rfl)
theorem row_cell_other {w : World} {b i n : Nat} {v : Value} {c : Array Value} (h : rowOf w n = some c) (hne : n ≠ b) : rowOf (w.setCell ⟨b, i, none⟩ v) n = some c := (rowOf_setCell_other ⟨b, i, none⟩ n v hne).trans h
theorem row_cell_same {w : World} {b i : Nat} {v : Value} {c c' : Array Value} (h : rowOf w b = some c) (e : c.setIfInBounds i v = c') : rowOf (w.setCell ⟨b, i, none⟩ v) b = some c' := by rw [rowOf_setCell_same, h]; simp [e]
theorem cell_setRow_same {w : World} (b i : Nat) (c : Array Value) (h : (rowOf w b).isSome = true) : (setRow w b c).cell? ⟨b, i, none⟩ = c[i]? := rowOf_cell (rowOf_setRow_same b c h) i
theorem frozen_setRow_same {w : World} (b i : Nat) (c : Array Value) (h : (rowOf w b).isSome = true) : (setRow w b c).frozen? ⟨b, i, none⟩ = false := rowOf_frozen (rowOf_setRow_same b c h) i
theorem cell_setRow_other {w : World} (b n i : Nat) (c : Array Value) (h : n ≠ b) : (setRow w b c).cell? ⟨n, i, none⟩ = w.cell? ⟨n, i, none⟩ := World.cell?_of_block (w := w) (heap_setRow w b c n h)
theorem frozen_setRow_other {w : World} (b n i : Nat) (c : Array Value) (h : n ≠ b) : (setRow w b c).frozen? ⟨n, i, none⟩ = w.frozen? ⟨n, i, none⟩ := World.frozen?_of_block (w := w) (heap_setRow w b c n h)
/-- old memory is as it was: from one world to the next -/
theorem bstep {B : Nat} {a W w1 : World} (h : Below B a W) (hb : Below W.heap.size W w1) (hB : B ≤ W.heap.size) : Below B a w1 := h.trans (hb.mono hB)
theorem blast {B : Nat} {a w : World} (h : Below B a w) (n : Nat) : Below B a (w.drewN n) := ⟨h.os, h.tape, h.output, h.size, h.block⟩
end Go.Proofs.YthhceggcdaljdaaGreat
/- a whole api.Item loaded and stored in one step -/
namespace Go.Proofs.YthhceggcdaljdaaGreat
open Go.RowKit
set_option linter.unusedVariables false
set_option linter.unusedSimpArgs false

theorem loadI (dst : Option Nat) (type : TypeId) (pos : String) (after : Array Edge) (guard : Option (Nat × Bool)) (x : Operand) (a : Act) (w : World) (next : Act → World → Prop) (Q : Exit → Act → World → Prop) :
    Oper.wp Tryz.prog ⟨dst, .load 57 x, type, pos, after, guard⟩ a w next Q = match a.eval x with
      | .pointer (some ad) => (match rowAt w ad with
        | some c => if c.size = 3 then next (a.put dst (.agg c)) w else slowP (Oper.wp Tryz.prog ⟨dst, .load 57 x, type, pos, after, guard⟩ a w next Q)
        | none => slowP (Oper.wp Tryz.prog ⟨dst, .load 57 x, type, pos, after, guard⟩ a w next Q))
      | _ => slowP (Oper.wp Tryz.prog ⟨dst, .load 57 x, type, pos, after, guard⟩ a w next Q) := by
  split
  · rename_i ad hx
    split
    · rename_i c hc
      split
      · rename_i hn
        have h := run_loadAt_any Tryz.prog w 57 3 (by kernel_rfl) (by kernel_rfl) (.pointer (some ad))
        simp only [hc, hn, if_true] at h
        simp only [Oper.wp, execOp, hx, Sem.run_bind, h, Result.andThen, Sem.run_pure, Oper.upon_value]
      · rfl
    · rfl
  · rfl
theorem storeI (dst : Option Nat) (type : TypeId) (pos : String) (after : Array Edge) (guard : Option (Nat × Bool)) (x y : Operand) (a : Act) (w : World) (next : Act → World → Prop) (Q : Exit → Act → World → Prop) :
    Oper.wp Tryz.prog ⟨dst, .store 57 x y, type, pos, after, guard⟩ a w next Q = match a.eval x, a.eval y with
      | .pointer (some ad), .agg cs => (match rowAt w ad with
        | some c => if c.size = 3 ∧ cs.size = 3 ∧ 3 ≠ 0 ∧ cs.toList.all Value.oneCell' = true then next (a.put dst undef) (setRow w ad.block cs) else slowP (Oper.wp Tryz.prog ⟨dst, .store 57 x y, type, pos, after, guard⟩ a w next Q)
        | none => slowP (Oper.wp Tryz.prog ⟨dst, .store 57 x y, type, pos, after, guard⟩ a w next Q))
      | _, _ => slowP (Oper.wp Tryz.prog ⟨dst, .store 57 x y, type, pos, after, guard⟩ a w next Q) := by
  split
  · rename_i ad cs hx hy
    split
    · rename_i c hc
      split
      · rename_i hn
        have h := run_storeAt_any Tryz.prog w 57 3 (by kernel_rfl) (.pointer (some ad)) (.agg cs)
        simp only [hc] at h
        rw [if_pos hn] at h
        simp only [Oper.wp, execOp, hx, hy, Sem.run_bind, h, Result.andThen, Sem.run_pure, Oper.upon_skip]
      · rfl
    · rfl
  · rfl
end Go.Proofs.YthhceggcdaljdaaGreat
